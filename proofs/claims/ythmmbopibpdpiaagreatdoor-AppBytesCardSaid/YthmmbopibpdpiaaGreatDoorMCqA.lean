/- The program's table of how many keys a kind has; its contracts keysFit, valuesFit, Check: which commands may be. The library's search of a row of texts by the program's own test of keys. Which commands may be: the program's keysFit, valueFits, valuesFit, Check. Which commands may be: the program's valueFits, valuesFit, Check. Which commands may be: the program's valuesFit, Check. The program's Check. -/
import Derived.Test.YthmmbopibpdpiaaGreatDoorMCmP
import Derived.Test.YthmmbopibpdpiaaGreatDoorCmGreatM
import Derived.LoopTactic
-- CqT
namespace Go.Proofs.YthmmbopibpdpiaaGreatDoor
open Go.RowKit

def leastT (k : Nat) : Nat := if k = 0 then 0 else if k = 6 then 2 else 1
def mostT (k : Nat) : Nat := if k = 0 then 0 else if k = 6 then 2 else if k = 7 then 16 else if k = 8 then 16 else 1
/-- The table as it lies. -/
def TabQ (w : World) : Prop := 0 < w.heap.size ∧ ∀ i, i < 9 → w.cell? ⟨0, i * 2, none⟩ = some (.int .i64 (leastT i : Int)) ∧ w.cell? ⟨0, i * 2 + 1, none⟩ = some (.int .i64 (mostT i : Int))
theorem TabQ.grew {w w' : World} (h : TabQ w) (hb : Below w.heap.size w w') : TabQ w' :=
  ⟨Nat.lt_of_lt_of_le h.1 hb.size, fun i hi => ⟨(hb.cell (p := ⟨0, i * 2, none⟩) h.1).trans (h.2 i hi).1, (hb.cell (p := ⟨0, i * 2 + 1, none⟩) h.1).trans (h.2 i hi).2⟩⟩

/-- Whether a key may not be. -/
def badK (s : ByteArray) : Bool := decide (s.size = 0 ∨ 32 < s.size)
set_option maxRecDepth 100000 in
theorem wrong_any (s : ByteArray) (hs : s.size ≤ maxLen) (w : World) : Calls Tryz.prog 71 #[.string s] w fun e W' => e = .returned (.bool (badK s)) ∧ W' = w := by
  have hs64 : (s.size : Int) ≤ 9223372036854775807 := by simp only [maxLen] at hs; omega
  by_cases h0 : s.size = 0
  · obtain rfl := size0.1 h0
    go_enter Tryz.func71, Tryz.ntmps71
    go_wp2
    all_goals
      go_ret
      exact ⟨rfl, rfl⟩
  · have hne : s.toList.isEmpty = false := by rw [toE]; simpa using h0
    have hne2 : ¬ s.toList = [] := by rw [toNil]; exact h0
    by_cases h1 : 32 < s.size
    · have h1i : (32 : Int) < s.size := by omega
      have hb : badK s = true := by simp [badK, h1]
      have HB := Lib.hid hb
      clear hb
      go_enter Tryz.func71, Tryz.ntmps71
      go_wp2
      all_goals
        go_ret
        exact ⟨by rw [HB.out]; first | rfl | simp_all, rfl⟩
    · have h1i : ¬ (32 : Int) < s.size := by omega
      have hb : badK s = false := by simp [badK, h1, h0]
      have HB := Lib.hid hb
      clear hb
      go_enter Tryz.func71, Tryz.ntmps71
      go_wp2
      all_goals
        go_ret
        exact ⟨by rw [HB.out]; first | rfl | simp_all, rfl⟩
end Go.Proofs.YthmmbopibpdpiaaGreatDoor

-- CqI
namespace Go.Proofs.YthmmbopibpdpiaaGreatDoor
open Go.RowKit

def badTo (ks : List ByteArray) (k : Nat) : Prop := ∀ j (h : j < ks.length), j < k → badK ks[j] = false
theorem badTo_all {ks : List ByteArray} (h : badTo ks ks.length) : ks.any badK = false := by
  rw [List.any_eq_false]
  intro x hx
  obtain ⟨j, hj, rfl⟩ := List.getElem_of_mem hx
  simp [h j hj hj]
/-- A place, or none. -/
structure IdxP (b : Bool) (z : Int) : Prop where
  lo : -1 ≤ z
  hi : z < 9223372036854775807
  yes : b = true → 0 ≤ z
  no : b = false → z = -1
set_option maxRecDepth 100000 in
set_option maxHeartbeats 4000000 in
theorem index_s (A : Option Addr) (L c : Nat) (ks : List ByteArray) (hL : L = ks.length) (hm : L ≤ 140737488351232) (hks : ∀ k ∈ ks, k.size ≤ maxLen) (w : World) (hA : HasS w A ks) :
    Calls Tryz.prog 86 #[.slice A L c, .func (.func 71) #[] #[]] w fun e W' => ∃ z : Int, e = .returned (.int .i64 z) ∧ IdxP (ks.any badK) z ∧ W' = w := by
  have HL := Lib.hid hL
  have HA := Lib.hid hA
  have HK := Lib.hid hks
  have hLi : (L : Int) ≤ 140737488351232 := by omega
  clear hL hA hks hm
  go_enter Tryz.func86, Tryz.ntmps86
  go_wp2
  go_loopw [5, 8] (fun v5 i wr => wr = w ∧ ∃ k : Nat, k ≤ L ∧ i = .int .i64 (k : Int) ∧ Hid (badTo ks k)) (fun _ i _ => L - (intOf i).toNat)
  case atStart => exact ⟨rfl, 0, Nat.zero_le _, rfl, Lib.hid (fun j _ h => by omega)⟩
  case round =>
    obtain ⟨rfl, k, hk, rfl, hb⟩ := hrel
    by_cases hlt : k < L
    · have hki : (k : Int) < L := by omega
      have hk1 : k < ks.length := by have := HL.out; omega
      obtain ⟨bk, o1, e1, l1, f1⟩ := HA.out (by rintro rfl; simp at hk1)
      subst e1
      have g1 := f1 k hk1
      obtain ⟨X, hX⟩ : ∃ X, X = ks[k] := ⟨_, rfl⟩
      rw [← hX] at g1
      have hXm : X.size ≤ maxLen := by rw [hX]; exact HK.out _ (List.getElem_mem hk1)
      have HX := Lib.hid (And.intro hX hXm)
      clear hX f1 hXm
      obtain ⟨b, hb2⟩ : ∃ b, b = badK X := ⟨_, rfl⟩
      have HB := Lib.hid hb2
      clear hb2
      go_wp2_with fail
      refine (wrong_any X HX.out.2 wr).mono ?_
      rintro e W1 ⟨rfl, rfl⟩
      rw [← HB.out]
      cases b with
      | true =>
        have hy : ks.any badK = true := by
          rw [List.any_eq_true]
          exact ⟨X, by rw [HX.out.1]; exact List.getElem_mem hk1, HB.out.symm⟩
        have HY := Lib.hid hy
        clear hy
        go_wp2
        go_ret
        exact ⟨_, rfl, ⟨by omega, by omega, fun _ => by omega, fun h => by rw [HY.out] at h; cases h⟩, rfl⟩
      | false =>
        go_wp2
        refine ⟨⟨trivial, k + 1, by omega, by congr 1, Lib.hid (fun j hj hjk => ?_)⟩, by simp only [intOf]; omega⟩
        rcases Nat.lt_or_ge j k with h | h
        · exact hb.out j hj h
        · have : j = k := by omega
          subst this
          rw [← HX.out.1, ← HB.out]
    · obtain rfl : k = L := by omega
      have hki : ¬ (k : Int) < k := by omega
      have hn : ks.any badK = false := badTo_all (by have := hb.out; rwa [HL.out] at this)
      have HN := Lib.hid hn
      clear hn hlt
      go_wp2
      go_ret
      exact ⟨_, rfl, ⟨by omega, by omega, fun h => (by rw [HN.out] at h; cases h), fun _ => rfl⟩, rfl⟩
set_option maxRecDepth 100000 in
theorem contains_s (A : Option Addr) (L c : Nat) (ks : List ByteArray) (hL : L = ks.length) (hm : L ≤ 140737488351232) (hks : ∀ k ∈ ks, k.size ≤ maxLen) (w : World) (hA : HasS w A ks) :
    Calls Tryz.prog 72 #[.slice A L c, .func (.func 71) #[] #[]] w fun e W' => e = .returned (.bool (ks.any badK)) ∧ W' = w := by
  obtain ⟨b, hb⟩ : ∃ b, b = ks.any badK := ⟨_, rfl⟩
  rw [← hb]
  have h := index_s A L c ks hL hm hks w hA
  rw [← hb] at h
  have H := Lib.hid h
  clear hb h hL hm hks hA
  go_enter Tryz.func72, Tryz.ntmps72
  go_wp2_with fail
  refine H.out.mono ?_
  rintro e W1 ⟨z, rfl, hz, rfl⟩
  cases b with
  | true =>
    have h0 := hz.yes rfl
    clear hz
    go_wp2
    go_ret
    exact ⟨rfl, rfl⟩
  | false =>
    have h0 := hz.no rfl
    subst h0
    clear hz
    go_wp2
    go_ret
    exact ⟨rfl, rfl⟩
end Go.Proofs.YthmmbopibpdpiaaGreatDoor

-- CqC
namespace Go.Proofs.YthmmbopibpdpiaaGreatDoor
open Go.RowKit

theorem boxed {w W0 : World} {cs : Array Value} {t : TypeId} (h : W0 = w.alloc (.cells cs t)) : Below w.heap.size w W0 ∧ W0.heap[w.heap.size]? = some (.cells cs t (0, 0)) := by
  subst h
  exact ⟨(Below.refl _ w).alloc (Nat.le_refl _) _, World.alloc_heap_new w _⟩
def keysB (m : CM) : Bool := decide ((1 ≤ m.kd ∧ m.kd ≤ 8) ∧ leastT m.kd ≤ m.ks.length ∧ m.ks.length ≤ mostT m.kd) && !(m.ks.any badK)
set_option maxRecDepth 100000 in
set_option maxHeartbeats 4000000 in
theorem keysFit_any (a : CmdV) (w : World) (hT : TabQ w) (ha : a.ok w) : Calls Tryz.prog 55 #[a.val] w fun e W' => e = .returned (.bool (keysB a.m)) ∧ Below w.heap.size w W' := by
  obtain ⟨acl, asq, akd, A, M, c, ks, old, new, n⟩ := a
  obtain ⟨hcl, hsq, hkd, hn64, hlen, hmx, hhas, heach, hold, hnew⟩ := ha
  simp only at hcl hsq hkd hn64 hlen hmx hhas heach hold hnew
  simp only [CmdV.val, CmdV.cells, CmdV.m]
  have HH := Lib.hid (And.intro hhas (And.intro hlen heach))
  have HT := Lib.hid hT
  have HMX := Lib.hid hmx
  have hM : (M : Int) ≤ 140737488351232 := by omega
  have hkd' : (akd : Int) < 256 := by omega
  clear hhas hlen heach hold hnew hT hmx
  go_enter Tryz.func55, Tryz.ntmps55
  go_upto_region 1 with (fail)
  obtain ⟨W0, hW0⟩ : ∃ W0, W0 = w.alloc (Obj.cells #[.int .u32 (acl : Int), .int .u32 (asq : Int), .int .u8 (akd : Int), .slice A M c, .string old, .string new, .int .i64 n] 34) := ⟨_, rfl⟩
  rw [← hW0]
  obtain ⟨hB, k1⟩ := boxed hW0
  obtain ⟨p, hp⟩ : ∃ p, p = w.heap.size := ⟨_, rfl⟩
  rw [← hp] at k1 ⊢
  have x2 := blk_cell k1 2
  have x3 := blk_cell k1 3
  simp at x2 x3
  have K1 := Lib.hid k1
  have BW := Lib.hid hB
  have HP := Lib.hid hp
  clear hW0 hp hB k1
  by_cases h0 : akd = 0
  · have hf : keysB ⟨acl, asq, akd, ks, old, new, n⟩ = false := by simp [keysB, h0]
    have HF := Lib.hid hf
    have q : ((akd : Int) == 0) = true := by simp; omega
    clear hf h0
    go_wp2
    all_goals
      go_ret
      exact ⟨by rw [HF.out]; rfl, BW.out⟩
  have q0 : ((akd : Int) == 0) = false := by simp; omega
  by_cases h9 : 9 ≤ akd
  · have hf : keysB ⟨acl, asq, akd, ks, old, new, n⟩ = false := by simp [keysB]; omega
    have HF := Lib.hid hf
    have q : (9 : Int) ≤ akd := by omega
    clear hf h0 h9
    go_wp2
    all_goals
      go_ret
      exact ⟨by rw [HF.out]; rfl, BW.out⟩
  have q9 : (akd : Int) < 9 := by omega
  have HK : Hid (1 ≤ akd ∧ akd ≤ 8) := Lib.hid ⟨by omega, by omega⟩
  have TT := (HT.out.grew BW.out).2 akd (by omega)
  obtain ⟨ls, hls⟩ : ∃ ls, ls = leastT akd := ⟨_, rfl⟩
  obtain ⟨ms, hms⟩ : ∃ ms, ms = mostT akd := ⟨_, rfl⟩
  rw [← hls, ← hms] at TT
  obtain ⟨t0, t1⟩ := TT
  have HLM := Lib.hid (And.intro hls hms)
  clear hls hms h0 h9
  go_upto_region 5 with (fail)
  obtain ⟨W2, hW2⟩ : ∃ W2, W2 = W0.alloc (Obj.cells #[.int .i64 (ls : Int), .int .i64 (ms : Int)] 132) := ⟨_, rfl⟩
  rw [← hW2]
  obtain ⟨hB2, k2⟩ := boxed hW2
  obtain ⟨q, hq⟩ : ∃ q, q = W0.heap.size := ⟨_, rfl⟩
  rw [← hq] at k2 ⊢
  have y0 := blk_cell k2 0
  have y1 := blk_cell k2 1
  simp at y0 y1
  have z1 := (hB2.block p (Array.getElem?_eq_some_iff.1 K1.out).1).trans K1.out
  have z3 := blk_cell z1 3
  simp at z3
  have BW2 := Lib.hid (BW.out.trans (Below.mono hB2 BW.out.size))
  clear hW2 hB2 k2 hq t0 t1 x2 x3 z1 q0 q9 hkd'
  obtain ⟨hhas, hlen, heach⟩ := HH.out
  have hc := contains_s A M c ks hlen HMX.out heach W2 (hhas.below BW2.out)
  obtain ⟨b, hb⟩ : ∃ b, b = ks.any badK := ⟨_, rfl⟩
  rw [← hb] at hc
  have HC := Lib.hid hc
  have HF : Hid (keysB ⟨acl, asq, akd, ks, old, new, n⟩ = (decide (ls ≤ M ∧ M ≤ ms) && !b)) := Lib.hid (by
    have e1 := HK.out
    have e2 := HLM.out
    simp only [keysB, ← e2.1, ← e2.2, ← hlen, ← hb]
    simp [e1])
  clear hb hc hhas hlen heach
  by_cases h1 : ls ≤ M
  · have h1i : (ls : Int) ≤ M := by omega
    by_cases h2 : M ≤ ms
    · have h2i : (M : Int) ≤ ms := by omega
      have HF2 : Hid (keysB ⟨acl, asq, akd, ks, old, new, n⟩ = !b) := Lib.hid (by rw [HF.out]; simp [h1, h2])
      clear h1 h2
      go_wp2_with (go_at_call 72; refine HC.out.mono ?_; rintro e' w' ⟨rfl, rfl⟩)
      go_ret
      exact ⟨by rw [HF2.out]; rfl, BW2.out⟩
    · have h2i : ¬ (M : Int) ≤ ms := by omega
      have HF2 : Hid (keysB ⟨acl, asq, akd, ks, old, new, n⟩ = false) := Lib.hid (by rw [HF.out]; simp [h2])
      clear h1 h2
      go_wp2
      all_goals
        go_ret
        exact ⟨by rw [HF2.out]; rfl, BW2.out⟩
  · have h1i : ¬ (ls : Int) ≤ M := by omega
    have HF2 : Hid (keysB ⟨acl, asq, akd, ks, old, new, n⟩ = false) := Lib.hid (by rw [HF.out]; simp [h1])
    clear h1
    go_wp2
    all_goals
      go_ret
      exact ⟨by rw [HF2.out]; rfl, BW2.out⟩
end Go.Proofs.YthmmbopibpdpiaaGreatDoor

-- CqV
namespace Go.Proofs.YthmmbopibpdpiaaGreatDoor
open Go.RowKit

def valB (s : ByteArray) (has : Bool) : Bool := decide (s.size = 0 ∨ (has = true ∧ s.size ≤ 64))
set_option maxRecDepth 100000 in
theorem valueFits_any (s : ByteArray) (has : Bool) (hs : s.size ≤ maxLen) (w : World) : Calls Tryz.prog 73 #[.string s, .bool has] w fun e W' => e = .returned (.bool (valB s has)) ∧ W' = w := by
  have hs64 : (s.size : Int) ≤ 9223372036854775807 := by simp only [maxLen] at hs; omega
  by_cases h0 : s.size = 0
  · have HF : Hid (valB s has = true) := Lib.hid (by simp [valB, h0])
    obtain rfl := size0.1 h0
    cases has
    all_goals
      go_enter Tryz.func73, Tryz.ntmps73
      go_wp2
      all_goals
        go_ret
        exact ⟨by rw [HF.out]; rfl, rfl⟩
  · have hne : s.toList.isEmpty = false := by rw [toE]; simpa using h0
    have hne2 : ¬ s.toList = [] := by rw [toNil]; exact h0
    by_cases h1 : s.size ≤ 64
    · have h1i : (s.size : Int) ≤ 64 := by omega
      have HF : Hid (valB s has = has) := Lib.hid (by simp [valB, h1, h0])
      cases has
      all_goals
        go_enter Tryz.func73, Tryz.ntmps73
        go_wp2
        all_goals
          go_ret
          exact ⟨by rw [HF.out]; first | rfl | simp_all, rfl⟩
    · have h1i : ¬ (s.size : Int) ≤ 64 := by omega
      have HF : Hid (valB s has = false) := Lib.hid (by simp [valB, h1, h0])
      cases has
      all_goals
        go_enter Tryz.func73, Tryz.ntmps73
        go_wp2
        all_goals
          go_ret
          exact ⟨by rw [HF.out]; first | rfl | simp_all, rfl⟩
def valsB (m : CM) : Bool := valB m.old (decide (m.kd = 5)) && (valB m.new (decide (m.kd = 1 ∨ m.kd = 5)) && decide (m.kd = 4 ∨ m.n = 0))
theorem may_split (m : CM) : m.May ↔ 0 < m.cl ∧ keysB m = true ∧ valsB m = true := by
  have hb : m.ks.any badK = false ↔ ∀ k ∈ m.ks, 1 ≤ k.size ∧ k.size ≤ 32 := by
    rw [List.any_eq_false]
    simp only [badK, decide_eq_true_eq]
    constructor
    · intro h k hk; have := h k hk; omega
    · intro h k hk; have := h k hk; omega
  simp only [keysB, valsB, valB, Bool.and_eq_true, decide_eq_true_eq, Bool.not_eq_true', hb]
  constructor
  · intro h
    obtain ⟨hkd, he, hcl, hl, ho, hn, ho0, hn0, h0⟩ := h
    refine ⟨hcl, ⟨⟨hkd, ?_⟩, he⟩, ?_, ?_, ?_⟩
    · simp only [leastK, mostK, leastT, mostT] at hl ⊢
      (repeat' split at hl) <;> (repeat' split) <;> omega
    · omega
    · omega
    · omega
  · rintro ⟨hcl, ⟨⟨hkd, hl⟩, he⟩, ho, hn, h0⟩
    refine ⟨hkd, he, hcl, ?_, by omega, by omega, by omega, by omega, by omega⟩
    simp only [leastK, mostK, leastT, mostT] at hl ⊢
    (repeat' split at hl) <;> (repeat' split) <;> omega
theorem may_B (m : CM) : m.may = (decide (0 < m.cl) && (keysB m && valsB m)) := by
  rw [Bool.eq_iff_iff, CM.may_iff, may_split]
  simp
end Go.Proofs.YthmmbopibpdpiaaGreatDoor

-- CqW
namespace Go.Proofs.YthmmbopibpdpiaaGreatDoor
open Go.RowKit

set_option maxRecDepth 100000 in
set_option maxHeartbeats 8000000 in
theorem valuesFit_any (a : CmdV) (w : World) (ha : a.ok w) : Calls Tryz.prog 56 #[a.val] w fun e W' => e = .returned (.bool (valsB a.m)) ∧ Below w.heap.size w W' := by
  obtain ⟨acl, asq, akd, A, M, c, ks, old, new, n⟩ := a
  obtain ⟨hcl, hsq, hkd, hn64, hlen, hmx, hhas, heach, hold, hnew⟩ := ha
  simp only at hcl hsq hkd hn64 hlen hmx hhas heach hold hnew
  simp only [CmdV.val, CmdV.cells, CmdV.m]
  have hkd' : (akd : Int) < 256 := by omega
  have HO : Hid (∀ (h : Bool) (w : World), Calls Tryz.prog 73 #[.string old, .bool h] w fun e W' => e = .returned (.bool (valB old h)) ∧ W' = w) := Lib.hid (fun h w => valueFits_any old h hold w)
  have HN : Hid (∀ (h : Bool) (w : World), Calls Tryz.prog 73 #[.string new, .bool h] w fun e W' => e = .returned (.bool (valB new h)) ∧ W' = w) := Lib.hid (fun h w => valueFits_any new h hnew w)
  have H64 := Lib.hid hn64
  clear hhas hlen heach hold hnew hmx hn64
  obtain ⟨r, hr⟩ : ∃ r, r = valsB ⟨acl, asq, akd, ks, old, new, n⟩ := ⟨_, rfl⟩
  rw [← hr]
  simp only [valsB] at hr
  obtain ⟨b5, h5⟩ : ∃ b, b = decide (akd = 5) := ⟨_, rfl⟩
  obtain ⟨b1, h1⟩ : ∃ b, b = decide (akd = 1) := ⟨_, rfl⟩
  obtain ⟨b4, h4⟩ : ∃ b, b = decide (akd = 4) := ⟨_, rfl⟩
  have e15 : decide (akd = 1 ∨ akd = 5) = (b1 || b5) := by rw [h1, h5]; simp
  have e40 : decide (akd = 4 ∨ n = 0) = (b4 || decide (n = 0)) := by rw [h4]; simp
  rw [← h5, e15, e40] at hr
  obtain ⟨z, hz⟩ : ∃ z, z = decide (n = 0) := ⟨_, rfl⟩
  rw [← hz] at hr
  have q5 : ((akd : Int) == 5) = b5 := by rw [h5]; exact kdE akd 5
  have q1 : ((akd : Int) == 1) = b1 := by rw [h1]; exact kdE akd 1
  have q4 : ((akd : Int) == 4) = b4 := by rw [h4]; exact kdE akd 4
  have qn : (n == 0) = z := by rw [hz]; rw [Bool.eq_iff_iff]; simp
  obtain ⟨vo, hvo⟩ : ∃ b, b = valB old b5 := ⟨_, rfl⟩
  obtain ⟨vn, hvn⟩ : ∃ b, b = valB new (b1 || b5) := ⟨_, rfl⟩
  rw [← hvo, ← hvn] at hr
  have GO : Hid (∀ (w : World), Calls Tryz.prog 73 #[.string old, .bool b5] w fun e W' => e = .returned (.bool vo) ∧ W' = w) := Lib.hid (by rw [hvo]; exact HO.out b5)
  have GN : Hid (∀ (w : World), Calls Tryz.prog 73 #[.string new, .bool (b1 || b5)] w fun e W' => e = .returned (.bool vn) ∧ W' = w) := Lib.hid (by rw [hvn]; exact HN.out _)
  have HR := Lib.hid hr
  clear hr e15 e40 h5 h1 h4 hz hvo hvn HO HN
  cases b1 <;> cases b5 <;> cases b4 <;> cases vo
  all_goals
   simp only [Bool.or_true, Bool.or_false] at GN
   go_enter Tryz.func56, Tryz.ntmps56
   go_upto_region 1 with (fail)
   obtain ⟨W0, hW0⟩ : ∃ W0, W0 = w.alloc (Obj.cells #[.int .u32 (acl : Int), .int .u32 (asq : Int), .int .u8 (akd : Int), .slice A M c, .string old, .string new, .int .i64 n] 34) := ⟨_, rfl⟩
   rw [← hW0]
   obtain ⟨hB, k1⟩ := boxed hW0
   obtain ⟨p, hp⟩ : ∃ p, p = w.heap.size := ⟨_, rfl⟩
   rw [← hp] at k1 ⊢
   have x2 := blk_cell k1 2
   have x4 := blk_cell k1 4
   have x5 := blk_cell k1 5
   have x6 := blk_cell k1 6
   simp at x2 x4 x5 x6
   have BW := Lib.hid hB
   have HP := Lib.hid hp
   clear hW0 hp hB k1
   go_wp2_with fail
   refine (GO.out _).mono ?_
   rintro e' w' ⟨rfl, rfl⟩
   go_wp2_with fail
   try
     refine (GN.out _).mono ?_
     rintro e' w' ⟨rfl, rfl⟩
     go_wp2_with fail
   all_goals
     go_ret
     exact ⟨by rw [HR.out]; first | rfl | (cases z <;> cases vn <;> first | rfl | contradiction | simp_all), BW.out⟩
end Go.Proofs.YthmmbopibpdpiaaGreatDoor

-- CqK
namespace Go.Proofs.YthmmbopibpdpiaaGreatDoor
open Go.RowKit

set_option maxRecDepth 100000 in
set_option maxHeartbeats 4000000 in
theorem Check_any (a : CmdV) (w : World) (hT : TabQ w) (ha : a.ok w) : Calls Tryz.prog 43 #[a.val] w fun e W' => e = .returned (.int .i64 ((if a.m.may then 0 else 1 : Nat) : Int)) ∧ Below w.heap.size w W' := by
  have HK : Hid (∀ W, Below w.heap.size w W → Calls Tryz.prog 55 #[a.val] W fun e W' => e = .returned (.bool (keysB a.m)) ∧ Below W.heap.size W W') := Lib.hid (fun W h => keysFit_any a W (hT.grew h) (ha.below h))
  have HV : Hid (∀ W, Below w.heap.size w W → Calls Tryz.prog 56 #[a.val] W fun e W' => e = .returned (.bool (valsB a.m)) ∧ Below W.heap.size W W') := Lib.hid (fun W h => valuesFit_any a W (ha.below h))
  obtain ⟨z, hz⟩ : ∃ z, z = decide (0 < a.m.cl) := ⟨_, rfl⟩
  obtain ⟨bk, hbk⟩ : ∃ z, z = keysB a.m := ⟨_, rfl⟩
  obtain ⟨bv, hbv⟩ : ∃ z, z = valsB a.m := ⟨_, rfl⟩
  rw [may_B, ← hz, ← hbk, ← hbv]
  rw [← hbk] at HK
  rw [← hbv] at HV
  have hcl := ha.cl
  obtain ⟨acl, asq, akd, A, M, c, ks, old, new, n⟩ := a
  simp only [CmdV.val, CmdV.cells, CmdV.m] at hz hcl HK HV ⊢
  have hz2 : z = decide (0 < acl) := hz
  have hcl2 : acl < 4294967296 := hcl
  have q : ((acl : Int) == 0) = !z := by rw [hz2, Bool.eq_iff_iff]; simp only [beq_iff_eq, Bool.not_eq_true', decide_eq_false_iff_not]; constructor <;> intro h <;> omega
  clear hbk hbv ha hT hz hz2 hcl hcl2
  go_enter Tryz.func43, Tryz.ntmps43
  go_upto_region 1 with (fail)
  obtain ⟨W0, hW0⟩ : ∃ W0, W0 = w.alloc (Obj.cells #[.int .u32 (acl : Int), .int .u32 (asq : Int), .int .u8 (akd : Int), .slice A M c, .string old, .string new, .int .i64 n] 34) := ⟨_, rfl⟩
  rw [← hW0]
  obtain ⟨hB, k1⟩ := boxed hW0
  obtain ⟨p, hp⟩ : ∃ p, p = w.heap.size := ⟨_, rfl⟩
  have lp : p < W0.heap.size := by rw [hp]; exact (Array.getElem?_eq_some_iff.1 k1).1
  rw [← hp] at k1 ⊢
  have FF : Hid (∀ W i u, Below W0.heap.size W0 W → (#[.int .u32 (acl : Int), .int .u32 (asq : Int), .int .u8 (akd : Int), .slice A M c, .string old, .string new, .int .i64 n] : Array Value)[i]? = some u → W.cell? ⟨p, i, none⟩ = some u) := Lib.hid (fun W i u hb hu => (hb.cell (p := ⟨p, i, none⟩) lp).trans (by rw [blk_cell k1 i]; simpa using hu))
  have BW := Lib.hid hB
  have HP := Lib.hid hp
  clear hW0 hp hB k1 lp
  have x0 := FF.out W0 0 _ (Below.refl _ _) rfl
  have x1 := FF.out W0 1 _ (Below.refl _ _) rfl
  have x2 := FF.out W0 2 _ (Below.refl _ _) rfl
  have x3 := FF.out W0 3 _ (Below.refl _ _) rfl
  have x4 := FF.out W0 4 _ (Below.refl _ _) rfl
  have x5 := FF.out W0 5 _ (Below.refl _ _) rfl
  have x6 := FF.out W0 6 _ (Below.refl _ _) rfl
  cases z
  · go_wp2
    go_ret
    exact ⟨rfl, BW.out⟩
  · go_wp2_with fail
    refine (HK.out W0 BW.out).mono ?_
    rintro e W1 ⟨rfl, hb1⟩
    have B1 := Lib.hid (BW.out.trans (Below.mono hb1 BW.out.size))
    have y0 := FF.out W1 0 _ hb1 rfl
    have y1 := FF.out W1 1 _ hb1 rfl
    have y2 := FF.out W1 2 _ hb1 rfl
    have y3 := FF.out W1 3 _ hb1 rfl
    have y4 := FF.out W1 4 _ hb1 rfl
    have y5 := FF.out W1 5 _ hb1 rfl
    have y6 := FF.out W1 6 _ hb1 rfl
    clear x0 x1 x2 x3 x4 x5 x6 hb1
    cases bk
    · go_wp2
      go_ret
      exact ⟨rfl, B1.out⟩
    · go_wp2_with fail
      refine (HV.out W1 B1.out).mono ?_
      rintro e W2 ⟨rfl, hb2⟩
      have B2 := Lib.hid (B1.out.trans (Below.mono hb2 B1.out.size))
      clear y0 y1 y2 y3 y4 y5 y6 hb2
      cases bv
      all_goals
        go_wp2
        go_ret
        exact ⟨rfl, B2.out⟩
end Go.Proofs.YthmmbopibpdpiaaGreatDoor
