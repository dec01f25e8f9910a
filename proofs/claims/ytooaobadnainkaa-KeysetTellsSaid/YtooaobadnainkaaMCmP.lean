/- Plain mathematics of commands: which may be, their bytes, a batch's. Rows of commands. The reference's May: which commands may be. -/
import Derived.Test.YtooaobadnainkaaFoldMath
import Derived.Test.YtooaobadnainkaaCmSpec
import Derived.Deep.DeepCutAuto
import Derived.Deep.CutBlock
-- CmMath
namespace Go.Proofs.Ytooaobadnainkaa

/-- A command, wherever it lies. -/
structure CM where
  cl : Nat
  sq : Nat
  kd : Nat
  ks : List ByteArray
  old : ByteArray
  new : ByteArray
  n : Int
def CM.one (m : CM) : List UInt8 := vb m.cl ++ vb m.sq ++ vb m.kd ++ vb m.ks.length ++ m.ks.flatMap txt ++ txt m.old ++ txt m.new ++ vb (foldN m.n)
/-- How few, how many keys a kind has. -/
def leastK (kd : Nat) : Nat := if kd = 6 then 2 else 1
def mostK (kd : Nat) : Nat := if kd = 6 then 2 else if kd = 7 ∨ kd = 8 then 16 else 1
structure CM.May (m : CM) : Prop where
  kd : 1 ≤ m.kd ∧ m.kd ≤ 8
  each : ∀ k ∈ m.ks, 1 ≤ k.size ∧ k.size ≤ 32
  cl : 0 < m.cl
  len : leastK m.kd ≤ m.ks.length ∧ m.ks.length ≤ mostK m.kd
  old : m.old.size ≤ 64
  new : m.new.size ≤ 64
  old0 : m.old.size = 0 ∨ m.kd = 5
  new0 : m.new.size = 0 ∨ m.kd = 1 ∨ m.kd = 5
  n0 : m.n = 0 ∨ m.kd = 4
open Classical in
noncomputable def CM.may (m : CM) : Bool := decide m.May
theorem CM.may_iff {m : CM} : m.may = true ↔ m.May := by simp [CM.may]
theorem CM.may_no {m : CM} : m.may = false ↔ ¬ m.May := by simp [CM.may]
/-- Whose numbers are numbers of the program. -/
structure CM.Wf (m : CM) : Prop where
  cl : m.cl < 4294967296
  sq : m.sq < 4294967296
  kd : m.kd < 256
  n : -9223372036854775808 ≤ m.n ∧ m.n ≤ 9223372036854775807
theorem mostK_le (kd : Nat) : mostK kd ≤ 16 := by unfold mostK; split <;> (try split) <;> omega
theorem flat_len : ∀ (l : List ByteArray) (N : Nat), N ≤ 1000000 → (∀ k ∈ l, k.size ≤ N) → (l.flatMap txt).length ≤ l.length * (N + 10)
  | [], _, _, _ => by simp
  | k :: l, N, hN, h => by
    have h1 := flat_len l N hN (fun x hx => h x (List.mem_cons_of_mem _ hx))
    have h3 := h k (List.mem_cons_self ..)
    have h2 := txt_le (s := k) (by omega)
    rw [List.flatMap_cons, List.length_append, List.length_cons, Nat.add_mul]
    omega
theorem CM.one_len {m : CM} (h : m.May) (hw : m.Wf) : m.one.length ≤ 898 := by
  have h1 := vb_len10 (n := m.cl) (by have := hw.cl; omega)
  have h2 := vb_len10 (n := m.sq) (by have := hw.sq; omega)
  have h3 := vb_len10 (n := m.kd) (by have := hw.kd; omega)
  have hk := mostK_le m.kd
  have h4 := vb_len10 (n := m.ks.length) (by have := h.len; omega)
  have h5 := flat_len m.ks 32 (by omega) (fun k hk => (h.each k hk).2)
  have h6 := txt_le (s := m.old) (by have := h.old; omega)
  have h7 := txt_le (s := m.new) (by have := h.new; omega)
  have h8 := vb_len10 (n := foldN m.n) (foldN_lt hw.n.1 hw.n.2)
  have h9 := h.len
  have h10 := h.old
  have h11 := h.new
  simp only [CM.one, List.length_append]
  omega
def batchM (l : List CM) : List UInt8 := vb l.length ++ l.flatMap CM.one
/-- Which rows of commands may be a batch. -/
structure MayB (l : List CM) : Prop where
  len : l.length ≤ 8
  each : ∀ m ∈ l, m.May
open Classical in
noncomputable def batchR (l : List CM) : List UInt8 × Nat := if MayB l then (batchM l, 0) else ([], 1)
theorem batchR_ok {l : List CM} (h : MayB l) : batchR l = (batchM l, 0) := if_pos h
theorem batchR_no {l : List CM} (h : ¬ MayB l) : batchR l = ([], 1) := if_neg h
theorem flatOne_len : ∀ (l : List CM), (∀ m ∈ l, m.May) → (∀ m ∈ l, m.Wf) → (l.flatMap CM.one).length ≤ l.length * 898
  | [], _, _ => by simp
  | m :: l, h, hw => by
    have h1 := flatOne_len l (fun x hx => h x (List.mem_cons_of_mem _ hx)) (fun x hx => hw x (List.mem_cons_of_mem _ hx))
    have h2 := CM.one_len (h m (List.mem_cons_self ..)) (hw m (List.mem_cons_self ..))
    rw [List.flatMap_cons, List.length_append, List.length_cons]
    omega
theorem batchM_len {l : List CM} (h : MayB l) (hw : ∀ m ∈ l, m.Wf) : (batchM l).length ≤ 7200 := by
  have h1 := flatOne_len l h.each hw
  have h2 := vb_len10 (n := l.length) (by have := h.len; omega)
  have h3 := h.len
  simp only [batchM, List.length_append]
  omega
end Go.Proofs.Ytooaobadnainkaa

-- CmRow
namespace Go.Proofs.Ytooaobadnainkaa
open Go.RowKit

/-- Commands that lie in a row. -/
def HasC (w : World) (A : Option Addr) (l : List CmdV) : Prop := l ≠ [] → ∃ b o, A = some ⟨b, o, none⟩ ∧ b < w.heap.size ∧ ∀ j (h : j < l.length), (∀ i u, l[j].cells[i]? = some u → w.cell? ⟨b, o + j * 7 + i, none⟩ = some u) ∧ l[j].ok w
theorem CmdV.ok.below {w W : World} {a : CmdV} (h : a.ok w) (hb : Below w.heap.size w W) : a.ok W :=
  ⟨h.cl, h.sq, h.kd, h.n, h.len, h.max, h.has.below hb, h.each, h.old, h.new⟩
theorem HasC.below {w W : World} {A : Option Addr} {l : List CmdV} (h : HasC w A l) (hb : Below w.heap.size w W) : HasC W A l := fun hl => by
  obtain ⟨b, o, e, h1, h2⟩ := h hl
  exact ⟨b, o, e, Nat.lt_of_lt_of_le h1 hb.size, fun j hj => ⟨fun i u hu => (hb.cell (p := ⟨b, o + j * 7 + i, none⟩) h1).trans ((h2 j hj).1 i u hu), (h2 j hj).2.below hb⟩⟩
/-- Whether two rows are alike. -/
def sameAllC : List CmdV → List CmdV → Bool
  | [], [] => true
  | a :: l, b :: m => a.same b && sameAllC l m
  | _, _ => false
theorem sameAllC_len : ∀ {l m : List CmdV}, l.length ≠ m.length → sameAllC l m = false
  | [], [], h => absurd rfl h
  | [], _ :: _, _ => rfl
  | _ :: _, [], _ => rfl
  | a :: l, b :: m, h => by simp only [sameAllC, sameAllC_len (l := l) (m := m) (by simpa using h), Bool.and_false]
theorem sameAllC_no : ∀ {l m : List CmdV} (k : Nat) (h1 : k < l.length) (h2 : k < m.length), l[k].same m[k] = false → sameAllC l m = false
  | a :: l, b :: m, 0, _, _, h => by simp only [List.getElem_cons_zero] at h; simp only [sameAllC, h, Bool.false_and]
  | a :: l, b :: m, k + 1, h1, h2, h => by
    simp only [List.getElem_cons_succ] at h
    simp only [sameAllC, sameAllC_no k (by simpa using h1) (by simpa using h2) h, Bool.and_false]
theorem sameAllC_yes : ∀ {l m : List CmdV}, l.length = m.length → (∀ k (h1 : k < l.length) (h2 : k < m.length), l[k].same m[k] = true) → sameAllC l m = true
  | [], [], _, _ => rfl
  | a :: l, b :: m, hl, h => by
    have h0 := h 0 (by simp) (by simp)
    simp only [List.getElem_cons_zero] at h0
    simp only [sameAllC, h0, Bool.true_and]
    exact sameAllC_yes (by simpa using hl) fun k h1 h2 => h (k + 1) (Nat.succ_lt_succ h1) (Nat.succ_lt_succ h2)
end Go.Proofs.Ytooaobadnainkaa

-- CmMay
namespace Go.Proofs.Ytooaobadnainkaa
open Go.RowKit

def CmdV.m (a : CmdV) : CM := ⟨a.cl, a.sq, a.kd, a.ks, a.old, a.new, a.n⟩
theorem CmdV.ok.wf {w : World} {a : CmdV} (h : a.ok w) : a.m.Wf := ⟨h.cl, h.sq, h.kd, h.n⟩
open Classical in
theorem CmdV.same_m {a b : CmdV} : a.same b = true ↔ a.m = b.m := by
  obtain ⟨acl, asq, akd, _, _, _, ks, old, new, n⟩ := a
  obtain ⟨bcl, bsq, bkd, _, _, _, ks', old', new', n'⟩ := b
  simp only [CmdV.same, CmdV.m, decide_eq_true_eq, CM.mk.injEq]
  constructor
  · rintro ⟨h1, h2, h3, h4, h5, h6, h7⟩; exact ⟨h2, h3, h4, h1, h5, h6, h7⟩
  · rintro ⟨h2, h3, h4, h1, h5, h6, h7⟩; exact ⟨h1, h2, h3, h4, h5, h6, h7⟩
theorem size0 {s : ByteArray} : s.size = 0 ↔ s = ⟨#[]⟩ := by
  constructor
  · intro h
    obtain ⟨d⟩ := s
    have : d.size = 0 := h
    rw [Array.eq_empty_of_size_eq_zero this]
  · rintro rfl; rfl
theorem toE (s : ByteArray) : s.toList.isEmpty = decide (s.size = 0) := by
  rw [ByteArray.toList_eq]
  obtain ⟨d⟩ := s
  show d.toList.isEmpty = decide (d.size = 0)
  rw [← Array.length_toList]
  cases d.toList <;> simp
theorem toNil (s : ByteArray) : s.toList = [] ↔ s.size = 0 := by
  have := toE s
  rw [Bool.eq_iff_iff, List.isEmpty_iff, decide_eq_true_iff] at this
  exact this
theorem kdE (a k : Nat) : ((a : Int) == (k : Int)) = decide (a = k) := by
  rw [Bool.eq_iff_iff]; simp; omega
end Go.Proofs.Ytooaobadnainkaa
