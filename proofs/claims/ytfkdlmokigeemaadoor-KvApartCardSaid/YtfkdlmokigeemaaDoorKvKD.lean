/- What the walk of KvApart asks of the program's package kv besides, and the law's own look. -/
import Derived.Test.YtfkdlmokigeemaaDoorMKvK
import Derived.Test.YtfkdlmokigeemaaDoorKvTchD
namespace Go.Proofs.YtfkdlmokigeemaaDoor
open Go.RowKit

/-- Touches. -/
structure KvKT (T : World → Prop) where
  touches : ∀ (v : CmdV) (w : World), T w → v.ok w → ¬ v.great → Calls Tryd.prog 6 #[v.val] w fun e W' => ∃ x, e = .returned x ∧ TxtS W' x (touchK v.ks) ∧ Below w.heap.size w W'
set_option maxRecDepth 100000 in
set_option maxHeartbeats 2000000 in
theorem in_any (A : Option Addr) (L c : Nat) (l : List ByteArray) (k : ByteArray) (w : World) (hL : L = l.length) (hLm : L ≤ 1000000) (hA : HasS w A l) :
    ∃ b : Bool, (b = true ↔ k ∈ l) ∧ Calls Tryd.prog 10 #[.slice A L c, .string k] w fun e W' => e = .returned (.bool b) ∧ Below w.heap.size w W' := by
  refine ⟨l.any fun x => decide (x = k), by simp, ?_⟩
  obtain ⟨b, hb⟩ : ∃ b, b = l.any fun x => decide (x = k) := ⟨_, rfl⟩
  rw [← hb]
  have HBB := Lib.hid hb
  have HL := Lib.hid hL
  have HA := Lib.hid hA
  have hLi : (L : Int) ≤ 1000000 := by omega
  clear hL hA hb
  go_enter Tryd.func10, Tryd.ntmps10
  go_wp2
  go_loopw [5] (fun i wr => wr = w ∧ ∃ j : Nat, j ≤ L ∧ i = .int .i64 (j : Int) ∧ Hid (∀ x (h1 : x < l.length), x < j → l[x] ≠ k)) (fun i _ => L - (intOf i).toNat)
  case atStart => exact ⟨rfl, 0, Nat.zero_le _, rfl, Lib.hid (fun x _ h => by omega)⟩
  case round =>
    obtain ⟨rfl, j, hj, rfl, HB⟩ := hrel
    by_cases hlt : j < L
    · have hji : (j : Int) < L := by omega
      have hj1 : j < l.length := by have := HL.out; omega
      obtain ⟨bb, o, e1, l1, f1⟩ := HA.out (by rintro rfl; simp at hj1)
      subst e1
      have g1 := f1 j hj1
      obtain ⟨t, ht⟩ : ∃ t, t = l[j] := ⟨_, rfl⟩
      rw [← ht] at g1
      have HT := Lib.hid ht
      clear ht f1
      by_cases he : t = k
      · subst he
        have hbt : b = true := by rw [HBB.out, List.any_eq_true]; exact ⟨t, by rw [HT.out]; exact List.getElem_mem hj1, by simp⟩
        subst hbt
        go_wp2
        go_ret
        exact ⟨rfl, Below.refl _ _⟩
      · have hne : ¬ t.toList = k.toList := fun h => he (toList_inj9.1 h)
        have hneb : (t.toList == k.toList) = false := by simpa using hne
        go_wp2
        refine ⟨⟨trivial, j + 1, by omega, by congr 1, Lib.hid (fun x h1 h2 => ?_)⟩, by simp only [intOf]; omega⟩
        by_cases hx : x < j
        · exact HB.out x h1 hx
        · obtain rfl : x = j := by omega
          rw [← HT.out]
          exact he
    · have hji : ¬ (j : Int) < L := by omega
      obtain rfl : j = L := by omega
      have hbf : b = false := by
        rw [HBB.out, List.any_eq_false]
        intro x hx
        obtain ⟨i, hi, rfl⟩ := List.mem_iff_getElem.1 hx
        simpa using HB.out i hi (by have := HL.out; omega)
      subst hbf
      go_wp2
      go_ret
      exact ⟨rfl, Below.refl _ _⟩
end Go.Proofs.YtfkdlmokigeemaaDoor
