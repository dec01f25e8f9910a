/- Rows of acts on a table; which are too great for a walk. -/
import Derived.Test.YtelbgjnaceffeaaSsWk
namespace Go.Proofs.Ytelbgjnaceffeaa
open Go.RowKit

/-- An act as it lies. -/
structure SA where
  kp : Bool
  cl : Nat
  sq : Nat
  cd : Nat
  tx : ByteArray
structure SA.ok (a : SA) : Prop where
  cl : a.cl < 4294967296
  sq : a.sq < 4294967296
  cd : a.cd < 256
  tx : a.tx.size ≤ maxLen
/-- Acts that lie in a row. -/
def HasSA (w : World) (A : Option Addr) (l : List SA) : Prop := l ≠ [] → ∃ b o, A = some ⟨b, o, none⟩ ∧ b < w.heap.size ∧ ∀ j (h : j < l.length), l[j].ok ∧ w.cell? ⟨b, o + j * 5, none⟩ = some (.bool l[j].kp) ∧ w.cell? ⟨b, o + j * 5 + 1, none⟩ = some (.int .u32 (l[j].cl : Int)) ∧ w.cell? ⟨b, o + j * 5 + 2, none⟩ = some (.int .u32 (l[j].sq : Int)) ∧ w.cell? ⟨b, o + j * 5 + 3, none⟩ = some (.int .u8 (l[j].cd : Int)) ∧ w.cell? ⟨b, o + j * 5 + 4, none⟩ = some (.string l[j].tx)
theorem HasSA.below {w W : World} {A : Option Addr} {l : List SA} (h : HasSA w A l) (hb : Below w.heap.size w W) : HasSA W A l := fun hl => by
  obtain ⟨b, o, e, h1, h2⟩ := h hl
  refine ⟨b, o, e, Nat.lt_of_lt_of_le h1 hb.size, fun j hj => ?_⟩
  have k : ∀ i, W.cell? ⟨b, i, none⟩ = w.cell? ⟨b, i, none⟩ := fun i => hb.cell (p := ⟨b, i, none⟩) h1
  rw [k, k, k, k, k]
  exact h2 j hj
def bigS (a : SA) : Prop := 100 < a.tx.size ∨ 3 < a.cd
def greatS (l : List SA) : Prop := 200 < l.length ∨ ∃ a ∈ l, bigS a
set_option maxRecDepth 100000 in
set_option maxHeartbeats 4000000 in
theorem great10_any (A : Option Addr) (L c : Nat) (l : List SA) (w : World) (hL : L = l.length) (hLm : L ≤ 140737488351232) (hA : HasSA w A l) :
    ∃ b : Bool, (b = true ↔ greatS l) ∧ Calls Try.prog 10 #[.slice A L c] w fun e W' => e = .returned (.bool b) ∧ Below w.heap.size w W' := by
  classical
  refine ⟨decide (greatS l), by simp, ?_⟩
  obtain ⟨b, hb⟩ : ∃ b, b = decide (greatS l) := ⟨_, rfl⟩
  rw [← hb]
  have HB := Lib.hid hb
  have HL := Lib.hid hL
  have HA := Lib.hid hA
  have hLi : (L : Int) ≤ 140737488351232 := by omega
  clear hL hA hb
  go_enter Try.func10, Try.ntmps10
  go_wp2
  go_loopw [3] (fun i wr => wr = w ∧ ∃ j : Nat, j ≤ L ∧ j ≤ 201 ∧ i = .int .i64 (j : Int) ∧ Hid (∀ x (h : x < l.length), x < j → ¬ bigS l[x])) (fun i _ => 201 - (intOf i).toNat)
  case atStart => exact ⟨rfl, 0, Nat.zero_le _, Nat.zero_le _, rfl, Lib.hid (fun _ _ h => by omega)⟩
  case round =>
    obtain ⟨rfl, j, hj, hj2, rfl, HN⟩ := hrel
    by_cases hlt : j < L
    · have hji : (j : Int) < L := by omega
      by_cases h201 : j < 201
      · have h201i : (j : Int) < 201 := by omega
        have hj1 : j < l.length := by have := HL.out; omega
        obtain ⟨bb, o, e1, l1, f1⟩ := HA.out (by rintro rfl; simp at hj1)
        subst e1
        obtain ⟨okj, z0, z1, z2, z3, z4⟩ := f1 j hj1
        obtain ⟨a, ha⟩ : ∃ a, a = l[j] := ⟨_, rfl⟩
        rw [← ha] at okj z0 z1 z2 z3 z4
        obtain ⟨akp, acl, asq, acd, atx⟩ := a
        simp only at okj z0 z1 z2 z3 z4
        have hcd := okj.cd
        have htx := okj.tx
        simp only [maxLen] at hcd htx
        have htxi : (atx.size : Int) ≤ 9223372036854775807 := by omega
        have HAJ := Lib.hid ha
        clear okj f1 ha
        by_cases h1 : 100 < atx.size
        · have h1i : (100 : Int) < atx.size := by omega
          have hbt : b = true := by
            rw [HB.out, decide_eq_true_eq]
            exact .inr ⟨l[j], List.getElem_mem hj1, .inl (by rw [← HAJ.out]; exact h1)⟩
          subst hbt
          go_wp2
          all_goals
            go_ret
            exact ⟨rfl, Below.refl _ _⟩
        · have h1i : ¬ (100 : Int) < atx.size := by omega
          by_cases h2 : 3 < acd
          · have h2i : (3 : Int) < acd := by omega
            have hbt : b = true := by
              rw [HB.out, decide_eq_true_eq]
              exact .inr ⟨l[j], List.getElem_mem hj1, .inr (by rw [← HAJ.out]; exact h2)⟩
            subst hbt
            go_wp2
            all_goals
              go_ret
              exact ⟨rfl, Below.refl _ _⟩
          · have h2i : ¬ (3 : Int) < acd := by omega
            go_wp2
            all_goals
              refine ⟨⟨trivial, j + 1, by omega, by omega, by congr 1, Lib.hid (fun x hx hxj => ?_)⟩, by simp only [intOf]; omega⟩
              by_cases hxe : x = j
              · subst hxe
                rw [← HAJ.out]
                rintro (h | h)
                · exact h1 h
                · exact h2 h
              · exact HN.out x hx (by omega)
      · have h201i : ¬ (j : Int) < 201 := by omega
        have hbt : b = true := by
          rw [HB.out, decide_eq_true_eq]
          exact .inl (by have := HL.out; omega)
        have h200 : (200 : Int) < L := by omega
        subst hbt
        go_wp2
        all_goals
          go_ret
          exact ⟨rfl, Below.refl _ _⟩
    · have hji : ¬ (j : Int) < L := by omega
      obtain rfl : j = L := by omega
      by_cases h200 : 200 < j
      · have h200i : (200 : Int) < j := by omega
        have hbt : b = true := by
          rw [HB.out, decide_eq_true_eq]
          exact .inl (by have := HL.out; omega)
        subst hbt
        go_wp2
        all_goals
          go_ret
          exact ⟨rfl, Below.refl _ _⟩
      · have h200i : ¬ (200 : Int) < j := by omega
        have hbf : b = false := by
          rw [HB.out, decide_eq_false_iff_not]
          rintro (h | ⟨a, ha, hba⟩)
          · have := HL.out; omega
          · obtain ⟨x, hx, rfl⟩ := List.getElem_of_mem ha
            exact HN.out x hx (by have := HL.out; omega) hba
        subst hbf
        go_wp2
        all_goals
          go_ret
          exact ⟨rfl, Below.refl _ _⟩
end Go.Proofs.Ytelbgjnaceffeaa
