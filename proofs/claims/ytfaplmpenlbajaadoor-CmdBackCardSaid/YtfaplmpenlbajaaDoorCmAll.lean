/- The reference's All: two rows of commands. -/
import Derived.Test.YtfaplmpenlbajaaDoorCmSame
import Derived.Test.YtfaplmpenlbajaaDoorCmAllR
import Derived.Deep.DeepCutAuto
namespace Go.Proofs.YtfaplmpenlbajaaDoor
open Go.RowKit

set_option maxRecDepth 100000 in
set_option maxHeartbeats 4000000 in
theorem refAll_any (A A' : Option Addr) (L L' c c' : Nat) (l m : List CmdV) (hl : L = l.length) (hm : L' = m.length) (hL : L ≤ 140737488351232) (hL' : L' ≤ 140737488351232) (w : World) (hA : HasC w A l) (hA' : HasC w A' m) :
    Calls Tryd.prog 22 #[.slice A L c, .slice A' L' c'] w fun e W' => e = .returned (.bool (sameAllC l m)) ∧ Below w.heap.size w W' := by
  have HL := Lib.hid (And.intro hl hm)
  have HA := Lib.hid (And.intro hA hA')
  have hLi : (L : Int) ≤ 140737488351232 := by omega
  have hLi' : (L' : Int) ≤ 140737488351232 := by omega
  clear hl hm hA hA' hL hL'
  by_cases hne : L = L'
  · subst hne
    go_enter Tryd.func22, Tryd.ntmps22
    go_wp2
    go_loopw [5] (fun i wr => ∃ k : Nat, k ≤ L ∧ i = .int .i64 (k : Int) ∧ Hid (Below w.heap.size w wr ∧ ∀ j (h1 : j < l.length) (h2 : j < m.length), j < k → l[j].same m[j] = true)) (fun i _ => L - (intOf i).toNat)
    case atStart => exact ⟨0, Nat.zero_le _, rfl, Lib.hid ⟨Below.refl _ _, fun j _ _ h => by omega⟩⟩
    case round =>
      obtain ⟨k, hk, rfl, hb⟩ := hrel
      by_cases hlt : k < L
      · have hki : (k : Int) < L := by omega
        have hk1 : k < l.length := by have := HL.out.1; omega
        have hk2 : k < m.length := by have := HL.out.2; omega
        obtain ⟨b1, o1, e1, l1, f1⟩ := HA.out.1 (by rintro rfl; simp at hk1)
        obtain ⟨b2, o2, e2, l2, f2⟩ := HA.out.2 (by rintro rfl; simp at hk2)
        subst e1 e2
        obtain ⟨a, ha⟩ : ∃ a, a = l[k] := ⟨_, rfl⟩
        obtain ⟨b, hbb⟩ : ∃ b, b = m[k] := ⟨_, rfl⟩
        have g1 := f1 k hk1
        have g2 := f2 k hk2
        rw [← ha] at g1
        rw [← hbb] at g2
        have cA : ∀ i u, a.cells[i]? = some u → wr.cell? ⟨b1, o1 + k * 7 + i, none⟩ = some u := fun i u hu => (hb.out.1.cell (p := ⟨b1, o1 + k * 7 + i, none⟩) l1).trans (g1.1 i u hu)
        have cB : ∀ i u, b.cells[i]? = some u → wr.cell? ⟨b2, o2 + k * 7 + i, none⟩ = some u := fun i u hu => (hb.out.1.cell (p := ⟨b2, o2 + k * 7 + i, none⟩) l2).trans (g2.1 i u hu)
        have OK := Lib.hid (And.intro (g1.2.below hb.out.1) (g2.2.below hb.out.1))
        have HE := Lib.hid (And.intro ha hbb)
        have lb1 : b1 < wr.heap.size := Nat.lt_of_lt_of_le l1 hb.out.1.size
        have lb2 : b2 < wr.heap.size := Nat.lt_of_lt_of_le l2 hb.out.1.size
        have CA := Lib.hid (And.intro cA cB)
        clear cA cB g1 g2 f1 f2 ha hbb
        go_upto_region 6 with (fail)
        refine all_cmp b1 o1 L c b2 o2 L c' k a b hlt hlt _ wr _ rfl rfl rfl rfl lb1 lb2 CA.out.1 CA.out.2 OK.out.1 OK.out.2 ?_
        intro W2 hg2
        have HW := Lib.hid (hb.out.1.trans (Below.mono hg2 hb.out.1.size))
        clear hg2
        simp only [puts, List.foldl_cons, List.foldl_nil, Act.put, List.setIfInBounds_toArray, List.set_cons_succ, List.set_cons_zero]
        by_cases hs : a.same b = true
        · have HS := Lib.hid hs
          rw [hs]
          clear hs
          go_wp2
          exact ⟨⟨k + 1, by omega, by congr 1, Lib.hid ⟨HW.out, fun j h1 h2 hj => by
            rcases Nat.lt_or_ge j k with h | h
            · exact hb.out.2 j h1 h2 h
            · have : j = k := by omega
              subst this
              rw [← HE.out.1, ← HE.out.2]
              exact HS.out⟩⟩, by simp only [intOf]; omega⟩
        · have hs' : a.same b = false := by simpa using hs
          have hr : sameAllC l m = false := sameAllC_no k hk1 hk2 (by rw [← HE.out.1, ← HE.out.2]; exact hs')
          have HR := Lib.hid hr
          rw [hs']
          clear hs hs' hr
          go_wp2
          go_ret
          exact ⟨by rw [HR.out]; rfl, HW.out⟩
      · obtain rfl : k = L := by omega
        have hki : ¬ (k : Int) < k := by omega
        have hr : sameAllC l m = true := sameAllC_yes (HL.out.1.symm.trans HL.out.2) fun j h1 h2 => hb.out.2 j h1 h2 (by have := HL.out.1; omega)
        have HR := Lib.hid hr
        clear hlt hr
        go_wp2
        go_ret
        exact ⟨by rw [HR.out]; rfl, hb.out.1⟩
  · have hnei : ¬ (L : Int) = L' := by omega
    have hr : sameAllC l m = false := sameAllC_len (by have := HL.out; omega)
    have HR := Lib.hid hr
    clear hr
    go_enter Tryd.func22, Tryd.ntmps22
    go_wp2
    go_ret
    exact ⟨by rw [HR.out]; rfl, Below.refl _ _⟩
end Go.Proofs.YtfaplmpenlbajaaDoor
