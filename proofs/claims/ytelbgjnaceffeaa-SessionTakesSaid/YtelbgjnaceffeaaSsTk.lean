/- SessionTakes' walk. -/
import Derived.Test.YtelbgjnaceffeaaSsTkR
import Derived.Test.YtelbgjnaceffeaaMRdE
namespace Go.Proofs.Ytelbgjnaceffeaa
open Go.RowKit

set_option maxRecDepth 100000 in
set_option maxHeartbeats 4000000 in
theorem SessionTakes_any {T : World → Prop} (K : SessK T) (KP : SessKP K) (A : Option Addr) (L c : Nat) (bs : List UInt8) (w : World) (hT : T w) (hL : L = bs.length) (hLm : L ≤ maxLen) (hA : HasA w w.heap.size A bs) :
    Calls Try.prog 3 #[.slice A L c] w fun e W' => e = .returned (.bool true) ∧ Below w.heap.size w W' := by
  have HT := Lib.hid hT
  have HL := Lib.hid hL
  have HA := Lib.hid hA
  have hLi : (L : Int) ≤ 9223372036854775807 := by simp only [maxLen] at hLm; omega
  clear hT hL hA hLm
  go_enter Try.func3, Try.ntmps3
  by_cases h3 : 3000 < L
  · have h3i : (3000 : Int) < L := by omega
    go_wp2_with fail
    refine (wakes10_any K w HT.out).mono ?_
    rintro e W1 ⟨rfl, hb1⟩
    have B1 := Lib.hid hb1
    clear hb1
    go_wp2
    go_ret
    exact ⟨rfl, B1.out⟩
  · have h3i : ¬ (3000 : Int) < L := by omega
    have HN : Hid (Calls Try.prog 6 #[.slice A L c, .int .i64 100] w fun x W' => ∃ R, x = .returned (.pointer (some ⟨R, 0, none⟩)) ∧ RdQ W' R 100 ⟨0, bs⟩ ∧ w.heap.size ≤ R ∧ Below w.heap.size w W') := Lib.hid (NewR_q (lim := 100) A L c bs HL.out (by have := HL.out; omega) HA.out)
    go_wp2_with fail
    refine HN.out.mono ?_
    rintro e W1 ⟨R, rfl, hr1, hRw, hb1⟩
    have B1 := Lib.hid hb1
    have HR := Lib.hid hRw
    have hT1 := K.grew HT.out hb1
    have HRL := Lib.hid (show R < W1.heap.size by obtain ⟨bs', h, _⟩ := hr1; exact h.lt)
    have HTk := Lib.hid (KP.take R bs W1 hT1 (by have := HL.out; omega) hr1)
    clear hb1 hr1 hRw hT1
    go_wp2_with fail
    refine HTk.out.mono ?_
    rintro e W2 ⟨n, l, rest, htr, hg2, hcase⟩
    have TR := Lib.hid htr
    have B2 := Lib.hid (B1.out.grown hg2 B1.out.size (fun k e => by cases e; exact HR.out))
    clear htr hg2 HTk
    rcases hcase with ⟨hn, F, S, rfl, hpl, hF, hr2⟩ | ⟨hn, rfl⟩
    · subst hn
      have PL := Lib.hid (And.intro hpl hF)
      have R2 := Lib.hid hr2
      obtain ⟨hlim, hbytes⟩ := TR.out.ok rfl
      have LM := Lib.hid (And.intro hlim hbytes)
      have hDone : ∀ w', w' = W2.drew → Calls Try.prog 8 #[.pointer (some ⟨R, 0, none⟩)] w' fun e W' => e = .returned (.int .i64 ((RdS.done ⟨0, rest⟩ : Nat) : Int)) ∧ LiveS K w S l W' := fun w' e => by
        subst e
        refine (DoneR_q (RdQ.below R2.out (Below.refl _ W2).drew)).mono fun e W' ⟨he, hg⟩ => ⟨he, ?_⟩
        have hg' : W2.grownBy W' (some R) := ⟨hg.os, hg.tape, hg.output, hg.size, hg.block⟩
        refine ⟨⟨F, K.keep PL.out.1 (Only.of_grown (F := fun k => k = R) hg' (fun k e => by cases e; rfl)) (fun k hk e => ?_), fun k hk => Nat.le_trans B1.out.size (PL.out.2 k hk)⟩, B2.out.grown hg' B2.out.size (fun k e => by cases e; exact HR.out)⟩
        have h1 := PL.out.2 k hk
        have h2 := HRL.out
        have e' : k = R := e
        omega
      have hWk : ∀ w', LiveS K w S l w' → Calls Try.prog 5 #[] w' fun e W' => e = .returned (.bool true) ∧ Below w'.heap.size w' W' := fun w' h => wakes10_any K w' (h.t HT.out)
      have HD := Lib.hid hDone
      have HW := Lib.hid hWk
      clear hpl hF hr2 hlim hbytes hDone hWk
      by_cases hrest : rest = []
      · subst hrest
        have hPut : ∀ w', LiveS K w S l w' → Calls Try.prog 9 #[.pointer (some ⟨S, 0, none⟩), .slice none 0 0] w' fun e W' => ∃ v m, e = .returned v ∧ W'.ownsRow w'.heap.size 5 1 v m (bs.map enc) ∧ Below w'.heap.size w' W' := fun w' h => by
          obtain ⟨F', f1, _⟩ := h.ex
          have e : bs = bytesSS l := by rw [LM.out.2, List.append_nil]
          have hp := KP.put f1 (h.t HT.out) LM.out.1 (by rw [← e]; have := HL.out; omega)
          rw [e]
          exact hp
        have HP := Lib.hid hPut
        clear hPut
        go_upto_region 7 with (fail)
        refine stakes_ok R S A L c bs HL.out (fun w' => w' = W2.drew) (LiveS K w S l) (fun _ _ h hg => h.grew hg) _ W2 _ rfl rfl rfl rfl rfl HD.out HP.out (fun w' h => HA.out.below' h.below) HW.out ?_
        intro v37 w7 _ hl7
        have H7 := Lib.hid hl7
        clear hl7
        simp only [puts, List.foldl_cons, List.foldl_nil, Act.put, List.setIfInBounds_toArray, List.set_cons_succ, List.set_cons_zero]
        go_wp2
        go_ret
        exact ⟨rfl, H7.out.below⟩
      · have hdn : RdS.done ⟨0, rest⟩ = 11 := by unfold RdS.done; rw [if_pos rfl, if_neg hrest]
        have HD2 : Hid (∀ w', w' = W2.drew → Calls Try.prog 8 #[.pointer (some ⟨R, 0, none⟩)] w' fun e W' => e = .returned (.int .i64 11) ∧ LiveS K w S l W') := Lib.hid (fun w' e => (HD.out w' e).mono fun _ _ ⟨a, b⟩ => ⟨by rw [a, hdn]; rfl, b⟩)
        clear hdn
        go_upto_region 7 with (fail)
        refine stakes_more R S A L c bs HL.out (fun w' => w' = W2.drew) (LiveS K w S l) (fun _ _ h hg => h.grew hg) _ W2 _ rfl rfl rfl rfl rfl HD2.out HW.out ?_
        intro w7 hl7
        have H7 := Lib.hid hl7
        clear hl7
        simp only [puts, List.foldl_cons, List.foldl_nil, Act.put, List.setIfInBounds_toArray, List.set_cons_succ, List.set_cons_zero]
        go_wp2
        go_ret
        exact ⟨rfl, H7.out.below⟩
    · have hc := TR.out.no hn
      rcases hc with rfl | rfl
      all_goals
        clear hn
        go_wp2_with fail
        refine (wakes10_any K W2 (K.grew HT.out B2.out)).mono ?_
        rintro e W3 ⟨rfl, hb3⟩
        have B3 := Lib.hid (B2.out.trans (Below.mono hb3 B2.out.size))
        clear hb3
        go_wp2
        go_ret
        exact ⟨rfl, B3.out⟩
end Go.Proofs.Ytelbgjnaceffeaa
