/- The walk of place: where a bit of an inside or a sum lies. -/
import Derived.Test.YtoplocnkpljofaaDoorMMath
import Derived.Test.YtoplocnkpljofaaDoorInBb
import Derived.LoopTactic
import Derived.Deep.DeepCutAuto
namespace Go.Proofs.YtoplocnkpljofaaDoor
open Go.RowKit

/-- Records that are short: one byte of length. -/
def Short (ls : List (List UInt8)) : Prop := ∀ x ∈ ls, 1 ≤ x.length ∧ x.length ≤ 100
theorem Short.fit {ls : List (List UInt8)} (h : Short ls) : ∀ x ∈ ls, Fit x := fun x hx => ⟨(h x hx).1, by have := (h x hx).2; omega⟩
theorem frm_short (x : List UInt8) (h : x.length ≤ 100) : (frm x).length = x.length + 5 := by
  have := frm_length x
  rw [vb_lt (by omega)] at this
  simp at this
  omega
/-- How many bits the first k have. -/
def bitsTo (ls : List (List UInt8)) (k : Nat) : Nat := ((ls.take k).map fun x => 8 * (4 + x.length)).sum
theorem bitsTo_succ (ls : List (List UInt8)) (k : Nat) (h : k < ls.length) : bitsTo ls (k + 1) = bitsTo ls k + 8 * (4 + (ls[k]).length) := by
  unfold bitsTo
  rw [List.take_succ_eq_append_getElem h, List.map_append, List.sum_append]
  simp
theorem bitsTo_le (ls : List (List UInt8)) (h : Short ls) (k : Nat) : k ≤ ls.length → bitsTo ls k ≤ 832 * k := by
  induction k with
  | zero => intro _; simp [bitsTo]
  | succ k ih =>
    intro hk
    rw [bitsTo_succ ls k hk]
    have := ih (by omega)
    have := (h _ (List.getElem_mem (show k < ls.length from hk))).2
    omega
theorem frms_succ (ls : List (List UInt8)) (h : Short ls) (k : Nat) (hk : k < ls.length) : (frms (ls.take (k + 1))).length = (frms (ls.take k)).length + 5 + (ls[k]).length := by
  rw [List.take_succ_eq_append_getElem hk, frms_append, List.length_append, frms_cons, frms_nil, List.append_nil, frm_short _ (h _ (List.getElem_mem hk)).2]
  omega
theorem frms_most (ls : List (List UInt8)) (h : Short ls) (k : Nat) : k ≤ ls.length → (frms (ls.take k)).length ≤ 105 * k := by
  induction k with
  | zero => intro _; simp [frms]
  | succ k ih =>
    intro hk
    rw [frms_succ ls h k hk]
    have := ih (by omega)
    have := (h _ (List.getElem_mem (show k < ls.length from hk))).2
    omega

set_option maxRecDepth 100000 in
set_option maxHeartbeats 4000000 in
theorem Place_any (A0 : Option Addr) (k c0 : Nat) (ls : List (List UInt8)) (hk : k = ls.length) (hk1 : 1 ≤ k) (hk30 : k ≤ 30) (hs : Short ls) (n : Nat) (hn : n < 65536) (w : World) (hA : InBB w A0 ls) :
    Calls Tryd.prog 22 #[.slice A0 k c0, .int .i64 (n : Int)] w fun e W' => (∃ i q, ∃ h : i < ls.length, q < 8 * (4 + (ls[i]).length) ∧ e = .returned (.int .i64 ((8 * ((frms (ls.take (i + 1))).length - (ls[i]).length - 4) + q : Nat) : Int))) ∧ w = W' := by
  obtain ⟨b, o, e, hb, hc⟩ := hA (by rintro rfl; simp at hk; omega)
  subst e
  have HK := Lib.hid hk
  have HC := Lib.hid hc
  have HS := Lib.hid hs
  have hki : (k : Int) ≤ 30 := by omega
  have hni : (n : Int) ≤ 65535 := by omega
  clear hk hA hc hs
  go_enter Tryd.func22, Tryd.ntmps22
  go_wp2
  go_loop [5, 6] (fun v i => ∃ j : Nat, j ≤ k ∧ i = .int .i64 (j : Int) ∧ v = .int .i64 (bitsTo ls j : Int)) (fun _ i => k - (intOf i).toNat)
  case atStart => exact ⟨0, Nat.zero_le _, rfl, by simp [bitsTo]⟩
  case round =>
    obtain ⟨j, hj, rfl, rfl⟩ := hrel
    by_cases hlt : j < k
    · have hji : (j : Int) < k := by omega
      have hjl : j < ls.length := by rw [← HK.out]; exact hlt
      obtain ⟨A', L', c', f0, hL', -, -⟩ := HC.out j hjl
      have hb1 := bitsTo_succ ls j hjl
      have hb2 := bitsTo_le ls HS.out j (by omega)
      have hL100 := (HS.out _ (List.getElem_mem hjl)).2
      rw [← hL'] at hb1 hL100
      obtain ⟨t, ht⟩ : ∃ t, t = bitsTo ls j := ⟨_, rfl⟩
      rw [← ht] at hb1 hb2 ⊢
      have hti : (t : Int) + 8 * (4 + (L' : Int)) = (bitsTo ls (j + 1) : Int) := by omega
      have htb : (t : Int) ≤ 24960 := by omega
      have hLb : (L' : Int) ≤ 100 := by omega
      have HT := Lib.hid hti
      clear ht hb1 hb2 hL' hL100 hti
      go_wp2
      rw [HT.out]
      exact ⟨⟨j + 1, by omega, by congr 1, rfl⟩, by simp only [intOf]; omega⟩
    · obtain rfl : j = k := by omega
      have hb2 := bitsTo_le ls HS.out j (by rw [← HK.out]; exact Nat.le_refl _)
      obtain ⟨bt, hbt⟩ : ∃ t, t = bitsTo ls j := ⟨_, rfl⟩
      have hb0 : 1 ≤ bt := by
        rw [hbt]
        obtain ⟨j', rfl⟩ : ∃ j', j = j' + 1 := ⟨j - 1, by omega⟩
        rw [bitsTo_succ ls j' (by rw [← HK.out]; omega)]
        omega
      rw [← hbt] at hb2 ⊢
      have HBT := Lib.hid hbt
      obtain ⟨N, hN⟩ : ∃ N : Nat, N = n % bt := ⟨_, rfl⟩
      have hNb : N < bt := by rw [hN]; exact Nat.mod_lt _ (by omega)
      have hNi : (n : Int) % (bt : Int) = (N : Int) := by rw [hN]; rfl
      have HN := Lib.hid hNi
      have hbti : (1 : Int) ≤ bt := by omega
      have hbti2 : (bt : Int) ≤ 24960 := by omega
      have HNB := Lib.hid hNb
      clear hN hNi hbt hb2 hb0 hNb hlt hj
      go_upto_region 7 with (fail)
      rw [HN.out]
      go_wp2
      go_loop [1, 7, 8] (fun v1 v7 i => ∃ p m : Nat, p ≤ j ∧ i = .int .i64 (p : Int) ∧ v1 = .int .i64 (m : Int) ∧ m ≤ 24960 ∧ v7 = .int .i64 ((frms (ls.take p)).length : Int) ∧ Hid (m + bitsTo ls p = N)) (fun _ _ i => j - (intOf i).toNat)
      case atStart => exact ⟨0, N, Nat.zero_le _, rfl, rfl, by have := HNB.out; omega, by simp [frms], Lib.hid (by simp [bitsTo])⟩
      case round =>
        obtain ⟨p, m, hp, rfl, rfl, hm, rfl, hmN⟩ := hrel
        by_cases hlt : p < j
        · have hpi : (p : Int) < j := by omega
          have hpl : p < ls.length := by rw [← HK.out]; exact hlt
          obtain ⟨A', L', c', f0, hL', -, -⟩ := HC.out p hpl
          have hb1 := bitsTo_succ ls p hpl
          have hf1 := frms_succ ls HS.out p hpl
          have hf2 := frms_most ls HS.out p (by omega)
          have hL100 := (HS.out _ (List.getElem_mem hpl)).2
          rw [← hL'] at hb1 hL100 hf1
          obtain ⟨t, ht⟩ : ∃ t, t = (frms (ls.take p)).length := ⟨_, rfl⟩
          rw [← ht] at hf1 hf2 ⊢
          have htb : (t : Int) ≤ 4000 := by omega
          have hLb : (L' : Int) ≤ 100 := by omega
          have hmb : (m : Int) ≤ 24960 := by omega
          have H1 := Lib.hid (And.intro hb1 (And.intro hf1 (And.intro hL' ht)))
          clear hb1 hf1 hf2 hL100 hL' ht
          by_cases hin : m < 8 * (4 + L')
          · have hini : (m : Int) < 8 * (4 + (L' : Int)) := by omega
            clear hin
            go_wp2
            go_ret
            refine ⟨⟨p, m, hpl, ?_, ?_⟩, rfl⟩
            · rw [← H1.out.2.2.1]; omega
            · rw [← H1.out.2.2.1, H1.out.2.1]
              first
                | (simp; done)
                | (simp; omega)
                | (congr 2; omega)
          · have hini : ¬ (m : Int) < 8 * (4 + (L' : Int)) := by omega
            have hmm : ((m - 8 * (4 + L') : Nat) : Int) = (m : Int) - 8 * (4 + (L' : Int)) := by omega
            have hff : ((frms (ls.take (p + 1))).length : Int) = (t : Int) + 5 + (L' : Int) := by have := H1.out.2.1; omega
            have HM := Lib.hid (And.intro hmm hff)
            have HNN := Lib.hid (show m - 8 * (4 + L') + bitsTo ls (p + 1) = N by have := H1.out.1; have := hmN.out; omega)
            clear hmm hff hin
            go_wp2
            rw [← HM.out.1, ← HM.out.2]
            exact ⟨⟨p + 1, m - 8 * (4 + L'), by omega, by congr 1, rfl, by omega, rfl, HNN⟩, by simp only [intOf]; omega⟩
        · obtain rfl : p = j := by omega
          exfalso
          have h1 := hmN.out
          have h2 := HBT.out
          have h3 := HNB.out
          omega
end Go.Proofs.YtoplocnkpljofaaDoor
