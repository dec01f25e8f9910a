/- The law's measure of commands: Great. -/
import Derived.Test.YtooaobadnainkaaMCmP
import Derived.Deep.DeepCutAuto
import Derived.Test.YtooaobadnainkaaCmGreatM
namespace Go.Proofs.Ytooaobadnainkaa
open Go.RowKit
set_option maxRecDepth 100000 in
set_option maxHeartbeats 4000000 in
theorem GreatC_any (A : Option Addr) (L c : Nat) (l : List CmdV) (hl : L = l.length) (hL : L ≤ 140737488351232) (w : World) (hA : HasC w A l) :
    Calls Try.prog 5 #[.slice A L c] w fun e W' => e = .returned (.bool (GreatB l)) ∧ Below w.heap.size w W' := by
  have HL := Lib.hid hl
  have HA := Lib.hid hA
  have hLi : (L : Int) ≤ 140737488351232 := by omega
  clear hl hA hL
  by_cases h100 : 100 < L
  · have h1 : (100 : Int) < L := by omega
    go_enter Try.func5, Try.ntmps5
    go_wp2
    go_ret
    exact ⟨by rw [GreatB_iff.2 (.inl (by rw [← HL.out]; exact h100))]; rfl, Below.refl _ _⟩
  have h1 : ¬ (100 : Int) < L := by omega
  go_enter Try.func5, Try.ntmps5
  go_wp2
  go_loopw [3] (fun i wr => ∃ k : Nat, k ≤ L ∧ i = .int .i64 (k : Int) ∧ Hid (Below w.heap.size w wr ∧ ∀ j (h1 : j < l.length), j < k → ¬ (l[j]).great)) (fun i _ => L - (intOf i).toNat)
  case atStart => exact ⟨0, Nat.zero_le _, rfl, Lib.hid ⟨Below.refl _ _, fun j _ h => by omega⟩⟩
  case round =>
    obtain ⟨k, hk, rfl, hb⟩ := hrel
    by_cases hlt : k < L
    · have hki : (k : Int) < L := by omega
      have hk1 : k < l.length := by have := HL.out; omega
      obtain ⟨bk, o1, e1, l1, f1⟩ := HA.out (by rintro rfl; simp at hk1)
      subst e1
      have g1 := f1 k hk1
      obtain ⟨a, ha⟩ : ∃ a, a = l[k] := ⟨_, rfl⟩
      rw [← ha] at g1
      obtain ⟨acl, asq, akd, KA, KL, kc, ks, old, new, n⟩ := a
      have cA : ∀ i u, (#[.int .u32 (acl : Int), .int .u32 (asq : Int), .int .u8 (akd : Int), .slice KA KL kc, .string old, .string new, .int .i64 n] : Array Value)[i]? = some u → wr.cell? ⟨bk, o1 + k * 7 + i, none⟩ = some u := fun i u hu => (hb.out.1.cell (p := ⟨bk, o1 + k * 7 + i, none⟩) l1).trans (g1.1 i u hu)
      have a0 := cA 0 _ rfl
      have a1 := cA 1 _ rfl
      have a2 := cA 2 _ rfl
      have a3 := cA 3 _ rfl
      have a4 := cA 4 _ rfl
      have a5 := cA 5 _ rfl
      have a6 := cA 6 _ rfl
      simp only [Nat.add_zero] at a0
      have OK := Lib.hid (g1.2.below hb.out.1)
      have hKL : (KL : Int) ≤ 140737488351232 := by have := g1.2.max; simp only at this; omega
      have ho64 : (old.size : Int) ≤ 9223372036854775807 := by have := g1.2.old; simp only [maxLen] at this; omega
      have hn64 : (new.size : Int) ≤ 9223372036854775807 := by have := g1.2.new; simp only [maxLen] at this; omega
      have HE := Lib.hid ha
      clear cA g1 f1 ha
      go_upto_region 7 with (fail)
      obtain ⟨W2, hW2⟩ : ∃ W2, W2 = wr.alloc (Obj.cells #[.int .u32 (acl : Int), .int .u32 (asq : Int), .int .u8 (akd : Int), .slice KA KL kc, .string old, .string new, .int .i64 n] 31) := ⟨_, rfl⟩
      rw [← hW2]
      obtain ⟨p, hp⟩ : ∃ p, p = wr.heap.size := ⟨_, rfl⟩
      have hB : Below wr.heap.size wr W2 := by rw [hW2]; exact (Below.refl _ wr).alloc (Nat.le_refl _) _
      have k1 : W2.heap[p]? = some (.cells #[.int .u32 (acl : Int), .int .u32 (asq : Int), .int .u8 (akd : Int), .slice KA KL kc, .string old, .string new, .int .i64 n] 31 (0, 0)) := by
        rw [hW2, hp]; exact World.alloc_heap_new wr _
      rw [← hp]
      have x3 := blk_cell k1 3
      have x4 := blk_cell k1 4
      have x5 := blk_cell k1 5
      simp at x3 x4 x5
      have K1 := Lib.hid k1
      have HB := Lib.hid (hb.out.1.trans (Below.mono hB hb.out.1.size))
      have OK2 := Lib.hid (OK.out.below hB)
      clear hW2 hp hB k1 OK a0 a1 a2 a3 a4 a5 a6
      by_cases q1 : 500 < old.size
      · have q1i : (500 : Int) < old.size := by omega
        have hg : GreatC l := .inr ⟨k, hk1, by rw [← HE.out]; exact .inl q1⟩
        have HG := Lib.hid hg
        clear hg
        go_wp2
        go_ret
        exact ⟨by rw [GreatB_iff.2 HG.out]; rfl, HB.out⟩
      have q1i : ¬ (500 : Int) < old.size := by omega
      by_cases q2 : 500 < new.size
      · have q2i : (500 : Int) < new.size := by omega
        have hg : GreatC l := .inr ⟨k, hk1, by rw [← HE.out]; exact .inr (.inl q2)⟩
        have HG := Lib.hid hg
        clear hg
        go_wp2
        go_ret
        exact ⟨by rw [GreatB_iff.2 HG.out]; rfl, HB.out⟩
      have q2i : ¬ (500 : Int) < new.size := by omega
      by_cases q3 : 100 < KL
      · have q3i : (100 : Int) < KL := by omega
        have hg : GreatC l := .inr ⟨k, hk1, by rw [← HE.out]; exact .inr (.inr (.inl (by have := OK2.out.len; simp only at *; omega)))⟩
        have HG := Lib.hid hg
        clear hg
        go_wp2
        go_ret
        exact ⟨by rw [GreatB_iff.2 HG.out]; rfl, HB.out⟩
      have q3i : ¬ (100 : Int) < KL := by omega
      have HQ := Lib.hid (And.intro q1 (And.intro q2 q3))
      clear q1 q2 q3
      go_wp2
      go_loopw [5] (fun i wx => ∃ j : Nat, j ≤ KL ∧ i = .int .i64 (j : Int) ∧ Hid (Below W2.heap.size W2 wx ∧ ∀ u (h1 : u < ks.length), u < j → ¬ 500 < (ks[u]).size)) (fun i _ => KL - (intOf i).toNat)
      case atStart => exact ⟨0, Nat.zero_le _, rfl, Lib.hid ⟨Below.refl _ _, fun j _ h => by omega⟩⟩
      case round =>
        obtain ⟨j, hj, rfl, hx⟩ := hrel
        have x3' := (hx.out.1.cell (p := ⟨p, 3, none⟩) (Array.getElem?_eq_some_iff.1 K1.out).1).trans x3
        by_cases hjl : j < KL
        · have hji : (j : Int) < KL := by omega
          have hj1 : j < ks.length := by have := OK2.out.len; simp only at this; omega
          obtain ⟨b2, o2, e2, l2, f2⟩ := OK2.out.has (by intro e; simp only at e; rw [e] at hj1; simp at hj1)
          simp only at e2
          subst e2
          have g2 := (hx.out.1.cell (p := ⟨b2, o2 + j, none⟩) l2).trans (f2 j hj1)
          obtain ⟨X, hX⟩ : ∃ X, X = ks[j] := ⟨_, rfl⟩
          simp only at g2
          rw [← hX] at g2
          have hX64 : (X.size : Int) ≤ 9223372036854775807 := by have := OK2.out.each X (by rw [hX]; exact List.getElem_mem hj1); simp only [maxLen] at this; omega
          have HX := Lib.hid hX
          clear hX f2
          by_cases q4 : 500 < X.size
          · have q4i : (500 : Int) < X.size := by omega
            have hg : GreatC l := .inr ⟨k, hk1, by rw [← HE.out]; exact .inr (.inr (.inr ⟨j, hj1, by simp only; rw [← HX.out]; exact q4⟩))⟩
            have HG := Lib.hid hg
            clear hg
            go_wp2
            go_ret
            exact ⟨by rw [GreatB_iff.2 HG.out]; rfl, HB.out.trans (Below.mono hx.out.1 HB.out.size)⟩
          · have q4i : ¬ (500 : Int) < X.size := by omega
            have Q4 := Lib.hid q4
            clear q4
            go_wp2
            exact ⟨⟨j + 1, by omega, by congr 1, Lib.hid ⟨hx.out.1, fun u h1 hu => by
              rcases Nat.lt_or_ge u j with h | h
              · exact hx.out.2 u h1 h
              · have : u = j := by omega
                subst this
                rw [← HX.out]
                exact Q4.out⟩⟩, by simp only [intOf]; omega⟩
        · have hji : ¬ (j : Int) < KL := by omega
          have hng : ¬ (l[k]).great := by
            rw [← HE.out]
            rintro (h | h | h | ⟨u, hu, h⟩)
            · exact HQ.out.1 h
            · exact HQ.out.2.1 h
            · exact HQ.out.2.2 (by have := OK2.out.len; simp only at this h; omega)
            · exact hx.out.2 u hu (by have := OK2.out.len; simp only at this hu; omega) h
          have NG := Lib.hid hng
          clear hng
          go_wp2
          exact ⟨⟨k + 1, by omega, by congr 1, Lib.hid ⟨HB.out.trans (Below.mono hx.out.1 HB.out.size), fun u h1 hu => by
            rcases Nat.lt_or_ge u k with h | h
            · exact hb.out.2 u h1 h
            · have : u = k := by omega
              subst this
              exact NG.out⟩⟩, by simp only [intOf]; omega⟩
    · obtain rfl : k = L := by omega
      have hki : ¬ (k : Int) < k := by omega
      clear hlt
      have hng : GreatB l = false := by
        rw [← Bool.not_eq_true, GreatB_iff]
        rintro (h | ⟨j, hj, h⟩)
        · have := HL.out; omega
        · exact hb.out.2 j hj (by have := HL.out; omega) h
      have NG := Lib.hid hng
      clear hng
      go_wp2
      go_ret
      exact ⟨by rw [NG.out]; rfl, hb.out.1⟩
end Go.Proofs.Ytooaobadnainkaa
