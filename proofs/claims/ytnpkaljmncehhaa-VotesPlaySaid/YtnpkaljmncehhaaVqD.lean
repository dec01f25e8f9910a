/- slices.Delete of the first runs. -/
import Derived.Test.YtnpkaljmncehhaaVqR
namespace Go.Proofs.Ytnpkaljmncehhaa
open Go.RowKit

set_option maxRecDepth 100000 in
set_option maxHeartbeats 4000000 in
theorem delete_any (v : Value) (l : List (Nat × Nat)) (j : Nat) (w : World) (hl : l.length ≤ 1000000) (hj : j ≤ l.length) (hO : OwnR w v l) :
    Calls Try.prog 31 #[v, .int .i64 0, .int .i64 (j : Int)] w fun e W' => ∃ v', e = .returned v' ∧ OwnR W' v' (l.drop j) ∧ w.grownBy W' v.ownBlock ∧ v'.ownBlock = v.ownBlock := by
  by_cases h0 : j = 0
  · subst h0
    obtain ⟨A, c, rfl⟩ := hO.form
    have hc := hO
    have HO := Lib.hid hO
    obtain ⟨n, hn⟩ : ∃ n, n = l.length := ⟨_, rfl⟩
    have hnc : n ≤ c := by
      rcases hO.2 with ⟨e, h⟩ | ⟨g, cap, cur, e, _, _, h, _⟩
      · omega
      · cases e; omega
    have HN := Lib.hid hn
    rw [← hn] at HO ⊢
    have hni : (n : Int) ≤ (c : Int) := by omega
    clear hO hc hn hl hj
    go_enter Try.func31, Try.ntmps31
    go_wp2
    go_ret
    exact ⟨_, rfl, by rw [List.drop_zero]; exact HO.out, ⟨rfl, rfl, rfl, Nat.le_refl _, fun _ _ _ => rfl⟩, rfl⟩
  · have hne : l ≠ [] := by rintro rfl; simp at hj; omega
    obtain ⟨g, c, cur, rfl, hR⟩ := hO.row hne
    obtain ⟨n, hn⟩ : ∃ n, n = l.length := ⟨_, rfl⟩
    obtain ⟨m, hm⟩ : ∃ m, m = n - j := ⟨_, rfl⟩
    have hcap := hR.cap
    have hsz := hR.size
    rw [← hn] at hj hcap ⊢
    have hcl : (cellsS2 (l.drop j)).length = m * 2 := by rw [cellsS2_len, List.length_drop]; omega
    obtain ⟨cur1, hcur1⟩ : ∃ x, x = (spl cur.toList 0 (cellsS2 (l.drop j))).toArray := ⟨_, rfl⟩
    have hg1 : ∀ W : World, W.heap[g]? = some (.cells cur 64 (0, 0)) → (W.setRow g cur1).heap[g]? = some (.cells cur1 64 (0, 0)) := fun W h => setRow_heap W g cur _ _ _ h
    have hs1 : cur1.size = c * 2 := by
      rw [hcur1, List.size_toArray, spl_len (by rw [hcl, Array.length_toList]; omega), Array.length_toList, hsz]
    obtain ⟨cur2, hcur2⟩ : ∃ x, x = (spl cur1.toList (m * 2) (zeroR j)).toArray := ⟨_, rfl⟩
    have hs2 : cur2.size = c * 2 := by
      rw [hcur2, List.size_toArray, spl_len (by rw [zeroR_len, Array.length_toList, hs1]; omega), Array.length_toList, hs1]
    have ht2 : cur2.toList.take (m * 2) = cellsS2 (l.drop j) := by
      rw [hcur2]
      simp only []
      rw [spl_take (Nat.le_refl _) (by rw [Array.length_toList, hs1]; omega), hcur1]
      simp only []
      have := spl_upto (cur := cur.toList) (vs := cellsS2 (l.drop j)) (o := 0) (Nat.zero_le _)
      rw [Nat.zero_add, hcl, List.take_zero, List.nil_append] at this
      exact this
    have HR : Hid (∀ W : World, W.heap[g]? = some (.cells cur2 64 (0, 0)) → OwnR W (.slice (some ⟨g, 0, none⟩) m c) (l.drop j)) := Lib.hid (fun W h => RowR.own (cur := cur2) ⟨h, by rw [List.length_drop]; omega, hR.big, hs2, by rw [List.length_drop, ← hn, ← hm]; exact ht2⟩ (by rw [List.length_drop]; omega))
    have HSRC := Lib.hid (hR.src j)
    have HG := Lib.hid hR.blk
    have HC := Lib.hid (And.intro hcl (And.intro hsz hs1))
    have HG1 := Lib.hid hg1
    have HC1 := Lib.hid hcur1
    have HC2 := Lib.hid hcur2
    have hji : (0 : Int) < (j : Int) := by omega
    have hjn : (j : Int) ≤ (n : Int) := by omega
    have hnc : (n : Int) ≤ (c : Int) := by omega
    have hn0 : ¬ n = 0 := by omega
    have hj0 : ¬ (0 : Int) = (j : Int) := by omega
    have hcm : ¬ c = m := by omega
    have hmn : n - j = m := hm.symm
    have hmi : (m : Int) ≤ (n : Int) := by omega
    have hnm : n - m = j := by omega
    have hn6 : (n : Int) ≤ 1000000 := by omega
    have hfit : m + 0 ≤ c := by omega
    clear hcl hsz hs1 hg1 hcur1 hcur2 hs2 ht2 hR hO hne hn hm hl
    go_enter Try.func31, Try.ntmps31
    go_upto_region 5 with (fail)
    have mixed := follows
    by_cases hcj : c = j
    · subst hcj
      have hm0 : m = 0 := by omega
      subst hm0
      have hsr : ∀ q u, (cellsS2 (l.drop c))[q]? = some u → w.drew.cell? ((⟨g, 0, none⟩ : Addr).add q) = some u := by
        intro q u hq
        have : (cellsS2 (l.drop c)) = [] := List.length_eq_zero_iff.1 (by have := HC.out.1; omega)
        rw [this] at hq
        simp at hq
      have HS0 := Lib.hid hsr
      clear hsr
      go_region_law_o (refine step_appR rfl _ _ rfl g 0 c cur (by simp [Act.eval, Act.put]) HG.out ⟨g, 0, none⟩ 0 0 (cellsS2 (l.drop c)) (by simp [Act.eval, Act.put]) HC.out.1 HS0.out (cellsS2_one _) (by omega) (by have := HC.out; omega) ?_)
      have k1 := HG1.out w.drew HG.out
      rw [HC1.out] at k1
      have K1 := Lib.hid k1
      clear k1
      go_wp2
      rw [run_clearR _ _ g 0 c c _ _ K1.out (by rw [← HC1.out]; have := HC.out; omega), ← HC1.out]
      have h2 : (spl cur1.toList 0 (zeroR c)).toArray = cur2 := by rw [HC2.out]
      rw [h2]
      have k2 := setRow_heap (w.drew.setRow g cur1) g cur1 cur2 _ (0, 0) (by rw [HC1.out]; exact K1.out)
      have gb : w.grownBy ((w.drew.setRow g cur1).setRow g cur2) (some g) := ⟨rfl, rfl, rfl, by simp, fun k _ hk => (setRow_other _ g k _ (fun e => hk (by simp [e]))).trans (setRow_other _ g k _ (fun e => hk (by simp [e])))⟩
      have K2 := Lib.hid k2
      have GB := Lib.hid gb
      clear k2 gb h2
      go_wp2
      go_ret
      exact ⟨_, rfl, HR.out _ K2.out, GB.out, rfl⟩
    · go_region_law_o (refine step_appR rfl _ _ rfl g 0 c cur (by simp [Act.eval, Act.put]) HG.out ⟨g, j * 2, none⟩ m (c - j) (cellsS2 (l.drop j)) (by simp [Act.eval, Act.put]) HC.out.1 HSRC.out (cellsS2_one _) (by omega) (by have := HC.out; omega) ?_)
      have k1 := HG1.out w.drew HG.out
      rw [HC1.out] at k1
      have K1 := Lib.hid k1
      clear k1
      go_wp2
      rw [run_clearR _ _ g (m * 2) j (c - m) _ _ K1.out (by rw [← HC1.out]; have := HC.out; omega), ← HC1.out]
      have h2 : (spl cur1.toList (m * 2) (zeroR j)).toArray = cur2 := by rw [HC2.out]
      rw [h2]
      have k2 := setRow_heap (w.drew.setRow g cur1) g cur1 cur2 _ (0, 0) (by rw [HC1.out]; exact K1.out)
      have gb : w.grownBy ((w.drew.setRow g cur1).setRow g cur2) (some g) := ⟨rfl, rfl, rfl, by simp, fun k _ hk => (setRow_other _ g k _ (fun e => hk (by simp [e]))).trans (setRow_other _ g k _ (fun e => hk (by simp [e])))⟩
      have K2 := Lib.hid k2
      have GB := Lib.hid gb
      clear k2 gb h2
      go_wp2
      go_ret
      exact ⟨_, rfl, HR.out _ K2.out, GB.out, rfl⟩
end Go.Proofs.Ytnpkaljmncehhaa
