/- slices.Replace of consecutive runs by one. -/
import Derived.Test.YtnpkaljmncehhaaVqI
namespace Go.Proofs.Ytnpkaljmncehhaa
open Go.RowKit

def repR (l : List (Nat × Nat)) (i j : Nat) (y : Nat × Nat) : List (Nat × Nat) := l.take i ++ [y] ++ l.drop j
theorem repR_len {l : List (Nat × Nat)} {i j : Nat} {y : Nat × Nat} (h : i ≤ l.length) : (repR l i j y).length = i + 1 + (l.length - j) := by
  simp only [repR, List.length_append, List.length_take, List.length_drop, List.length_cons, List.length_nil]
  omega
theorem run_appR (w : World) (ty : TypeId) (g n c : Nat) (cur : Array Value) (hcur : w.heap[g]? = some (.cells cur 64 (0, 0))) (ad : Addr) (m c2 : Nat) (news : List Value) (hl : news.length = m * 2) (hc : ∀ j u, news[j]? = some u → w.cell? (ad.add j) = some u) (h1c : ∀ u ∈ news, u.oneCell' = true) (hroom : n + m ≤ c) (hfit : n * 2 + news.length ≤ cur.size) :
    (Builtin.append_ #[55, 55] ty #[.slice (some ⟨g, 0, none⟩) n c, .slice (some ad) m c2]).run Try.prog w = .ok (.slice (some ⟨g, 0, none⟩) (n + m) c) (w.setRow g (spl cur.toList (n * 2) news).toArray) := by
  obtain ⟨i, hi, _, hsz, _⟩ := infoR_parts
  have hrun := run_append_room (P := Try.prog) w 55 ty 64 i Try.underlying55 hi g n c cur hcur ad m c2 news (by rw [hsz]; exact hl) hc h1c hroom (by rw [hsz]; exact hfit)
  rw [hsz] at hrun
  exact hrun
/-- The row behind the one run. -/
theorem rep_pre1 {l : List (Nat × Nat)} {cur : List Value} {i n : Nat} {y : Nat × Nat} (hi : i < n) (hp : cur.take (n * 2) = cellsS2 l) (hs : n * 2 ≤ cur.length) :
    (spl cur (i * 2) (cellsS2 [y])).take ((i + 1) * 2) = cellsS2 (l.take i ++ [y]) := by
  have hY : (cellsS2 [y]).length = 2 := rfl
  have := spl_upto (cur := cur) (vs := cellsS2 [y]) (o := i * 2) (by omega)
  rw [hY] at this
  rw [show (i + 1) * 2 = i * 2 + 2 by omega, this, cellsS2_append, cellsS2_take, ← hp, List.take_take, Nat.min_eq_left (by omega)]
set_option maxRecDepth 100000 in
set_option maxHeartbeats 4000000 in
theorem replace_end (g c : Nat) (cur : Array Value) (l : List (Nat × Nat)) (i : Nat) (y : Nat × Nat) (vb : Nat) (w : World) (hl : l.length ≤ 1000000) (hi : i < l.length) (hR : RowR w g c cur l)
    (hv : w.heap[vb]? = some (.cells #[.int .u64 (y.1 : Int), .int .u64 (y.2 : Int)] 64 (0, 0))) :
    Calls Try.prog 37 #[.slice (some ⟨g, 0, none⟩) l.length c, .int .i64 (i : Int), .int .i64 (l.length : Int), .slice (some ⟨vb, 0, none⟩) 1 1] w fun e W' => ∃ v', e = .returned v' ∧ OwnR W' v' (repR l i l.length y) ∧ w.grownBy W' (some g) ∧ v'.ownBlock = some g := by
  obtain ⟨n, hn⟩ : ∃ n, n = l.length := ⟨_, rfl⟩
  obtain ⟨d, hd⟩ : ∃ d, d = n - (i + 1) := ⟨_, rfl⟩
  have hcap := hR.cap
  have hsz := hR.size
  have hpre := hR.pre
  rw [← hn] at hl hi hcap hpre ⊢
  have hY : (cellsS2 [y]).length = 2 := rfl
  have hrl : (repR l i n y) = l.take i ++ [y] := by rw [repR, hn, List.drop_length, List.append_nil]
  have hrn : (l.take i ++ [y]).length = i + 1 := by rw [List.length_append, List.length_take, Nat.min_eq_left (by omega)]; rfl
  rw [hrl]
  obtain ⟨cur1, hcur1⟩ : ∃ x, x = (spl cur.toList (i * 2) (cellsS2 [y])).toArray := ⟨_, rfl⟩
  obtain ⟨cur2, hcur2⟩ : ∃ x, x = (spl cur1.toList ((i + 1) * 2) (zeroR d)).toArray := ⟨_, rfl⟩
  have hs1 : cur1.size = c * 2 := by
    rw [hcur1, List.size_toArray, spl_len (by rw [hY, Array.length_toList]; omega), Array.length_toList, hsz]
  have hs2 : cur2.size = c * 2 := by
    rw [hcur2, List.size_toArray, spl_len (by rw [zeroR_len, Array.length_toList, hs1]; omega), Array.length_toList, hs1]
  have ht1 : cur1.toList.take ((i + 1) * 2) = cellsS2 (l.take i ++ [y]) := by
    rw [hcur1]
    exact rep_pre1 hi hpre (by rw [Array.length_toList, hsz]; omega)
  have ht2 : cur2.toList.take ((i + 1) * 2) = cellsS2 (l.take i ++ [y]) := by
    rw [hcur2]
    simp only []
    rw [spl_take (Nat.le_refl _) (by rw [Array.length_toList, hs1]; omega)]
    exact ht1
  have hk1 : (w.setRow g cur1).heap[g]? = some (.cells cur1 64 (0, 0)) := setRow_heap w g cur cur1 _ (0, 0) hR.blk
  have hk2 : ((w.setRow g cur1).setRow g cur2).heap[g]? = some (.cells cur2 64 (0, 0)) := setRow_heap _ g cur1 cur2 _ (0, 0) hk1
  have hrun : ∀ ty, (Builtin.append_ #[55, 55] ty #[.slice (some ⟨g, 0, none⟩) i c, .slice (some ⟨vb, 0, none⟩) 1 1]).run Try.prog w = .ok (.slice (some ⟨g, 0, none⟩) (i + 1) c) (w.setRow g cur1) := fun ty => by
    rw [hcur1]
    exact run_appR w ty g i c cur hR.blk ⟨vb, 0, none⟩ 1 1 (cellsS2 [y]) hY (oneR_src hv) (cellsS2_one _) (by omega) (by rw [hY, hsz]; omega)
  have hclr : ∀ ty, (Builtin.clear_ #[55] ty #[.slice (some ⟨g, (i + 1) * 2, none⟩) d (c - (i + 1))]).run Try.prog (w.setRow g cur1) = .ok (.tuple #[]) ((w.setRow g cur1).setRow g cur2) := fun ty => by
    rw [hcur2]
    exact run_clearR _ ty g ((i + 1) * 2) d _ cur1 _ hk1 (by rw [hs1]; omega)
  have HR : Hid (∀ (W : World) (x : Array Value), x.size = c * 2 → x.toList.take ((i + 1) * 2) = cellsS2 (l.take i ++ [y]) → W.heap[g]? = some (.cells x 64 (0, 0)) → OwnR W (.slice (some ⟨g, 0, none⟩) (i + 1) c) (l.take i ++ [y])) := Lib.hid (fun W x h1 h2 h => RowR.own (cur := x) ⟨h, by rw [hrn]; omega, hR.big, h1, by rw [hrn]; exact h2⟩ hrn.symm)
  have HK1 := Lib.hid (And.intro hk1 (And.intro hs1 ht1))
  have HK2 := Lib.hid (And.intro hk2 (And.intro hs2 ht2))
  have HRUN := Lib.hid hrun
  have HCLR := Lib.hid hclr
  have HG1 : Hid (w.grownBy (w.setRow g cur1) (some g)) := Lib.hid ⟨rfl, rfl, rfl, by simp, fun k _ hk => setRow_other _ g k _ (fun e => hk (by simp [e]))⟩
  have HG2 : Hid (w.grownBy ((w.setRow g cur1).setRow g cur2) (some g)) := Lib.hid ⟨rfl, rfl, rfl, by simp, fun k _ hk => (setRow_other _ g k _ (fun e => hk (by simp [e]))).trans (setRow_other _ g k _ (fun e => hk (by simp [e])))⟩
  have mixed := follows
  have hii : (i : Int) ≤ (n : Int) := by omega
  have hin : ¬ (i : Int) = (n : Int) := by omega
  have hnc : (n : Int) ≤ (c : Int) := by omega
  have hic : (i : Int) ≤ (c : Int) := by omega
  have hci : ¬ c = i := by omega
  have hci1 : i + 1 < n → ¬ c = i + 1 := by omega
  have hdd : n - (i + 1) = d := hd.symm
  have hb1 : (0 : Int) ≤ (i : Int) + 1 := by omega
  have htn : ((i : Int) + 1).toNat = i + 1 := by omega
  have hw1 : IntKind.i64.wrap ((i : Int) + 1) = (i : Int) + 1 := by rw [IntKind.wrap_i64]; omega
  have hb2 : (i : Int) + 1 ≤ (n : Int) := by omega
  have hlt0 : (n : Int) ≤ (i : Int) + 1 ∨ (i : Int) + 1 < (n : Int) := by omega
  clear hk1 hk2 hs1 hs2 ht1 ht2 hcur1 hcur2 hrun hclr hrl hrn hY hpre hsz hcap hR hv hd hn hl hi
  go_enter Try.func37, Try.ntmps37
  by_cases hlt : i + 1 < n
  · have hlti : (i : Int) + 1 < (n : Int) := by omega
    have hcc := hci1 hlt
    clear hci1 hlt hlt0
    go_wp2_with (at_builtin; refine Lib.wpList_append_run _ rfl _ _ _ _ rfl _ _ rfl rfl _ _ (HRUN.out _) ?_)
    rw [HCLR.out]
    go_wp2
    go_ret
    exact ⟨_, rfl, HR.out _ cur2 HK2.out.2.1 HK2.out.2.2 HK2.out.1, HG2.out, rfl⟩
  · have hlti : ¬ (i : Int) + 1 < (n : Int) := by omega
    clear hci1 hlt hlt0
    go_wp2_with (at_builtin; refine Lib.wpList_append_run _ rfl _ _ _ _ rfl _ _ rfl rfl _ _ (HRUN.out _) ?_)
    go_ret
    exact ⟨_, rfl, HR.out _ cur1 HK1.out.2.1 HK1.out.2.2 HK1.out.1, HG1.out, rfl⟩
/-- The row where runs stand behind, too. -/
theorem rep_pre2 {l : List (Nat × Nat)} {cur : List Value} {i j n t : Nat} {y : Nat × Nat} (hn : n = l.length) (hij : i < j) (hj : j < n) (ht : t = i + 1 + (n - j)) (hp : cur.take (n * 2) = cellsS2 l) (hs : n * 2 ≤ cur.length) :
    (spl (spl cur (i * 2) (cellsS2 [y])) ((i + 1) * 2) (cellsS2 (l.drop j))).take (t * 2) = cellsS2 (repR l i j y) := by
  have hD : (cellsS2 (l.drop j)).length = (n - j) * 2 := by rw [cellsS2_len, List.length_drop, hn]
  have hY : (cellsS2 [y]).length = 2 := rfl
  have hl1 : (spl cur (i * 2) (cellsS2 [y])).length = cur.length := spl_len (by rw [hY]; omega)
  have e1 := rep_pre1 (y := y) (by omega : i < n) hp hs
  have := spl_upto (cur := spl cur (i * 2) (cellsS2 [y])) (vs := cellsS2 (l.drop j)) (o := (i + 1) * 2) (by rw [hl1]; omega)
  rw [hD, e1] at this
  rw [show t * 2 = (i + 1) * 2 + (n - j) * 2 by omega, this, repR, cellsS2_append (l.take i ++ [y])]
set_option maxRecDepth 100000 in
set_option maxHeartbeats 4000000 in
theorem replace_mid (g c : Nat) (cur : Array Value) (l : List (Nat × Nat)) (i j : Nat) (y : Nat × Nat) (vb : Nat) (w : World) (hl : l.length ≤ 1000000) (hij : i < j) (hj : j < l.length) (hR : RowR w g c cur l) (_hne : vb ≠ g)
    (hv : w.heap[vb]? = some (.cells #[.int .u64 (y.1 : Int), .int .u64 (y.2 : Int)] 64 (0, 0))) :
    Calls Try.prog 37 #[.slice (some ⟨g, 0, none⟩) l.length c, .int .i64 (i : Int), .int .i64 (j : Int), .slice (some ⟨vb, 0, none⟩) 1 1] w fun e W' => ∃ v', e = .returned v' ∧ OwnR W' v' (repR l i j y) ∧ w.grownBy W' (some g) ∧ v'.ownBlock = some g := by
  obtain ⟨n, hn⟩ : ∃ n, n = l.length := ⟨_, rfl⟩
  obtain ⟨d, hd⟩ : ∃ d, d = n - j := ⟨_, rfl⟩
  obtain ⟨t, ht⟩ : ∃ t, t = i + 1 + d := ⟨_, rfl⟩
  obtain ⟨r, hr⟩ : ∃ r, r = n - t := ⟨_, rfl⟩
  have hcap := hR.cap
  have hsz := hR.size
  have hpre := hR.pre
  have hrl : (repR l i j y).length = t := by rw [repR_len (by omega)]; omega
  rw [← hn] at hl hj hcap hpre ⊢
  have hY : (cellsS2 [y]).length = 2 := rfl
  have hD : (cellsS2 (l.drop j)).length = d * 2 := by rw [cellsS2_len, List.length_drop]; omega
  obtain ⟨cur1, hcur1⟩ : ∃ x, x = (spl cur.toList (i * 2) (cellsS2 [y])).toArray := ⟨_, rfl⟩
  obtain ⟨cur2, hcur2⟩ : ∃ x, x = (spl cur1.toList ((i + 1) * 2) (cellsS2 (l.drop j))).toArray := ⟨_, rfl⟩
  obtain ⟨cur3, hcur3⟩ : ∃ x, x = (spl cur2.toList (t * 2) (zeroR r)).toArray := ⟨_, rfl⟩
  have hs1 : cur1.size = c * 2 := by
    rw [hcur1, List.size_toArray, spl_len (by rw [hY, Array.length_toList]; omega), Array.length_toList, hsz]
  have hs2 : cur2.size = c * 2 := by
    rw [hcur2, List.size_toArray, spl_len (by rw [hD, Array.length_toList, hs1]; omega), Array.length_toList, hs1]
  have hs3 : cur3.size = c * 2 := by
    rw [hcur3, List.size_toArray, spl_len (by rw [zeroR_len, Array.length_toList, hs2]; omega), Array.length_toList, hs2]
  have ht2 : cur2.toList.take (t * 2) = cellsS2 (repR l i j y) := by
    rw [hcur2, hcur1]
    exact rep_pre2 hn hij hj (by omega) hpre (by rw [Array.length_toList, hsz]; omega)
  have ht3 : cur3.toList.take (t * 2) = cellsS2 (repR l i j y) := by
    rw [hcur3]
    simp only []
    rw [spl_take (Nat.le_refl _) (by rw [Array.length_toList, hs2]; omega)]
    exact ht2
  have hk1 : (w.drew.setRow g cur1).heap[g]? = some (.cells cur1 64 (0, 0)) := setRow_heap w.drew g cur cur1 _ (0, 0) hR.blk
  have hsrc : ∀ q u, (cellsS2 (l.drop j))[q]? = some u → (w.drew.setRow g cur1).drew.cell? ((⟨g, j * 2, none⟩ : Addr).add q) = some u := by
    intro q u hq
    rw [addr_add]
    refine (blk_cell hk1 _).trans ?_
    rw [← Array.getElem?_toList, hcur1]
    simp only []
    rw [cellsS2_drop, List.getElem?_drop, ← hpre, List.getElem?_take] at hq
    split at hq
    · have hd1 : (spl cur.toList (i * 2) (cellsS2 [y])).drop (j * 2) = cur.toList.drop (j * 2) := spl_drop (by rw [hY]; omega) (by rw [Array.length_toList]; omega)
      rw [← List.getElem?_drop, hd1, List.getElem?_drop]
      exact hq
    · cases hq
  have hk2 : ((w.drew.setRow g cur1).drew.setRow g cur2).heap[g]? = some (.cells cur2 64 (0, 0)) := setRow_heap _ g cur1 cur2 _ (0, 0) hk1
  have hk3 : (((w.drew.setRow g cur1).drew.setRow g cur2).setRow g cur3).heap[g]? = some (.cells cur3 64 (0, 0)) := setRow_heap _ g cur2 cur3 _ (0, 0) hk2
  have hcp1 : ∀ ty, (Builtin.copy_ #[55, 55] ty #[.slice (some ⟨g, i * 2, none⟩) (d + 1) (c - i), .slice (some ⟨vb, 0, none⟩) 1 1]).run Try.prog w.drew = .ok (goInt (Nat.min 1 (d + 1))) (w.drew.setRow g cur1) := fun ty => by
    rw [hcur1]
    exact run_copyR w.drew ty g (i * 2) (d + 1) _ ⟨vb, 0, none⟩ 1 1 cur _ (cellsS2 [y]) hR.blk (by rw [hY, show Nat.min 1 (d + 1) = 1 from Nat.min_eq_left (by omega)]) (oneR_src hv) (by rw [hY, hsz]; omega) (cellsS2_one _)
  have hcp2 : ∀ ty, (Builtin.copy_ #[55, 55] ty #[.slice (some ⟨g, (i + 1) * 2, none⟩) d (c - (i + 1)), .slice (some ⟨g, j * 2, none⟩) d (c - j)]).run Try.prog (w.drew.setRow g cur1).drew = .ok (goInt (Nat.min d d)) ((w.drew.setRow g cur1).drew.setRow g cur2) := fun ty => by
    rw [hcur2]
    exact run_copyR _ ty g ((i + 1) * 2) d _ ⟨g, j * 2, none⟩ d _ cur1 _ (cellsS2 (l.drop j)) hk1 (by rw [hD, show Nat.min d d = d from Nat.min_self d]) hsrc (by rw [hD, hs1]; omega) (cellsS2_one _)
  have hclr : ∀ ty, (Builtin.clear_ #[55] ty #[.slice (some ⟨g, t * 2, none⟩) r (c - t)]).run Try.prog ((w.drew.setRow g cur1).drew.setRow g cur2) = .ok (.tuple #[]) (((w.drew.setRow g cur1).drew.setRow g cur2).setRow g cur3) := fun ty => by
    rw [hcur3]
    exact run_clearR _ ty g (t * 2) r _ cur2 _ hk2 (by rw [hs2]; omega)
  have HR : Hid (∀ (W : World) (x : Array Value), x.size = c * 2 → x.toList.take (t * 2) = cellsS2 (repR l i j y) → W.heap[g]? = some (.cells x 64 (0, 0)) → OwnR W (.slice (some ⟨g, 0, none⟩) t c) (repR l i j y)) := Lib.hid (fun W x h1 h2 h => RowR.own (cur := x) ⟨h, by rw [hrl]; omega, hR.big, h1, by rw [hrl]; exact h2⟩ hrl.symm)
  have HK2 := Lib.hid (And.intro hk2 (And.intro hs2 ht2))
  have HK3 := Lib.hid (And.intro hk3 (And.intro hs3 ht3))
  have HC1 := Lib.hid hcp1
  have HC2 := Lib.hid hcp2
  have HCLR := Lib.hid hclr
  have hg2 : w.grownBy ((w.drew.setRow g cur1).drew.setRow g cur2) (some g) := ⟨rfl, rfl, rfl, by simp, fun k _ hk => (setRow_other _ g k _ (fun e => hk (by simp [e]))).trans (setRow_other _ g k _ (fun e => hk (by simp [e])))⟩
  have HG2 := Lib.hid hg2
  have HG3 : Hid (w.grownBy (((w.drew.setRow g cur1).drew.setRow g cur2).setRow g cur3) (some g)) := Lib.hid ⟨rfl, rfl, rfl, by simp, fun k hkl hk => (setRow_other _ g k _ (fun e => hk (by simp [e]))).trans (hg2.block k hkl hk)⟩
  have mixed := follows
  have hii : (i : Int) ≤ (j : Int) := by omega
  have hjn : (j : Int) ≤ (n : Int) := by omega
  have hin : ¬ (i : Int) = (j : Int) := by omega
  have hjn2 : ¬ (j : Int) = (n : Int) := by omega
  have hnc : (n : Int) ≤ (c : Int) := by omega
  have hic : (i : Int) ≤ (c : Int) := by omega
  have hjc : (j : Int) ≤ (c : Int) := by omega
  have hci : ¬ c = i := by omega
  have hcj : ¬ c = j := by omega
  have hci1 : ¬ c = i + 1 := by omega
  have hnd : n - j = d := hd.symm
  have hti : (i : Int) + 1 + (d : Int) = (t : Int) := by omega
  have htn : (t : Int) ≤ (n : Int) := by omega
  have htc : ¬ (c : Int) < (t : Int) := by omega
  have htc2 : (t : Int) ≤ (c : Int) := by omega
  have hit : (i : Int) ≤ (t : Int) := by omega
  have hi1t : (i : Int) + 1 ≤ (t : Int) := by omega
  have hi1j : (i : Int) + 1 ≤ (j : Int) := by omega
  have ht1 : t - i = d + 1 := by omega
  have ht11 : t - (i + 1) = d := by omega
  have hnt : n - t = r := hr.symm
  have hb1 : (0 : Int) ≤ (i : Int) + 1 := by omega
  have htn' : ((i : Int) + 1).toNat = i + 1 := by omega
  have hn6 : (n : Int) ≤ 1000000 := by omega
  have hw1 : IntKind.i64.wrap ((i : Int) + 1) = (i : Int) + 1 := by rw [IntKind.wrap_i64]; omega
  have hw2 : IntKind.i64.wrap (t : Int) = (t : Int) := by rw [IntKind.wrap_i64]; omega
  have HRT : Hid (c = t → r = 0 ∧ n = t) := Lib.hid (by intro h; omega)
  clear hk1 hk2 hk3 hs1 hs2 hs3 ht2 ht3 hcur1 hcur2 hcur3 hcp1 hcp2 hclr hrl hY hD hpre hsz hcap hR hv hd ht hr hn hl hij hj hsrc hg2
  go_enter Try.func37, Try.ntmps37
  go_upto_region 9 with (fail)
  go_region
  go_wp2
  rw [HC1.out]
  go_wp2
  go_region_law_o (refine step_copyR rfl _ _ rfl _ _ (by simp [Act.eval, Act.put]) (by simp [Act.eval, Act.put]) (fun ty => HC2.out ty) ?_)
  by_cases hct : c = t
  · obtain ⟨rfl, rfl⟩ := HRT.out hct
    subst hct
    go_wp2
    rw [run_clear0]
    go_wp2
    go_ret
    exact ⟨_, rfl, HR.out _ cur2 HK2.out.2.1 HK2.out.2.2 HK2.out.1, HG2.out, rfl⟩
  · go_wp2
    rw [HCLR.out]
    go_wp2
    go_ret
    exact ⟨_, rfl, HR.out _ cur3 HK3.out.2.1 HK3.out.2.2 HK3.out.1, HG3.out, rfl⟩
theorem enIn : ∀ args w, (callFunc 42 args).run Try.prog w = .ok (.enter 42 args) w := enters_of Try.func42 (by kernel_rfl) rfl
set_option maxRecDepth 100000 in
set_option maxHeartbeats 4000000 in
theorem replace_none (v : Value) (l : List (Nat × Nat)) (i : Nat) (y : Nat × Nat) (vb : Nat) (w : World) (hl : l.length ≤ 1000000) (hi : i ≤ l.length) (hO : OwnR w v l) (hne : v.ownBlock ≠ some vb)
    (hv : w.heap[vb]? = some (.cells #[.int .u64 (y.1 : Int), .int .u64 (y.2 : Int)] 64 (0, 0))) :
    Calls Try.prog 37 #[v, .int .i64 (i : Int), .int .i64 (i : Int), .slice (some ⟨vb, 0, none⟩) 1 1] w fun e W' => ∃ v', e = .returned v' ∧ OwnR W' v' (repR l i i y) ∧ w.grownBy W' v.ownBlock ∧ (v'.ownBlock = v.ownBlock ∨ v'.ownBlock = some w.heap.size) := by
  have HC := Lib.hid (insert_any v l i y vb w hl hi hO hne hv)
  obtain ⟨A, c, rfl⟩ := hO.form
  have hnc : l.length ≤ c := by
    rcases hO.2 with ⟨e, h⟩ | ⟨g, cap, cur, e, _, _, h, _⟩
    · omega
    · cases e; exact h
  obtain ⟨n, hn⟩ : ∃ n, n = l.length := ⟨_, rfl⟩
  rw [← hn] at hnc hi HC ⊢
  obtain ⟨ob, hob⟩ : ∃ ob, ob = (Value.slice A n c).ownBlock := ⟨_, rfl⟩
  rw [← hob] at HC ⊢
  have hii : (i : Int) ≤ (c : Int) := by omega
  clear hO hn hv hob hne hi hl
  by_cases hci : c = i
  · subst hci
    clear hii hnc
    go_enter Try.func37, Try.ntmps37
    go_wp2_with fail
    refine HC.out.mono ?_
    rintro e W1 ⟨v1, rfl, h1, h2, h3⟩
    have H1 := Lib.hid h1
    have H2 := Lib.hid h2
    have H3 := Lib.hid h3
    clear h1 h2 h3
    go_wp2
    go_ret
    exact ⟨v1, rfl, H1.out, H2.out, H3.out⟩
  · clear hnc
    go_enter Try.func37, Try.ntmps37
    go_wp2_with fail
    refine HC.out.mono ?_
    rintro e W1 ⟨v1, rfl, h1, h2, h3⟩
    have H1 := Lib.hid h1
    have H2 := Lib.hid h2
    have H3 := Lib.hid h3
    clear h1 h2 h3
    go_wp2
    go_ret
    exact ⟨v1, rfl, H1.out, H2.out, H3.out⟩
theorem replace_any (v : Value) (l : List (Nat × Nat)) (i j : Nat) (y : Nat × Nat) (vb : Nat) (w : World) (hl : l.length ≤ 1000000) (hij : i ≤ j) (hj : j ≤ l.length) (hO : OwnR w v l) (hne : v.ownBlock ≠ some vb)
    (hv : w.heap[vb]? = some (.cells #[.int .u64 (y.1 : Int), .int .u64 (y.2 : Int)] 64 (0, 0))) :
    Calls Try.prog 37 #[v, .int .i64 (i : Int), .int .i64 (j : Int), .slice (some ⟨vb, 0, none⟩) 1 1] w fun e W' => ∃ v', e = .returned v' ∧ OwnR W' v' (repR l i j y) ∧ w.grownBy W' v.ownBlock ∧ (v'.ownBlock = v.ownBlock ∨ v'.ownBlock = some w.heap.size) := by
  by_cases he : i = j
  · subst he
    exact replace_none v l i y vb w hl hj hO hne hv
  · have hne' : l ≠ [] := by rintro rfl; simp at hj; omega
    obtain ⟨g, c, cur, rfl, hR⟩ := hO.row hne'
    by_cases hjn : j = l.length
    · subst hjn
      exact (replace_end g c cur l i y vb w hl (by omega) hR hv).mono fun e W' ⟨v', h1, h2, h3, h4⟩ => ⟨v', h1, h2, h3, .inl h4⟩
    · exact (replace_mid g c cur l i j y vb w hl (by omega) (by omega) hR (fun e => hne (by rw [e]; rfl)) hv).mono fun e W' ⟨v', h1, h2, h3, h4⟩ => ⟨v', h1, h2, h3, .inl h4⟩
end Go.Proofs.Ytnpkaljmncehhaa
