/- slices.Insert of one run. -/
import Derived.Test.YtnpkaljmncehhaaVqR
namespace Go.Proofs.Ytnpkaljmncehhaa
open Go.RowKit

/-- What a row of one run more is. -/
def insR (l : List (Nat × Nat)) (i : Nat) (y : Nat × Nat) : List (Nat × Nat) := l.take i ++ [y] ++ l.drop i
theorem insR_len {l : List (Nat × Nat)} {i : Nat} {y : Nat × Nat} (h : i ≤ l.length) : (insR l i y).length = l.length + 1 := by
  simp only [insR, List.length_append, List.length_take, List.length_drop, List.length_cons, List.length_nil]
  omega
theorem oneR_src {w : World} {vb : Nat} {y : Nat × Nat} (hv : w.heap[vb]? = some (.cells #[.int .u64 (y.1 : Int), .int .u64 (y.2 : Int)] 64 (0, 0))) : ∀ j u, (cellsS2 [y])[j]? = some u → w.cell? ((⟨vb, 0, none⟩ : Addr).add j) = some u := by
  intro j u hj
  rw [addr_add, Nat.zero_add, blk_cell hv]
  match j, hj with
  | 0, hj => cases hj; rfl
  | 1, hj => cases hj; rfl
  | j + 2, hj => simp [cellsS2] at hj
set_option maxRecDepth 100000 in
set_option maxHeartbeats 4000000 in
theorem insert_end (v : Value) (l : List (Nat × Nat)) (y : Nat × Nat) (vb : Nat) (w : World) (hl : l.length ≤ 1000000) (hO : OwnR w v l)
    (hv : w.heap[vb]? = some (.cells #[.int .u64 (y.1 : Int), .int .u64 (y.2 : Int)] 64 (0, 0))) :
    Calls Try.prog 42 #[v, .int .i64 (l.length : Int), .slice (some ⟨vb, 0, none⟩) 1 1] w fun e W' => ∃ v', e = .returned v' ∧ OwnR W' v' (insR l l.length y) ∧ w.grownBy W' v.ownBlock ∧ (v'.ownBlock = v.ownBlock ∨ v'.ownBlock = some w.heap.size) := by
  obtain ⟨A, c, rfl⟩ := hO.form
  have HO := Lib.hid hO
  have HV := Lib.hid hv
  have hnc : l.length ≤ c := by
    rcases hO.2 with ⟨e, h⟩ | ⟨g, cap, cur, e, _, _, h, _⟩
    · omega
    · cases e; exact h
  have hins : insR l l.length y = l ++ [y] := by simp [insR]
  rw [hins]
  obtain ⟨n, hn⟩ : ∃ n, n = l.length := ⟨_, rfl⟩
  have HN := Lib.hid hn
  rw [← hn] at hl hnc
  have HL := Lib.hid hl
  rw [← hn]
  have hni : (n : Int) ≤ (c : Int) := by omega
  have hn0 : (0 : Int) ≤ (n : Int) := by omega
  have HO2 : Hid (w.ownsRow 0 64 2 (.slice A n c) n (cellsS2 l)) := Lib.hid (by
    have h := HO.out
    unfold OwnR at h
    rw [← HN.out] at h
    exact h)
  obtain ⟨ob, hob⟩ : ∃ ob, ob = (Value.slice A n c).ownBlock := ⟨_, rfl⟩
  rw [← hob]
  have HOB := Lib.hid hob
  clear hO hv hn hl hins HO hob
  go_enter Try.func42, Try.ntmps42
  go_upto_region 7 with (fail)
  obtain ⟨ti, hi, hz, hs, hb⟩ := infoR_parts
  have HI := Lib.hid (And.intro hi (And.intro hz (And.intro hs hb)))
  clear hi hz hs hb
  go_wp2_with (at_builtin; refine wpList_append_own_at _ rfl _ _ 55 rfl 0 64 ti _ 2 16 Try.underlying55 HI.out.1 HI.out.2.1 HI.out.2.2.1 HI.out.2.2.2 rfl (by decide) (.slice A n c) n (cellsS2 l) rfl HO2.out ⟨vb, 0, none⟩ 1 1 (cellsS2 [y]) rfl rfl (oneR_src HV.out) (cellsS2_one _) (by have := HL.out; simp only [maxLen]; omega) (by have := HL.out; omega) (Nat.zero_le _) ?_; intro v1 w1 ho1 hg1 _ hat; have HO1 := Lib.hid ho1; have HG1 := Lib.hid hg1; have HA1 := Lib.hid hat; clear ho1 hg1 hat; rw [← HOB.out] at HG1 HA1)
  all_goals go_ret
  all_goals refine ⟨_, rfl, ?_, HG1.out, HA1.out⟩
  all_goals unfold OwnR
  all_goals rw [cellsS2_append, List.length_append, ← HN.out]
  all_goals exact HO1.out
theorem spl_dropAt {cur vs : List Value} {o : Nat} (ho : o ≤ cur.length) : (spl cur o vs).drop o = vs ++ cur.drop (o + vs.length) := by
  unfold spl
  rw [List.append_assoc, List.drop_append_of_le_length (by rw [List.length_take]; omega), List.drop_of_length_le (by rw [List.length_take]; omega), List.nil_append]
theorem enOv (w : World) (g vb o lb cb : Nat) (cur : Array Value) (x y : Value) (hne : vb ≠ g) (hv : w.heap[vb]? = some (.cells #[x, y] 64 (0, 0))) (hg : w.heap[g]? = some (.cells cur 64 (0, 0))) (hs : cur.size ≠ 0) :
    (callFunc 43 #[.slice (some ⟨vb, 0, none⟩) 1 1, .slice (some ⟨g, o, none⟩) lb cb]).run Try.prog w = .ok (.value (.bool false)) w := by
  have hz : ∀ w, (Go.sizeOf 64).run Try.prog w = .ok 2 w := fun w => by
    obtain ⟨i, hi, _, hs, _⟩ := infoR_parts
    simp [Go.sizeOf, typeInfo, hi, hs]
  rw [run_callFunc_extern Try.func43 (by kernel_rfl) (by kernel_rfl) (by kernel_rfl) (e := Extern.SlicesOverlaps.overlaps #[55, 55] #[4]) (by kernel_rfl),
    Lib.run_overlaps_apart w 55 4 64 Try.underlying55 2 hz ⟨vb, 0, none⟩ ⟨g, o, none⟩ 1 1 lb cb hne 64 64 2 cur.size (by simp [World.shape?, hv]) (by simp [World.shape?, hg]) hs (blk_frozen hv 0) (blk_frozen hv 2)]
  rfl
/-- What stands where a run is laid in between. -/
theorem ins_pre {l : List (Nat × Nat)} {cur : List Value} {i n : Nat} {y : Nat × Nat} (hn : n = l.length) (hi : i < n) (hp : cur.take (n * 2) = cellsS2 l) (hs : (n + 1) * 2 ≤ cur.length) :
    (spl (spl cur ((i + 1) * 2) (cellsS2 (l.drop i))) (i * 2) (cellsS2 [y])).take ((n + 1) * 2) = cellsS2 (insR l i y) := by
  have hD : (cellsS2 (l.drop i)).length = (n - i) * 2 := by rw [cellsS2_len, List.length_drop, hn]
  have hY : (cellsS2 [y]).length = 2 := rfl
  have h1 : (i + 1) * 2 ≤ cur.length := by omega
  have hl1 : (spl cur ((i + 1) * 2) (cellsS2 (l.drop i))).length = cur.length := spl_len (by rw [hD]; omega)
  have e1 : (spl cur ((i + 1) * 2) (cellsS2 (l.drop i))).take (i * 2) = cellsS2 (l.take i) := by
    rw [spl_take (by omega) h1, cellsS2_take, ← hp, List.take_take, Nat.min_eq_left (by omega)]
  have e2 : (spl cur ((i + 1) * 2) (cellsS2 (l.drop i))).drop (i * 2 + 2) = cellsS2 (l.drop i) ++ cur.drop ((i + 1) * 2 + (cellsS2 (l.drop i)).length) := by
    rw [show i * 2 + 2 = (i + 1) * 2 by omega, spl_dropAt h1]
  generalize hE : spl cur ((i + 1) * 2) (cellsS2 (l.drop i)) = E at hl1 e1 e2 ⊢
  unfold spl
  rw [hY, e1, e2, insR, cellsS2_append, cellsS2_append, ← List.append_assoc]
  have hT : (cellsS2 (l.take i)).length = i * 2 := by rw [cellsS2_len, List.length_take, Nat.min_eq_left (by omega)]
  rw [List.take_append_of_le_length (by simp only [List.length_append, hT, hY, hD]; omega)]
  exact List.take_of_length_le (by simp only [List.length_append, hT, hY, hD]; omega)
set_option maxRecDepth 100000 in
set_option maxHeartbeats 4000000 in
theorem insert_room (g c : Nat) (cur : Array Value) (l : List (Nat × Nat)) (i : Nat) (y : Nat × Nat) (vb : Nat) (w : World) (hl : l.length ≤ 1000000) (hi : i < l.length) (hroom : l.length + 1 ≤ c) (hR : RowR w g c cur l) (hne : vb ≠ g)
    (hv : w.heap[vb]? = some (.cells #[.int .u64 (y.1 : Int), .int .u64 (y.2 : Int)] 64 (0, 0))) :
    Calls Try.prog 42 #[.slice (some ⟨g, 0, none⟩) l.length c, .int .i64 (i : Int), .slice (some ⟨vb, 0, none⟩) 1 1] w fun e W' => ∃ v', e = .returned v' ∧ OwnR W' v' (insR l i y) ∧ w.grownBy W' (some g) ∧ (v'.ownBlock = some g ∨ v'.ownBlock = some w.heap.size) := by
  obtain ⟨n, hn⟩ : ∃ n, n = l.length := ⟨_, rfl⟩
  obtain ⟨d, hd⟩ : ∃ d, d = n - i := ⟨_, rfl⟩
  have hpre := hR.pre
  have hsz := hR.size
  rw [← hn] at hl hi hroom hpre ⊢
  have hD : (cellsS2 (l.drop i)).length = d * 2 := by rw [cellsS2_len, List.length_drop]; omega
  have hY : (cellsS2 [y]).length = 2 := rfl
  obtain ⟨cur1, hcur1⟩ : ∃ x, x = (spl cur.toList ((i + 1) * 2) (cellsS2 (l.drop i))).toArray := ⟨_, rfl⟩
  obtain ⟨cur2, hcur2⟩ : ∃ x, x = (spl cur1.toList (i * 2) (cellsS2 [y])).toArray := ⟨_, rfl⟩
  have hs1 : cur1.size = c * 2 := by
    rw [hcur1, List.size_toArray, spl_len (by rw [hD, Array.length_toList]; omega), Array.length_toList, hsz]
  have hs2 : cur2.size = c * 2 := by
    rw [hcur2, List.size_toArray, spl_len (by rw [hY, Array.length_toList, hs1]; omega), Array.length_toList, hs1]
  have ht2 : cur2.toList.take ((n + 1) * 2) = cellsS2 (insR l i y) := by
    rw [hcur2, hcur1]
    exact ins_pre hn hi hpre (by rw [Array.length_toList, hsz]; omega)
  have hk1 : (w.drew.setRow g cur1).heap[g]? = some (.cells cur1 64 (0, 0)) := setRow_heap w.drew g cur cur1 _ (0, 0) hR.blk
  have hk2 : ((w.drew.setRow g cur1).setRow g cur2).heap[g]? = some (.cells cur2 64 (0, 0)) := setRow_heap _ g cur1 cur2 _ (0, 0) hk1
  have hv1 : (w.drew.setRow g cur1).heap[vb]? = some (.cells #[.int .u64 (y.1 : Int), .int .u64 (y.2 : Int)] 64 (0, 0)) := (setRow_other _ g vb _ hne).trans hv
  have hcp1 : ∀ ty dc sc, (Builtin.copy_ #[55, 55] ty #[.slice (some ⟨g, (i + 1) * 2, none⟩) d dc, .slice (some ⟨g, i * 2, none⟩) (d + 1) sc]).run Try.prog w.drew = .ok (goInt (Nat.min (d + 1) d)) (w.drew.setRow g cur1) := fun ty dc sc => by
    rw [hcur1]
    exact run_copyR w.drew ty g ((i + 1) * 2) d dc ⟨g, i * 2, none⟩ (d + 1) sc cur _ (cellsS2 (l.drop i)) hR.blk (by rw [hD, show Nat.min (d + 1) d = d from Nat.min_eq_right (by omega)]) (hR.src i) (by rw [hD, hsz]; omega) (cellsS2_one _)
  have hcp2 : ∀ ty dc, (Builtin.copy_ #[55, 55] ty #[.slice (some ⟨g, i * 2, none⟩) (d + 1) dc, .slice (some ⟨vb, 0, none⟩) 1 1]).run Try.prog (w.drew.setRow g cur1) = .ok (goInt (Nat.min 1 (d + 1))) ((w.drew.setRow g cur1).setRow g cur2) := fun ty dc => by
    rw [hcur2]
    exact run_copyR _ ty g (i * 2) (d + 1) dc ⟨vb, 0, none⟩ 1 1 cur1 _ (cellsS2 [y]) hk1 (by rw [hY, show Nat.min 1 (d + 1) = 1 from Nat.min_eq_left (by omega)]) (oneR_src hv1) (by rw [hY, hs1]; omega) (cellsS2_one _)
  have hov : ∀ lb cb, (callFunc 43 #[.slice (some ⟨vb, 0, none⟩) 1 1, .slice (some ⟨g, (i + 1) * 2, none⟩) lb cb]).run Try.prog w = .ok (.value (.bool false)) w := fun lb cb => enOv w g vb _ lb cb cur _ _ hne hv hR.blk (by omega)
  have HR : Hid (∀ W : World, W.heap[g]? = some (.cells cur2 64 (0, 0)) → OwnR W (.slice (some ⟨g, 0, none⟩) (n + 1) c) (insR l i y)) := Lib.hid (fun W h => RowR.own (cur := cur2) ⟨h, by rw [insR_len (by omega), ← hn]; exact hroom, hR.big, hs2, by rw [insR_len (by omega), ← hn]; exact ht2⟩ (by rw [insR_len (by omega), ← hn]))
  have HC1 := Lib.hid hcp1
  have HC2 := Lib.hid hcp2
  have HK2 := Lib.hid hk2
  have HGB : Hid (w.grownBy ((w.drew.setRow g cur1).setRow g cur2) (some g)) := Lib.hid ⟨rfl, rfl, rfl, by simp, fun k _ hk => (setRow_other _ g k _ (fun e => hk (by simp [e]))).trans (setRow_other _ g k _ (fun e => hk (by simp [e])))⟩
  have mixed := follows
  have hii : (i : Int) ≤ (n : Int) := by omega
  have hin : ¬ (i : Int) = (n : Int) := by omega
  have hnc : (n : Int) ≤ (c : Int) := by omega
  have hgt : ¬ (c : Int) < (n : Int) + 1 := by omega
  have hnc1 : (n : Int) + 1 ≤ (c : Int) := by omega
  have hi1 : (i : Int) ≤ (n : Int) + 1 := by omega
  have hci : ¬ c = i := by omega
  have hci1 : ¬ c = i + 1 := by omega
  have hnd : n - i = d := hd.symm
  have hnd1 : n + 1 - i = d + 1 := by omega
  have hn6 : (n : Int) ≤ 1000000 := by omega
  have htn : ((i : Int) + 1).toNat = i + 1 := by omega
  have htn2 : ((n : Int) + 1).toNat = n + 1 := by omega
  have hcz : ¬ c = 0 := by omega
  have hw1 : IntKind.i64.wrap ((i : Int) + 1) = (i : Int) + 1 := by rw [IntKind.wrap_i64]; omega
  have hb1 : (0 : Int) ≤ (i : Int) + 1 := by omega
  have hb3 : (i : Int) + 1 ≤ (n : Int) + 1 := by omega
  clear hcp1 hcp2 hk1 hk2 hv1 hs1 hs2 ht2 hcur1 hcur2 hD hY hsz hpre hR hv hd hn hl hi hroom hne
  go_enter Try.func42, Try.ntmps42
  go_wp2_with (simp only [hov])
  go_region_law_o (refine step_copyR rfl _ _ rfl _ _ (by simp [Act.eval, Act.put]) (by simp [Act.eval, Act.put]) (fun ty => HC1.out ty (c - (i + 1)) (c - i)) ?_)
  go_wp2
  rw [HC2.out]
  go_wp2
  go_ret
  exact ⟨_, rfl, HR.out _ HK2.out, HGB.out, .inl rfl⟩
/-- The same where there is no room. -/
theorem ins_pre2 {l : List (Nat × Nat)} {cur : List Value} {i n : Nat} {y : Nat × Nat} (hn : n = l.length) (hi : i < n) (hp : cur.take (i * 2) = cellsS2 (l.take i)) (hs : (n + 1) * 2 ≤ cur.length) :
    (spl (spl cur (i * 2) (cellsS2 [y])) ((i + 1) * 2) (cellsS2 (l.drop i))).take ((n + 1) * 2) = cellsS2 (insR l i y) := by
  have hD : (cellsS2 (l.drop i)).length = (n - i) * 2 := by rw [cellsS2_len, List.length_drop, hn]
  have hY : (cellsS2 [y]).length = 2 := rfl
  have hl1 : (spl cur (i * 2) (cellsS2 [y])).length = cur.length := spl_len (by rw [hY]; omega)
  have e1 : (spl cur (i * 2) (cellsS2 [y])).take ((i + 1) * 2) = cellsS2 (l.take i) ++ cellsS2 [y] := by
    have := spl_upto (cur := cur) (vs := cellsS2 [y]) (o := i * 2) (by omega)
    rw [hY] at this
    rw [show (i + 1) * 2 = i * 2 + 2 by omega, this, hp]
  have := spl_upto (cur := spl cur (i * 2) (cellsS2 [y])) (vs := cellsS2 (l.drop i)) (o := (i + 1) * 2) (by rw [hl1]; omega)
  rw [hD, e1] at this
  rw [show (n + 1) * 2 = (i + 1) * 2 + (n - i) * 2 by omega, this, insR, cellsS2_append, cellsS2_append]
set_option maxRecDepth 100000 in
set_option maxHeartbeats 4000000 in
theorem insert_grow (g c : Nat) (cur : Array Value) (l : List (Nat × Nat)) (i : Nat) (y : Nat × Nat) (vb : Nat) (w : World) (hl : l.length ≤ 1000000) (hi : i < l.length) (hroom : c < l.length + 1) (hR : RowR w g c cur l)
    (hv : w.heap[vb]? = some (.cells #[.int .u64 (y.1 : Int), .int .u64 (y.2 : Int)] 64 (0, 0))) :
    Calls Try.prog 42 #[.slice (some ⟨g, 0, none⟩) l.length c, .int .i64 (i : Int), .slice (some ⟨vb, 0, none⟩) 1 1] w fun e W' => ∃ v', e = .returned v' ∧ OwnR W' v' (insR l i y) ∧ w.grownBy W' (some g) ∧ (v'.ownBlock = some g ∨ v'.ownBlock = some w.heap.size) := by
  obtain ⟨n, hn⟩ : ∃ n, n = l.length := ⟨_, rfl⟩
  obtain ⟨d, hd⟩ : ∃ d, d = n - i := ⟨_, rfl⟩
  have hcap := hR.cap
  rw [← hn] at hl hi hroom hcap ⊢
  obtain rfl : c = n := by omega
  have hD : (cellsS2 (l.drop i)).length = d * 2 := by rw [cellsS2_len, List.length_drop]; omega
  have hT : (cellsS2 (l.take i)).length = i * 2 := by rw [cellsS2_len, List.length_take, Nat.min_eq_left (by omega)]
  have hY : (cellsS2 [y]).length = 2 := rfl
  obtain ⟨ti, hti, htz, hts, htb⟩ := infoR_parts
  obtain ⟨G, hG⟩ : ∃ G, G = w.heap.size := ⟨_, rfl⟩
  obtain ⟨C, hC⟩ : ∃ C, C = grownCap w (i + (d + 1)) c 64 := ⟨_, rfl⟩
  have hCn : c + 1 ≤ C := by
    have := grownCap_ge w (i + (d + 1)) c 64
    omega
  have hCm : C ≤ maxLen := by
    rw [hC]
    exact grownCap_le_maxLen w _ _ _ (by simp only [maxLen]; omega)
  obtain ⟨cur0, hcur0⟩ : ∃ x, x = (cellsS2 (l.take i)).toArray ++ Builtin.zeroCells (Value.agg #[.int .u64 0, .int .u64 0]).cells (d + 1) ++ Builtin.zeroCells (Value.agg #[.int .u64 0, .int .u64 0]).cells (C - (i + (d + 1))) := ⟨_, rfl⟩
  have hs0 : cur0.size = C * 2 := by
    rw [hcur0]
    simp only [Array.size_append, List.size_toArray, hT, size_zeroCells]
    simp [Value.cells]
    omega
  have hp0 : cur0.toList.take (i * 2) = cellsS2 (l.take i) := by
    rw [hcur0, Array.toList_append, Array.toList_append, List.append_assoc, ← hT]
    exact List.take_left
  obtain ⟨W1, hW1⟩ : ∃ W1, W1 = w.drew.alloc (.cells cur0 64) := ⟨_, rfl⟩
  have hrun : ∀ ty, (Builtin.append_ #[55, 3] ty #[.slice (some ⟨g, 0, none⟩) i c, .int .i64 ((d : Int) + 1)]).run Try.prog w = .ok (.slice (some ⟨G, 0, none⟩) (c + 1) C) W1 := fun ty => by
    have := Lib.run_append_grow_zeros (P := Try.prog) w 55 3 ty 64 ti _ .i64 .i64 Try.underlying55 Try.underlying3 hti htz (some ⟨g, 0, none⟩) i c (cellsS2 (l.take i)) (by
      rw [hts]
      exact run_firstCells_some (P := Try.prog) w.drew 2 i ⟨g, 0, none⟩ i c _ hT (fun j u hj => by
        rw [cellsS2_take, List.getElem?_take] at hj
        split at hj
        · exact hR.src 0 j u hj
        · cases hj)) (d + 1) (by omega) (by rw [hts]; decide) (by omega) (by omega) (by rw [htb]; omega) (by rw [htb]; exact growslice_fits (by omega) (by omega))
    rw [← hC, ← hcur0, ← hG, ← hW1, show i + (d + 1) = c + 1 by omega] at this
    simpa only [Int.natCast_add, Int.natCast_one] using this
  have hk0 : W1.heap[G]? = some (.cells cur0 64 (0, 0)) := by rw [hW1, hG]; exact heap_alloc_new w.drew _
  have hb1 : Below w.heap.size w W1 := by rw [hW1]; exact ((Below.refl _ w).drew).alloc (Nat.le_refl _) _
  have hgl := (Array.getElem?_eq_some_iff.1 hR.blk).1
  have hvl := (Array.getElem?_eq_some_iff.1 hv).1
  have hgG : g ≠ G := by omega
  have hvG : vb ≠ G := by omega
  obtain ⟨cur1, hcur1⟩ : ∃ x, x = (spl cur0.toList (i * 2) (cellsS2 [y])).toArray := ⟨_, rfl⟩
  obtain ⟨cur2, hcur2⟩ : ∃ x, x = (spl cur1.toList ((i + 1) * 2) (cellsS2 (l.drop i))).toArray := ⟨_, rfl⟩
  have hs1 : cur1.size = C * 2 := by
    rw [hcur1, List.size_toArray, spl_len (by rw [hY, Array.length_toList, hs0]; omega), Array.length_toList, hs0]
  have hs2 : cur2.size = C * 2 := by
    rw [hcur2, List.size_toArray, spl_len (by rw [hD, Array.length_toList, hs1]; omega), Array.length_toList, hs1]
  have ht2 : cur2.toList.take ((c + 1) * 2) = cellsS2 (insR l i y) := by
    rw [hcur2, hcur1]
    exact ins_pre2 hn hi hp0 (by rw [Array.length_toList, hs0]; omega)
  have hk1 : (W1.setRow G cur1).heap[G]? = some (.cells cur1 64 (0, 0)) := setRow_heap W1 G cur0 cur1 _ (0, 0) hk0
  have hR1 : RowR (W1.setRow G cur1).drew g c cur l := ⟨(setRow_other _ G g _ hgG).trans ((hb1.block g hgl).trans hR.blk), hR.cap, hR.big, hR.size, hR.pre⟩
  have hk2 : ((W1.setRow G cur1).drew.setRow G cur2).heap[G]? = some (.cells cur2 64 (0, 0)) := setRow_heap _ G cur1 cur2 _ (0, 0) hk1
  have hcp1 : ∀ ty, (Builtin.copy_ #[55, 55] ty #[.slice (some ⟨G, i * 2, none⟩) (d + 1) (C - i), .slice (some ⟨vb, 0, none⟩) 1 1]).run Try.prog W1 = .ok (goInt (Nat.min 1 (d + 1))) (W1.setRow G cur1) := fun ty => by
    rw [hcur1]
    exact run_copyR _ ty G (i * 2) (d + 1) _ ⟨vb, 0, none⟩ 1 1 cur0 _ (cellsS2 [y]) hk0 (by rw [hY, show Nat.min 1 (d + 1) = 1 from Nat.min_eq_left (by omega)]) (oneR_src ((hb1.block vb hvl).trans hv)) (by rw [hY, hs0]; omega) (cellsS2_one _)
  have hcp2 : ∀ ty, (Builtin.copy_ #[55, 55] ty #[.slice (some ⟨G, (i + 1) * 2, none⟩) d (C - (i + 1)), .slice (some ⟨g, i * 2, none⟩) d d]).run Try.prog (W1.setRow G cur1).drew = .ok (goInt (Nat.min d d)) ((W1.setRow G cur1).drew.setRow G cur2) := fun ty => by
    rw [hcur2]
    exact run_copyR _ ty G ((i + 1) * 2) d _ ⟨g, i * 2, none⟩ d _ cur1 _ (cellsS2 (l.drop i)) hk1 (by rw [hD, show Nat.min d d = d from Nat.min_self d]) (hR1.src i) (by rw [hD, hs1]; omega) (cellsS2_one _)
  have HR : Hid (∀ W : World, W.heap[G]? = some (.cells cur2 64 (0, 0)) → OwnR W (.slice (some ⟨G, 0, none⟩) (c + 1) C) (insR l i y)) := Lib.hid (fun W h => RowR.own (cur := cur2) ⟨h, by rw [insR_len (by omega), ← hn]; exact hCn, hCm, hs2, by rw [insR_len (by omega), ← hn]; exact ht2⟩ (by rw [insR_len (by omega), ← hn]))
  have HC1 := Lib.hid hcp1
  have HC2 := Lib.hid hcp2
  have HK2 := Lib.hid hk2
  have HRUN := Lib.hid hrun
  have HG := Lib.hid hG
  have HGB : Hid (w.grownBy ((W1.setRow G cur1).drew.setRow G cur2) (some g)) := Lib.hid ⟨hb1.os, hb1.tape, hb1.output, by simpa using hb1.size, fun k hk _ => (setRow_other _ G k _ (by omega)).trans ((setRow_other _ G k _ (by omega)).trans (hb1.block k hk))⟩
  have mixed := follows
  have hii : (i : Int) ≤ (c : Int) := by omega
  have hin : ¬ (i : Int) = (c : Int) := by omega
  have hgt : (c : Int) < (c : Int) + 1 := by omega
  have hkk : (c : Int) + 1 - (i : Int) = (d : Int) + 1 := by omega
  have hi1 : (i : Int) ≤ (c : Int) + 1 := by omega
  have hCi : ¬ C = i := by omega
  have hci : ¬ c = i := by omega
  have hCi1 : ¬ C = i + 1 := by omega
  have hnd : c - i = d := hd.symm
  have hnd1 : c + 1 - i = d + 1 := by omega
  have hn6 : (c : Int) ≤ 1000000 := by omega
  have hw1 : IntKind.i64.wrap ((i : Int) + 1) = (i : Int) + 1 := by rw [IntKind.wrap_i64]; omega
  have hb1' : (0 : Int) ≤ (i : Int) + 1 := by omega
  have hb3 : (i : Int) + 1 ≤ (c : Int) + 1 := by omega
  have htn : ((i : Int) + 1).toNat = i + 1 := by omega
  clear hcp1 hcp2 hk0 hk1 hk2 hs0 hs1 hs2 ht2 hcur1 hcur2 hD hY hT hp0 hcur0 hR hR1 hv hd hn hl hi hroom hcap hrun hG hC hCn hCm hW1 hb1 hgl hvl hgG hvG hti htz hts htb
  go_enter Try.func42, Try.ntmps42
  go_wp2_with (at_builtin; refine Lib.wpList_append_run _ rfl _ _ _ _ rfl _ _ rfl rfl _ _ (HRUN.out _) ?_)
  rw [HC1.out]
  go_wp2
  go_region_law_o (refine step_copyR rfl _ _ rfl _ _ (by simp [Act.eval, Act.put]) (by simp [Act.eval, Act.put]) (fun ty => HC2.out ty) ?_)
  go_wp2
  go_ret
  exact ⟨_, rfl, HR.out _ HK2.out, HGB.out, .inr (by rw [← HG.out]; rfl)⟩
theorem insert_any (v : Value) (l : List (Nat × Nat)) (i : Nat) (y : Nat × Nat) (vb : Nat) (w : World) (hl : l.length ≤ 1000000) (hi : i ≤ l.length) (hO : OwnR w v l) (hne : v.ownBlock ≠ some vb)
    (hv : w.heap[vb]? = some (.cells #[.int .u64 (y.1 : Int), .int .u64 (y.2 : Int)] 64 (0, 0))) :
    Calls Try.prog 42 #[v, .int .i64 (i : Int), .slice (some ⟨vb, 0, none⟩) 1 1] w fun e W' => ∃ v', e = .returned v' ∧ OwnR W' v' (insR l i y) ∧ w.grownBy W' v.ownBlock ∧ (v'.ownBlock = v.ownBlock ∨ v'.ownBlock = some w.heap.size) := by
  by_cases he : i = l.length
  · subst he
    exact insert_end v l y vb w hl hO hv
  · have hne' : l ≠ [] := by rintro rfl; simp at hi he; omega
    obtain ⟨g, c, cur, rfl, hR⟩ := hO.row hne'
    by_cases hroom : l.length + 1 ≤ c
    · exact insert_room g c cur l i y vb w hl (by omega) hroom hR (fun e => hne (by rw [e]; rfl)) hv
    · exact insert_grow g c cur l i y vb w hl (by omega) (by omega) hR hv
end Go.Proofs.Ytnpkaljmncehhaa
