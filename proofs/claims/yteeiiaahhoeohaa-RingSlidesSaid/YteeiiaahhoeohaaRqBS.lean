/- The contracts of a ring's calls, of elements string: New, Set; calls on nil. -/
import Derived.Test.YteeiiaahhoeohaaRqAS
namespace Go.Proofs.Yteeiiaahhoeohaa
open Go.RowKit

def cellCS (n : Nat) : Array Value := madeCells #[.string ⟨#[]⟩, .bool false] (n * 2)
theorem cellCS_get (n i : Nat) (h : i < n) : (cellCS n)[i * 2]? = some (.string ⟨#[]⟩) ∧ (cellCS n)[i * 2 + 1]? = some (.bool false) := by
  constructor
  · rw [cellCS, madeCells_getR _ _ _ (by omega)]; simp
  · rw [cellCS, madeCells_getR _ _ _ (by omega)]; simp [Nat.mul_add_mod_self_right]
theorem run_mkS (w : World) (n : Nat) (hn : n ≤ 4096) : (Instr.makeSlice 47 (.int .i64 (n : Int)) (.int .i64 (n : Int))).run Try.prog w = .ok (.slice (some ⟨w.heap.size, 0, none⟩) n n) (w.alloc (.cells (cellCS n) 53)) := by
  have h : (Try.prog.info? 53).map (fun i => (i.zero, i.size)) = some (some (.agg #[.string ⟨#[]⟩, .bool false]), 2) := by kernel_rfl
  have hb0 : ((Try.prog.info? 53).map fun i => decide (i.bytes ≤ 64)) = some true := by kernel_rfl
  obtain ⟨i, hi, h⟩ := Option.map_eq_some_iff.1 h
  simp only [Prod.mk.injEq] at h
  obtain ⟨hz, hs⟩ := h
  rw [hi] at hb0
  simp at hb0
  have hbn : n * i.bytes ≤ 4096 * 64 := Nat.mul_le_mul hn hb0
  have hbi : (i.bytes : Int) * (n : Int) ≤ 281474976710656 := by
    rw [← Int.natCast_mul, Nat.mul_comm]
    omega
  have := run_make (P := Try.prog) w 47 53 i _ Try.underlying47 hi hz .i64 .i64 (n : Int) (n : Int) (by omega) (by omega) hbi (by omega)
  rw [hs] at this
  exact this
theorem wpList_mkS {w : World} {ops : Array Oper} {rest : List Oper} {o : Oper} {a : Act} {Q : Exit → Act → World → Prop}
    (hg : o.guard = none) (l c : Operand) (hop : o.op = Op.makeSlice 47 l c) (n : Nat) (hl : a.eval l = .int .i64 (n : Int)) (hc : a.eval c = .int .i64 (n : Int)) (hn : n ≤ 4096)
    (hK : wpList Try.prog ops Q rest (a.put o.dst (.slice (some ⟨w.heap.size, 0, none⟩) n n)) (w.alloc (.cells (cellCS n) 53))) :
    wpList Try.prog ops Q (o :: rest) a w := by
  refine wpList_plain hg fun K hK' => ?_
  unfold Oper.wp
  simp [execOp, hop, hl, hc, run_mkS w n hn, Result.andThen]
  exact hK' _ _ hK

set_option maxHeartbeats 1000000 in
theorem newBad_S (w : World) (n : Int) (hn : -9223372036854775808 ≤ n ∧ n ≤ 9223372036854775807) (hb : n < 1 ∨ 4096 < n) : Calls Try.prog 5 #[.int .i64 n] w fun e w' => e = .returned (.tuple #[.pointer none, .int .i64 1]) ∧ Below w.heap.size w w' := by
  have hcs : n < 1 ∨ (¬ n < 1 ∧ 4096 < n) := by omega
  clear hb
  go_enter Try.func5, Try.ntmps5
  rcases hcs with h1 | ⟨h1, h2⟩
  all_goals go_wp2
  all_goals exact bodyPost_ret (v := .tuple #[.pointer none, .int .i64 1]) (by simp [results, Try.results5, go_sem]) rfl ⟨rfl, Below.refl _ _⟩
/-- What New comes to. -/
def NewPS (w : World) (n : Nat) (e : Ending) (w' : World) : Prop := ∃ R G, e = .returned (.tuple #[.pointer (some ⟨R, 0, none⟩), .int .i64 0]) ∧ RQS w' R G 0 (cellCS n) (RS.new ByteArray n) ∧ (∀ k, FR R G k → w.heap.size ≤ k) ∧ Below w.heap.size w w'
set_option maxHeartbeats 1000000 in
theorem new_S (w : World) (n : Nat) (h1 : 1 ≤ n) (h2 : n ≤ 4096) : Calls Try.prog 5 #[.int .i64 (n : Int)] w (NewPS w n) := by
  have a1 : ¬ (n : Int) < 1 := by omega
  have a2 : ¬ (4096 : Int) < n := by omega
  go_enter Try.func5, Try.ntmps5
  go_wp2_with (at_make; refine wpList_mkS rfl _ _ rfl n rfl rfl h2 ?_)
  refine bodyPost_ret (v := .tuple #[.pointer (some ⟨w.heap.size + 1, 0, none⟩), .int .i64 0]) (by simp [results, Try.results5, go_sem]) rfl ⟨w.heap.size + 1, w.heap.size, rfl, ?_, ?_, ?_⟩
  · refine ⟨h1, h2, by show 0 < 18446744073709551616; omega, by omega, Nat.le_refl _, .inl ⟨rfl, fun _ => rfl⟩, fun j hj => absurd rfl hj, ?_, ?_, ?_, fun j j1 j2 j3 => ?_⟩
    · have := World.alloc_heap_new (w.alloc (.cells (cellCS n) 53)) (.cells #[.int .u64 0, .int .u64 0, .slice (some ⟨w.heap.size, 0, none⟩) n n] 49)
      rwa [World.size_alloc] at this
    · exact (Below.heap_alloc _ _ _ (by simp)).trans (World.alloc_heap_new w _)
    · rw [cellCS, size_madeCells]; rfl
    · exact cellCS_get n _ (Nat.mod_lt _ h1)
  · rintro k (rfl | rfl)
    · omega
    · exact Nat.le_refl _
  · exact ((Below.refl _ w).alloc (Nat.le_refl _) _).alloc (by simp) _

set_option maxHeartbeats 2000000 in
theorem set_S {w : World} {R G m : Nat} {cs : Array Value} {s : RS ByteArray} (h : RQS w R G m cs s) (k : Nat) (v : ByteArray) (hk : k < 18446744073709551616) : Calls Try.prog 7 #[.pointer (some ⟨R, 0, none⟩), .int .u64 (k : Int), .string v] w fun e w' => e = .returned (.int .i64 ((s.set k v).2 : Int)) ∧ (∃ m' cs', RQS w' R G m' cs' (s.set k v).1) ∧ Only (FR R G) w w' := by
  obtain ⟨b, hb⟩ : ∃ b, b = s.b := ⟨_, rfl⟩
  obtain ⟨n, hn⟩ : ∃ n, n = s.n := ⟨_, rfl⟩
  have b0 := blk_cell h.blk 0
  have b1 := blk_cell h.blk 1
  have b2 := blk_cell h.blk 2
  simp at b0 b1 b2
  rw [← hb] at b0
  rw [← hn] at b2
  have n2 : n ≤ 4096 := by rw [hn]; exact h.n2
  have m64 := h.m64
  have H := Lib.hid h
  have HB := Lib.hid hb
  have HN := Lib.hid hn
  clear h
  by_cases c1 : k ≤ b
  · have e : s.set k v = (s, 31) := by unfold RS.set; rw [if_pos (by omega)]
    rw [e]
    clear e hb hn
    have c1i : (k : Int) ≤ (b : Int) := by omega
    go_enter Try.func7, Try.ntmps7
    go_wp2
    go_ret
    exact ⟨rfl, ⟨m, cs, H.out⟩, Only.refl _ _⟩
  · have c1i : ¬ (k : Int) ≤ (b : Int) := by omega
    by_cases c2 : b + n < k
    · have e : s.set k v = (s, 30) := by unfold RS.set; rw [if_neg (by omega), if_pos (by omega)]
      rw [e]
      clear e hb hn
      have c3 : ((k : Int) - (b : Int)) % 18446744073709551616 = (k : Int) - (b : Int) := by omega
      have c2i : (n : Int) < (k : Int) - (b : Int) := by omega
      go_enter Try.func7, Try.ntmps7
      go_wp2
      go_region
      go_wp2
      go_ret
      exact ⟨rfl, ⟨m, cs, H.out.grew (Below.refl _ w).drew⟩, (Only.refl _ _).drew⟩
    · have c3 : ((k : Int) - (b : Int)) % 18446744073709551616 = (k : Int) - (b : Int) := by omega
      have c2i : ¬ (n : Int) < (k : Int) - (b : Int) := by omega
      have h1 : s.b < k := by omega
      have h2 : k ≤ s.b + s.n := by omega
      have e2 : (s.set k v).2 = 0 := by unfold RS.set; rw [if_neg (by omega), if_neg (by omega)]
      rw [e2]
      have HH := Lib.hid (And.intro h1 h2)
      clear e2 hb hn h1 h2 c1 c2
      go_enter Try.func7, Try.ntmps7
      go_wp2
      go_region
      go_wp2_with fail
      have hq := H.out.grew (w' := w.drew) (Below.refl _ w).drew
      refine (at_S hq k hk).mono ?_
      rintro e w' ⟨rfl, rfl⟩
      go_wp2_with fail
      refine (own_S v _).mono ?_
      rintro e w' ⟨rfl, rfl⟩
      have hq2 := hq.grew (w' := w.drew.drew) (Below.refl _ w.drew).drew
      obtain ⟨q, hqq⟩ : ∃ q, q = k % s.n := ⟨_, rfl⟩
      obtain ⟨W, hW⟩ : ∃ W, W = w.drew.drew := ⟨_, rfl⟩
      have o1 : Only (FR R G) w W := by rw [hW]; exact (Only.refl _ _).drew.drew
      rw [← hW] at hq2 ⊢
      rw [← hqq]
      obtain ⟨hc0, hc1⟩ := hq2.cell k HH.out.1 HH.out.2 hk
      have d0 := (blk_cell hq2.row (k % s.n * 2)).trans hc0
      have d1 := (blk_cell hq2.row (k % s.n * 2 + 1)).trans hc1
      rw [← hqq] at d0 d1
      have z0 := blk_frozen hq2.row (q * 2)
      have z1 := blk_frozen hq2.row (q * 2 + 1)
      have hne := hq2.ne (by decide)
      have HQ := Lib.hid hq2
      have HQQ := Lib.hid hqq
      have O1 := Lib.hid o1
      have HNE := Lib.hid hne
      clear hq2 hqq hW o1 hc0 hc1 hq hne b0 b1 b2
      go_upto_region 8 with (fail)
      obtain ⟨W2, hW2⟩ : ∃ W2, W2 = (W.setCell ⟨G, q * 2, none⟩ (.string v)).setCell ⟨G, q * 2 + 1, none⟩ (.bool true) := ⟨_, rfl⟩
      have r2 := blk_set2 HQ.out.row q (.string v) (.bool true)
      have k2 := blk_keepR (j := q * 2 + 1) (u := .bool true) (blk_keepR (j := q * 2) (u := .string v) HQ.out.blk (Ne.symm HNE.out)) (Ne.symm HNE.out)
      have o2 : Only (FR R G) w W2 := by
        rw [hW2]
        exact (O1.out.setCell (p := ⟨G, q * 2, none⟩) (.inl (.inr rfl)) _).setCell (p := ⟨G, q * 2 + 1, none⟩) (.inl (.inr rfl)) _
      rw [← hW2] at r2 k2 ⊢
      have b1 := blk_cell k2 1
      have y1 := blk_frozen k2 1
      simp at b1
      have R2 := Lib.hid r2
      have K2 := Lib.hid k2
      have O2 := Lib.hid o2
      clear r2 k2 o2 hW2 d0 d1 z0 z1
      go_wp2
      go_ret
      have em : max (m : Int) (k : Int) = ((max m k : Nat) : Int) := by omega
      rw [em]
      have k3 : (W2.setCell ⟨R, 1, none⟩ (.int .u64 ((max m k : Nat) : Int))).heap[R]? = _ := blk_set K2.out 1 _
      have r3 := blk_keepR (j := 1) (u := .int .u64 ((max m k : Nat) : Int)) R2.out HNE.out
      rw [HQQ.out] at r3
      exact ⟨rfl, ⟨max m k, _, HQ.out.set HH.out.1 HH.out.2 hk k3 r3⟩, O2.out.setCell (p := ⟨R, 1, none⟩) (.inl (.inl rfl)) _⟩

end Go.Proofs.Yteeiiaahhoeohaa
