/- What the program keeps of the commands that have their waves: how it lies; nothing, addLone, add. -/
import Derived.Test.YtooaobadnainkaaKtC
import Derived.Test.YtooaobadnainkaaKtA
import Derived.Test.YtooaobadnainkaaKtM
namespace Go.Proofs.Ytooaobadnainkaa
open Go.RowKit Go.Maps

/-- The past of some commands: block R, with the limit's block g and two maps. -/
structure PsQ (W : World) (R g bk bc : Nat) (l : List CM) : Prop where
  cell : W.heap[R]? = some (.cells #[loneV g, .map (some bk), .map (some bc), .int .i64 (leastW (wavesM l) : Int), .int .i64 (countW (wavesM l) : Int)] 47 (0, 0))
  lim : W.heap[g]? = some (.cells #[.int .i64 4] 3 (0, 0))
  keys : ∃ n, n ≤ 10000 * l.length ∧ TwS W bk n (keyT (wavesM l))
  cls : ∃ n, n ≤ l.length ∧ TwU W bc n (clT (wavesM l))
  ne : bk ≠ bc
theorem TwK.blk {K : Type} {kt : TypeId} {kl : K → Lit} {ok : K → Prop} {w : World} {b n : Nat} {T : K → Nat} (h : TwK kt kl ok w b n T) : ∃ es clock, w.heap[b]? = some (.map es clock) := by
  obtain ⟨D, ⟨es, ck, h1, _⟩, _⟩ := h.ex
  exact ⟨es, ck, h1⟩
theorem TwK.ne_cells {K : Type} {kt : TypeId} {kl : K → Lit} {ok : K → Prop} {w : World} {b n : Nat} {T : K → Nat} (h : TwK kt kl ok w b n T) {q : Nat} {cs : Array Value} {t : TypeId} {z : Nat × Nat} (hq : w.heap[q]? = some (.cells cs t z)) : q ≠ b := by
  obtain ⟨es, ck, h1⟩ := h.blk
  intro e
  rw [e, h1] at hq
  cases hq
theorem TwK.ne_cell {K : Type} {kt : TypeId} {kl : K → Lit} {ok : K → Prop} {w : World} {b n : Nat} {T : K → Nat} (h : TwK kt kl ok w b n T) {p : Addr} {v : Value} (hp : w.cell? p = some v) : p.block ≠ b := by
  obtain ⟨es, ck, h1⟩ := h.blk
  intro e
  subst e
  unfold World.cell? at hp
  rw [h1] at hp
  simp at hp
section
variable {W W' : World} {R g bk bc : Nat} {l : List CM}
theorem PsQ.lt (h : PsQ W R g bk bc l) : R < W.heap.size ∧ g < W.heap.size ∧ bk < W.heap.size ∧ bc < W.heap.size := by
  obtain ⟨_, _, h1⟩ := h.keys
  obtain ⟨_, _, h2⟩ := h.cls
  exact ⟨(Array.getElem?_eq_some_iff.1 h.cell).1, (Array.getElem?_eq_some_iff.1 h.lim).1, h1.lt, h2.lt⟩
theorem PsQ.below (h : PsQ W R g bk bc l) (hb : Below W.heap.size W W') : PsQ W' R g bk bc l := by
  obtain ⟨k1, k2, k3, k4⟩ := h.lt
  obtain ⟨n1, a1, h1⟩ := h.keys
  obtain ⟨n2, a2, h2⟩ := h.cls
  exact ⟨(hb.block R k1).trans h.cell, (hb.block g k2).trans h.lim, ⟨n1, a1, h1.keep (hb.block bk k3)⟩, ⟨n2, a2, h2.keep (hb.block bc k4)⟩, h.ne⟩
theorem PsQ.apart (h : PsQ W R g bk bc l) : R ≠ bk ∧ R ≠ bc ∧ g ≠ bk ∧ g ≠ bc ∧ R ≠ g := by
  obtain ⟨n1, _, h1⟩ := h.keys
  obtain ⟨n2, _, h2⟩ := h.cls
  refine ⟨h1.ne_cells h.cell, h2.ne_cells h.cell, h1.ne_cells h.lim, h2.ne_cells h.lim, fun e => ?_⟩
  have h3 := h.cell
  rw [e, h.lim] at h3
  have h4 := Obj.cells.inj (Option.some.inj h3)
  exact absurd (congrArg Array.size h4.1) (by simp)
theorem PsQ.at (h : PsQ W R g bk bc l) : W.cell? ⟨R, 0, none⟩ = some (loneV g) ∧ W.cell? ⟨R, 1, none⟩ = some (.map (some bk)) ∧ W.cell? ⟨R, 2, none⟩ = some (.map (some bc)) ∧ W.cell? ⟨R, 3, none⟩ = some (.int .i64 (leastW (wavesM l) : Int)) ∧ W.cell? ⟨R, 4, none⟩ = some (.int .i64 (countW (wavesM l) : Int)) :=
  ⟨blk_cell h.cell 0, blk_cell h.cell 1, blk_cell h.cell 2, blk_cell h.cell 3, blk_cell h.cell 4⟩
theorem PsQ.fz (h : PsQ W R g bk bc l) (i : Nat) : W.frozen? ⟨R, i, none⟩ = false := blk_frozen h.cell i
end
set_option maxRecDepth 100000 in
set_option maxHeartbeats 4000000 in
theorem nothing_any (w : World) : Calls Try.prog 15 #[] w fun e W' => ∃ R g bk bc, e = .returned (.pointer (some ⟨R, 0, none⟩)) ∧ PsQ W' R g bk bc [] ∧ (w.heap.size ≤ R ∧ w.heap.size ≤ bk ∧ w.heap.size ≤ bc) ∧ Below w.heap.size w W' := by
  have HM := Lib.hid (more_any w)
  obtain ⟨W0, hW0⟩ : ∃ W0, W0 = w.alloc (.cells #[.int .i64 4] 3) := ⟨_, rfl⟩
  rw [← hW0] at HM
  obtain ⟨hB0, k0⟩ := boxedW hW0
  have s0 : W0.heap.size = w.heap.size + 1 := by rw [hW0]; simp
  have m1 := run_makeMap (P := Try.prog) 44 W0
  have t1 : TwS (W0.alloc (.map #[] 0)) W0.heap.size 0 (fun _ => 0) := TwK.new W0
  have hB1 : Below W0.heap.size W0 (W0.alloc (.map #[] 0)) := (Below.refl _ W0).alloc (Nat.le_refl _) _
  have s1 : (W0.alloc (.map #[] 0)).heap.size = W0.heap.size + 1 := by simp
  obtain ⟨W1, hW1⟩ : ∃ W1, W1 = W0.alloc (.map #[] 0) := ⟨_, rfl⟩
  rw [← hW1] at m1 t1 hB1 s1
  have m2 := run_makeMap (P := Try.prog) 45 W1
  have t2 : TwU (W1.alloc (.map #[] 0)) W1.heap.size 0 (fun _ => 0) := TwK.new W1
  have hB2 : Below W1.heap.size W1 (W1.alloc (.map #[] 0)) := (Below.refl _ W1).alloc (Nat.le_refl _) _
  have s2 : (W1.alloc (.map #[] 0)).heap.size = W1.heap.size + 1 := by simp
  obtain ⟨W2, hW2⟩ : ∃ W2, W2 = W1.alloc (.map #[] 0) := ⟨_, rfl⟩
  rw [← hW2] at m2 t2 hB2 s2
  obtain ⟨g, hg⟩ : ∃ g, g = w.heap.size := ⟨_, rfl⟩
  obtain ⟨bk, hbk⟩ : ∃ bk, bk = W0.heap.size := ⟨_, rfl⟩
  obtain ⟨bc, hbc⟩ : ∃ bc, bc = W1.heap.size := ⟨_, rfl⟩
  rw [← hbk] at m1 t1
  rw [← hbc] at m2 t2
  obtain ⟨W3, hW3⟩ : ∃ W3, W3 = W2.alloc (.cells #[loneV g, .map (some bk), .map (some bc), .int .i64 0, .int .i64 0] 47) := ⟨_, rfl⟩
  obtain ⟨hB3, k3⟩ := boxedW hW3
  have HH : Hid (PsQ W3 W2.heap.size g bk bc [] ∧ (w.heap.size ≤ W2.heap.size ∧ w.heap.size ≤ bk ∧ w.heap.size ≤ bc) ∧ Below w.heap.size w W3) := by
    refine Lib.hid ⟨⟨k3, ?_, ⟨0, by simp, ?_⟩, ⟨0, by simp, ?_⟩, by omega⟩, by omega, ?_⟩
    · exact ((hB3.block g (by omega)).trans ((hB2.block g (by omega)).trans ((hB1.block g (by omega)).trans (by rw [hg]; exact k0))))
    · exact (t1.keep ((hB3.block bk (by omega)).trans (hB2.block bk (by omega)))).congr (fun k _ => rfl)
    · exact (t2.keep (hB3.block bc (by omega))).congr (fun k _ => rfl)
    · exact hB0.trans (Below.mono (hB1.trans (Below.mono (hB2.trans (Below.mono hB3 (by omega))) (by omega))) (by omega))
  rw [← hg] at HM
  obtain ⟨R, hR⟩ : ∃ R, R = W2.heap.size := ⟨_, rfl⟩
  rw [← hR] at HH
  unfold loneV at HM hW3
  have HW3 := Lib.hid hW3
  have HR := Lib.hid hR
  clear hB0 k0 s0 t1 hB1 s1 t2 hB2 s2 hB3 k3 hg hbk hbc hW0 hW1 hW2 hW3 hR
  go_enter Try.func15, Try.ntmps15
  go_wp2_with fail
  refine HM.out.mono ?_
  rintro e V ⟨rfl, rfl⟩
  go_wp2
  rw [← HW3.out, ← HR.out]
  go_ret
  exact ⟨R, g, bk, bc, rfl, HH.out⟩
set_option maxRecDepth 100000 in
set_option maxHeartbeats 4000000 in
theorem addLone_any {w : World} {R g bk bc : Nat} {l : List CM} (h : PsQ w R g bk bc l) (hl : l.length ≤ 1000) {m : CM} (hm : loneM m = true) :
    Calls Try.prog 22 #[.pointer (some ⟨R, 0, none⟩)] w fun e W' => e = .returned (.int .i64 (nextW (wavesM l) m : Int)) ∧ PsQ W' R g bk bc (l ++ [m]) ∧ Only (fun x => x = R) w W' := by
  obtain ⟨x0, x1, x2, x3, x4⟩ := h.at
  have z3 := h.fz 3
  have z4 := h.fz 4
  obtain ⟨N, hN⟩ : ∃ N, N = countW (wavesM l) := ⟨_, rfl⟩
  have hNl : N ≤ 1000 := by rw [hN]; exact Nat.le_trans (countW_le l) hl
  have hNi : (N : Int) ≤ 1000 := by omega
  rw [nextW_lone _ hm, ← hN]
  have hap := h.apart
  have HH : Hid (PsQ ((w.setCell ⟨R, 4, none⟩ (.int .i64 ((N : Int) + 1))).setCell ⟨R, 3, none⟩ (.int .i64 ((N : Int) + 1))) R g bk bc (l ++ [m]) ∧ Only (fun x => x = R) w ((w.setCell ⟨R, 4, none⟩ (.int .i64 ((N : Int) + 1))).setCell ⟨R, 3, none⟩ (.int .i64 ((N : Int) + 1)))) := by
    obtain ⟨n1, a1, h1⟩ := h.keys
    obtain ⟨n2, a2, h2⟩ := h.cls
    have k4 := blk_set h.cell 4 (.int .i64 ((N : Int) + 1))
    have k3 := blk_set k4 3 (.int .i64 ((N : Int) + 1))
    have hbl : ∀ k, k ≠ R → ((w.setCell ⟨R, 4, none⟩ (.int .i64 ((N : Int) + 1))).setCell ⟨R, 3, none⟩ (.int .i64 ((N : Int) + 1))).heap[k]? = w.heap[k]? := fun k hk => (Below.heap_setCell _ _ _ _ hk).trans (Below.heap_setCell _ _ _ _ hk)
    refine Lib.hid ⟨⟨?_, (hbl g (Ne.symm hap.2.2.2.2)).trans h.lim, ⟨n1, by simp; omega, (h1.keep (hbl bk (Ne.symm hap.1))).congr (fun k _ => ?_)⟩, ⟨n2, by simp; omega, (h2.keep (hbl bc (Ne.symm hap.2.1))).congr (fun k _ => ?_)⟩, h.ne⟩, ?_⟩
    · rw [k3, wavesM_snoc, least_lone hm, count_lone hm, ← hN]
      simp
    · rw [wavesM_snoc, keyT_lone hm]
    · rw [wavesM_snoc, clT_lone hm]
    · exact Only.setCell (p := ⟨R, 3, none⟩) (Only.setCell (p := ⟨R, 4, none⟩) (Only.refl (fun x => x = R) w) (.inl rfl) _) (.inl rfl) _
  rw [← hN] at x4
  clear hN h hm hap hNl
  go_enter Try.func22, Try.ntmps22
  go_wp2
  go_ret
  exact ⟨rfl, HH.out⟩
end Go.Proofs.Ytooaobadnainkaa
