/- The spans of a replica. -/
import Derived.Test.YtnpkaljmncehhaaVqT
import Derived.Test.YtnpkaljmncehhaaVqV
namespace Go.Proofs.Ytnpkaljmncehhaa
open Go.RowKit

/-- The row that grows: in block Q. -/
structure SpJ (w : World) (Q : Nat) (l : List (Nat × Nat)) (m : Nat) (W : World) : Prop where
  below : Below w.heap.size w W
  ex : ∃ v, W.heap[Q]? = some (.cells #[v] 50 (0, 0)) ∧ OwnS2 w.heap.size W v (l.take m)
theorem OwnS2.lt2 {b : Nat} {w : World} {v : Value} {l : List (Nat × Nat)} (h : OwnS2 b w v l) : ∀ k, v.ownBlock = some k → ∃ cur, w.heap[k]? = some (.cells cur 42 (0, 0)) := fun k e => by
  rcases h.2 with ⟨rfl, _⟩ | ⟨g, cap, cur, rfl, hb, hg, _⟩
  · cases e
  · cases e; exact ⟨cur, hg⟩
theorem OwnS2.same {b : Nat} {w w' : World} {v : Value} {l : List (Nat × Nat)} (h : OwnS2 b w v l) (hk : ∀ k, v.ownBlock = some k → w'.heap[k]? = w.heap[k]?) : OwnS2 b w' v l := by
  refine ⟨h.1, ?_⟩
  rcases h.2 with h2 | ⟨g, cap, cur, e, b, r, q⟩
  · exact .inl h2
  · subst e
    exact .inr ⟨g, _, cur, rfl, b, (hk g rfl).trans r, q⟩
theorem OwnS2.off {b Q : Nat} {w : World} {v : Value} {l : List (Nat × Nat)} (h : OwnS2 b w v l) {cs : Array Value} (hQ : w.heap[Q]? = some (.cells cs 50 (0, 0))) : v.ownBlock ≠ some Q := fun e => by
  obtain ⟨cur, hc⟩ := h.lt2 Q e
  rw [hQ] at hc
  simp only [Option.some.injEq, Obj.cells.injEq] at hc
  exact absurd hc.2.1 (by decide)
theorem take_succ {l : List (Nat × Nat)} {m : Nat} (h : m < l.length) : l.take (m + 1) = l.take m ++ [l[m]] := by
  rw [List.take_add_one, List.getElem?_eq_getElem h]
  rfl
set_option maxRecDepth 100000 in
set_option maxHeartbeats 4000000 in
/-- A run is appended. -/
theorem spans1_any (w : World) (Q : Nat) (l : List (Nat × Nat)) (m : Nat) (hm : m < l.length) (hl : l.length ≤ 100000) (hQ : w.heap.size ≤ Q) (W : World) (h : SpJ w Q l m W) :
    Calls Try.prog 29 #[.agg #[.int .u64 (l[m].1 : Int), .int .u64 (l[m].2 : Int)], .pointer (some ⟨Q, 0, none⟩)] W fun e W' => e = .returned (.tuple #[]) ∧ SpJ w Q l (m + 1) W' := by
  obtain ⟨v, hv, ho⟩ := h.ex
  have hb := h.below
  have HT := Lib.hid (take_succ hm)
  have hlen : (l.take m).length + 1 ≤ 1000000 := by rw [List.length_take]; omega
  obtain ⟨x, hx⟩ : ∃ x, x = l[m] := ⟨_, rfl⟩
  rw [← hx] at HT ⊢
  have HL := Lib.hid hlen
  have HV := Lib.hid hv
  have HO := Lib.hid ho
  have HB := Lib.hid hb
  clear hv ho hb h hx hm hl hlen
  go_enter Try.func29, Try.ntmps29
  go_upto_region 1 with (fail)
  obtain ⟨W0, hW0⟩ : ∃ W0, W0 = W.alloc (.cells #[.int .u64 (x.1 : Int), .int .u64 (x.2 : Int)] 64) := ⟨_, rfl⟩
  rw [← hW0]
  obtain ⟨b0, k0, s0⟩ := boxR hW0
  have hQl := (Array.getElem?_eq_some_iff.1 HV.out).1
  have q0 := (b0.block Q hQl).trans HV.out
  have cq := blk_cell q0 0
  have c0 := blk_cell k0 0
  have c1 := blk_cell k0 1
  obtain ⟨p, hp⟩ : ∃ p, p = W.heap.size := ⟨_, rfl⟩
  rw [← hp] at c0 c1 ⊢
  have hpl : p < W0.heap.size := by omega
  have hQl0 : Q < W0.heap.size := by omega
  have hQp : Q ≠ p := by omega
  have HO0 := Lib.hid (HO.out.below b0)
  have HQ0 := Lib.hid q0
  have HB0 := Lib.hid (HB.out.trans (Below.mono b0 HB.out.size))
  have HS0 := Lib.hid (show w.heap.size ≤ W0.heap.size by have := HB.out.size; omega)
  clear hW0 b0 k0 q0 s0 hp
  obtain ⟨V, hV⟩ : ∃ V, V = W0.alloc (.cells #[.int .u64 (x.1 : Int), .int .u64 (x.2 : Int)] 42) := ⟨_, rfl⟩
  have bV : Below W0.heap.size W0 V := by rw [hV]; exact (Below.refl _ _).alloc (Nat.le_refl _) _
  have qV := (bV.block Q hQl0).trans HQ0.out
  have oV := HO0.out.below bV
  have HFIN : Hid (∀ w1 v1, OwnS2 w.heap.size w1 v1 (l.take m ++ [x]) → V.grownBy w1 v.ownBlock → w1.heap[Q]? = some (.cells #[v] 50 (0, 0)) ∧ SpJ w Q l (m + 1) (w1.setCell ⟨Q, 0, none⟩ v1)) := Lib.hid fun w1 v1 h1 h2 => by
    have hq1 : w1.heap[Q]? = some (.cells #[v] 50 (0, 0)) := (h2.block Q (Array.getElem?_eq_some_iff.1 qV).1 (fun e => oV.off qV e.symm)).trans qV
    refine ⟨hq1, ⟨(((HB0.out.trans (Below.mono bV HS0.out)).grown h2 (Nat.le_trans HS0.out bV.size) (fun k hk => oV.lt k hk))).setCell (p := ⟨Q, 0, none⟩) hQ _, v1, ?_, ?_⟩⟩
    · exact blk_set hq1 0 v1
    · rw [HT.out]
      exact h1.same fun k hk => Below.heap_setCell _ _ _ _ (by rintro rfl; exact h1.off hq1 hk)
  have HVV := Lib.hid hV
  have HOV := Lib.hid oV
  have HVS : Hid (w.heap.size ≤ V.heap.size) := Lib.hid (Nat.le_trans HS0.out bV.size)
  have HX0 : Hid (V.cell? ⟨W0.heap.size, 0, none⟩ = some (.int .u64 (x.1 : Int)) ∧ V.cell? ⟨W0.heap.size, 1, none⟩ = some (.int .u64 (x.2 : Int))) := Lib.hid (by
    rw [hV]
    exact ⟨blk_cell (World.alloc_heap_new W0 _) 0, blk_cell (World.alloc_heap_new W0 _) 1⟩)
  clear hV bV qV oV
  go_wp2_with (at_builtin; rw [← HVV.out]; refine wpList_append_S2 rfl _ _ rfl w.heap.size v (l.take m) rfl HOV.out W0.heap.size 1 x rfl HX0.out.1 HX0.out.2 HL.out HVS.out ?_; intro v1 w1 ho1 hg1; have HF1 := Lib.hid (HFIN.out w1 v1 ho1 hg1); obtain ⟨A1, d1, e1⟩ := ho1.form; obtain ⟨n1, hn1⟩ : ∃ n1, n1 = (l.take m ++ [x]).length := ⟨_, rfl⟩; rw [← hn1] at e1; subst e1; clear hn1; have k1 := blk_cell HF1.out.1 0; have f1 := blk_frozen HF1.out.1 0; clear ho1 hg1)
  go_end0
  exact ⟨rfl, HF1.out.2⟩
theorem enSp : ∀ args w, (callFunc 29 args).run Try.prog w = .ok (.enter 29 args) w := enters_of Try.func29 (by kernel_rfl) rfl
set_option maxRecDepth 100000 in
set_option maxHeartbeats 4000000 in
theorem spans_any (R : Nat) (t : TM) (vs : Nat → Value) (ls : Nat → List (Nat × Nat)) (r : Nat) (w : World) (h : TlQ w R t vs ls) (hok : t.ok) (hc : t.c ≤ 90000) (hr : r < t.n) :
    Calls Try.prog 17 #[.pointer (some ⟨R, 0, none⟩), .int .i64 (r : Int)] w fun e W' => ∃ A c, e = .returned (.slice A (ls r).length c) ∧ OwnS2 w.heap.size W' (.slice A (ls r).length c) (ls r) ∧ Below w.heap.size w W' := by
  have hr7 : r < 7 := by have := hok.n7; omega
  have hr7i : (r : Int) < 7 := by omega
  have HO := Lib.hid (isOne_any R t.n r w h.c0)
  rw [decide_eq_true (show 0 ≤ (r : Int) ∧ (r : Int) < (t.n : Int) by omega)] at HO
  have hS := h.set hr7
  have hlen := h.len r hr7
  have hRl := h.lt R (.inl rfl)
  obtain ⟨A, c, hv⟩ := (h.own r hr7).form
  have hcell := hS.cell
  rw [hv] at hcell hS
  obtain ⟨l, hl⟩ : ∃ l, l = ls r := ⟨_, rfl⟩
  rw [← hl] at hcell hS hlen ⊢
  obtain ⟨n, hn⟩ : ∃ n, n = l.length := ⟨_, rfl⟩
  rw [← hn] at hcell hS hlen ⊢
  have HS := Lib.hid hS
  have HL := Lib.hid (And.intro hn (show n ≤ 90000 by omega))
  clear h hok hc hr hr7 hv hl hn hS hlen
  go_enter Try.func17, Try.ntmps17
  go_wp2_with fail
  refine HO.out.mono ?_
  rintro e W1 ⟨rfl, rfl⟩
  go_upto_region 4 with (fail)
  obtain ⟨W0, hW0⟩ : ∃ W0, W0 = W1.alloc (.cells #[.slice none 0 0] 50) := ⟨_, rfl⟩
  rw [← hW0]
  have b0 : Below W1.heap.size W1 W0 := by rw [hW0]; exact (Below.refl _ _).alloc (Nat.le_refl _) _
  have k0 : W0.heap[W1.heap.size]? = some (.cells #[.slice none 0 0] 50 (0, 0)) := by rw [hW0]; exact World.alloc_heap_new W1 _
  obtain ⟨Q, hQ⟩ : ∃ Q, Q = W1.heap.size := ⟨_, rfl⟩
  rw [← hQ] at k0 ⊢
  have hcell0 := (b0.cell (p := ⟨R, 2 + r, none⟩) hRl).trans hcell
  have hS0 := HS.out.grew b0
  have hJ0 : SpJ W1 Q l 0 W0 := ⟨b0, _, k0, World.ownsRow_nil W0 W1.heap.size _ 2⟩
  have HV : Hid (Calls Try.prog 28 #[.pointer (some ⟨R, 2 + r, none⟩), .int .i64 0, .int .i64 (n : Int), .func (.func 29) #[] #[.pointer (some ⟨Q, 0, none⟩)]] W0 fun e W' => e = .returned (.tuple #[]) ∧ SpJ W1 Q l n W') := Lib.hid (by
    have := visit_any R (2 + r) _ l 0 n (fun m W => SpJ W1 Q l m W) _ enSp #[] #[.pointer (some ⟨Q, 0, none⟩)] W0 (by have := HL.out; omega) (Nat.zero_le _) (by have := HL.out; omega) hJ0 (fun m W hJ => HS.out.grew hJ.below) (fun m W hm _ hJ => by
      have e : l[0 + m] = l[m]'(by omega) := by congr 1; omega
      rw [e]
      exact spans1_any W1 Q l m (by omega) (by have := HL.out; omega) (by omega) W hJ)
    exact this)
  have HQ := Lib.hid hQ
  clear hJ0 hS0 k0 b0 hW0 hQ
  go_wp2_with fail
  refine HV.out.mono ?_
  rintro e W2 ⟨rfl, hJ⟩
  obtain ⟨v2, hv2, ho2⟩ := hJ.ex
  rw [show l.take n = l from List.take_of_length_le (by have := HL.out; omega)] at ho2
  obtain ⟨A2, c2, rfl⟩ := ho2.form
  have hq2 := blk_cell hv2 0
  rw [← HL.out.1] at hq2 ho2
  have HJ := Lib.hid hJ.below
  have HO2 := Lib.hid ho2
  clear hJ hv2 ho2
  go_wp2
  go_ret
  exact ⟨A2, c2, rfl, HO2.out, HJ.out⟩
end Go.Proofs.Ytnpkaljmncehhaa
