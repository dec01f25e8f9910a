/- A run is added to a set. -/
import Derived.Test.YtnpkaljmncehhaaVqM
import Derived.Test.YtnpkaljmncehhaaVqV
import Derived.Test.YtnpkaljmncehhaaVqW
namespace Go.Proofs.Ytnpkaljmncehhaa
open Go.RowKit

theorem enA1 : ∀ args w, (callFunc 34 args).run Try.prog w = .ok (.enter 34 args) w := enters_of Try.func34 (by kernel_rfl) rfl
theorem enA2 : ∀ args w, (callFunc 35 args).run Try.prog w = .ok (.enter 35 args) w := enters_of Try.func35 (by kernel_rfl) rfl
theorem enMg : ∀ args w, (callFunc 36 args).run Try.prog w = .ok (.enter 36 args) w := enters_of Try.func36 (by kernel_rfl) rfl
theorem nearP_run (R k : Nat) (v : Value) (l : List (Nat × Nat)) (X a b : Nat) (w : World) (hl : l.length ≤ 1000000) (hS : SetQ w R k v l) (hX : w.heap[X]? = some (.cells #[.int .u64 (a : Int), .int .u64 (b : Int)] 64 (0, 0))) (ha : 1 ≤ a) (ha2 : a < 18446744073709551616) :
    Calls Try.prog 33 #[.pointer (some ⟨R, k, none⟩), .func (.func 34) #[] #[.pointer (some ⟨X, 0, none⟩)]] w fun e W' => ∃ i : Nat, e = .returned (.int .i64 (i : Int)) ∧ FirstP (atP (nearP a) l) l.length i ∧ Below w.heap.size w W' :=
  first_any R k v l _ enA1 _ (atP (nearP a) l) w hl hS fun j hj W hW => by
    have hXl := (Array.getElem?_eq_some_iff.1 hX).1
    rw [atP_at hj]
    exact add1_any X a b l[j].1 l[j].2 W ((hW.cell (p := ⟨X, 0, none⟩) hXl).trans (blk_cell hX 0)) (Nat.lt_of_lt_of_le hXl hW.size) ha ha2
theorem farP_run (R k : Nat) (v : Value) (l : List (Nat × Nat)) (X a b : Nat) (w : World) (hl : l.length ≤ 1000000) (hS : SetQ w R k v l) (hX : w.heap[X]? = some (.cells #[.int .u64 (a : Int), .int .u64 (b : Int)] 64 (0, 0))) (h1 : ∀ j (h : j < l.length), 1 ≤ l[j].1 ∧ l[j].1 < 18446744073709551616) :
    Calls Try.prog 33 #[.pointer (some ⟨R, k, none⟩), .func (.func 35) #[] #[.pointer (some ⟨X, 0, none⟩)]] w fun e W' => ∃ i : Nat, e = .returned (.int .i64 (i : Int)) ∧ FirstP (atP (farP b) l) l.length i ∧ Below w.heap.size w W' :=
  first_any R k v l _ enA2 _ (atP (farP b) l) w hl hS fun j hj W hW => by
    have hXl := (Array.getElem?_eq_some_iff.1 hX).1
    rw [atP_at hj]
    exact add2_any X a b l[j].1 l[j].2 W ((hW.cell (p := ⟨X, 0 + 1, none⟩) hXl).trans (blk_cell hX 1)) (Nat.lt_of_lt_of_le hXl hW.size) (h1 j hj).1 (h1 j hj).2
/-- The rounds of the merging. -/
structure MrgJ (w : World) (R k X : Nat) (v : Value) (l : List (Nat × Nat)) (i : Nat) (p : Nat × Nat) (m : Nat) (W : World) : Prop where
  only : Only (fun x => x = X) w W
  set : SetQ W R k v l
  blk : W.heap[X]? = some (.cells #[.int .u64 ((mrgR l i p m).1 : Int), .int .u64 ((mrgR l i p m).2 : Int)] 64 (0, 0))
theorem SetQ.only {w w' : World} {R k : Nat} {v : Value} {l : List (Nat × Nat)} {F : Nat → Prop} (h : SetQ w R k v l) (ho : Only F w w') (h1 : ¬ F R) (h2 : ∀ x, v.ownBlock = some x → ¬ F x) : SetQ w' R k v l := by
  have e := ho.block R h.lt h1
  refine ⟨?_, Nat.lt_of_lt_of_le h.lt ho.size, h.own.only ho h2⟩
  rw [← h.cell]
  unfold World.cell?
  simp only [e]
theorem visit_mrg (R k X : Nat) (v : Value) (l : List (Nat × Nat)) (i j : Nat) (p : Nat × Nat) (w : World) (hl : l.length ≤ 1000000) (hij : i ≤ j) (hj : j ≤ l.length) (hS : SetQ w R k v l) (hX : w.heap[X]? = some (.cells #[.int .u64 (p.1 : Int), .int .u64 (p.2 : Int)] 64 (0, 0))) (hR : R ≠ X) (hv : v.ownBlock ≠ some X) :
    Calls Try.prog 28 #[.pointer (some ⟨R, k, none⟩), .int .i64 (i : Int), .int .i64 (j : Int), .func (.func 36) #[.pointer (some ⟨X, 0, none⟩)] #[]] w fun e W' => e = .returned (.tuple #[]) ∧ MrgJ w R k X v l i p (j - i) W' :=
  visit_any R k v l i j (MrgJ w R k X v l i p) _ enMg _ _ w hl hij hj ⟨Only.refl _ _, hS, hX⟩ (fun _ _ h => h.set) fun m W hm hmj h => by
    refine (merge_any X _ _ l[i + m].1 l[i + m].2 W _ _ h.blk rfl rfl).mono ?_
    rintro e W' ⟨rfl, ho, hb⟩
    refine ⟨rfl, h.only.trans ho (fun x hx => .inl hx), h.set.only ho hR (fun x hx e => hv (by rw [hx, e])), ?_⟩
    rw [hb, mrgR_succ hm]
    simp
set_option maxRecDepth 100000 in
set_option maxHeartbeats 4000000 in
theorem sadd_any (R k : Nat) (v : Value) (l : List (Nat × Nat)) (P : Nat → Bool) (a b : Nat) (cs : Array Value) (TR : TypeId) (w : World) (hl : l.length ≤ 100000) (hR : w.heap[R]? = some (.cells cs TR (0, 0))) (hk : cs[k]? = some v) (hO : OwnR w v l) (hRv : v.ownBlock ≠ some R)
    (hP : SpansOf l P) (h1 : ∀ s, P s = true → 1 ≤ s ∧ s < 18446744073709551616) (ha : 1 ≤ a) (hab : a ≤ b) (hb : b < 18446744073709551616) :
    Calls Try.prog 22 #[.pointer (some ⟨R, k, none⟩), .agg #[.int .u64 (a : Int), .int .u64 (b : Int)]] w fun e W' => e = .returned (.tuple #[]) ∧ ∃ v' l', W'.heap[R]? = some (.cells (cs.setIfInBounds k v') TR (0, 0)) ∧ OwnR W' v' l' ∧ SpansOf l' (fun s => P s || decide (a ≤ s ∧ s ≤ b)) ∧ l'.length ≤ l.length + 1 ∧ (v'.ownBlock = v.ownBlock ∨ ∃ x, v'.ownBlock = some x ∧ w.heap.size ≤ x) ∧ Only (fun x => x = R ∨ v.ownBlock = some x) w W' := by
  have hkl := (Array.getElem?_eq_some_iff.1 hR).1
  have hS : SetQ w R k v l := ⟨(blk_cell hR k).trans hk, hkl, hO⟩
  have h1' : ∀ j (h : j < l.length), 1 ≤ l[j].1 ∧ l[j].1 < 18446744073709551616 := fun j h => h1 _ ((hP.mem _).1 ⟨l[j], List.getElem_mem h, Nat.le_refl _, (canon_get hP.canon j h).1⟩)
  have HS := Lib.hid hS
  have H1 := Lib.hid h1'
  have HR := Lib.hid (And.intro hR (And.intro hk (And.intro hRv hkl)))
  have HP := Lib.hid hP
  have HA := Lib.hid (And.intro ha (And.intro hab hb))
  have HL := Lib.hid hl
  clear hS h1' hR hk hRv hP h1 ha hab hb hkl hO hl
  go_enter Try.func22, Try.ntmps22
  go_upto_region 1 with (fail)
  obtain ⟨W0, hW0⟩ : ∃ W0, W0 = w.alloc (.cells #[.int .u64 (a : Int), .int .u64 (b : Int)] 64) := ⟨_, rfl⟩
  rw [← hW0]
  obtain ⟨b0, k0, s0⟩ := boxR hW0
  obtain ⟨X, hX⟩ : ∃ X, X = w.heap.size := ⟨_, rfl⟩
  rw [← hX] at k0 ⊢
  have HB0 := Lib.hid b0
  have HX0 := Lib.hid k0
  have HXW := Lib.hid hX
  have HN := Lib.hid (nearP_run R k v l X a b W0 (by have := HL.out; omega) (HS.out.grew b0) k0 HA.out.1 (by have := HA.out; omega))
  clear hW0 b0 k0 s0 hX
  go_wp2_with fail
  refine HN.out.mono ?_
  rintro e W1 ⟨i, rfl, hi, hw1⟩
  have HI := Lib.hid hi
  have hX1 := (hw1.block X (Array.getElem?_eq_some_iff.1 HX0.out).1).trans HX0.out
  have hb1 := HB0.out.trans (Below.mono hw1 HB0.out.size)
  have HN2 := Lib.hid (farP_run R k v l X a b W1 (by have := HL.out; omega) (HS.out.grew hb1) hX1 H1.out)
  have HX1 := Lib.hid hX1
  have HB1 := Lib.hid hb1
  clear hi hw1 hX1 hb1
  go_wp2_with fail
  refine HN2.out.mono ?_
  rintro e W2 ⟨j, rfl, hj, hw2⟩
  have HJ := Lib.hid hj
  have hX2 := (hw2.block X (Array.getElem?_eq_some_iff.1 HX1.out).1).trans HX1.out
  have hb2 := HB1.out.trans (Below.mono hw2 HB1.out.size)
  have hRX : R ≠ X := by have := HR.out.2.2.2; have := HXW.out; omega
  have hvX : v.ownBlock ≠ some X := fun e => by have := HS.out.own.lt X e; have := HXW.out; omega
  have hij := add_order HP.out.canon HA.out.2.1 HI.out HJ.out
  have HV := Lib.hid (visit_mrg R k X v l i j (a, b) W2 (by have := HL.out; omega) hij HJ.out.le (HS.out.grew hb2) hX2 hRX hvX)
  have HX2 := Lib.hid (And.intro hX2 (And.intro hRX hvX))
  have HB2 := Lib.hid hb2
  have HIJ := Lib.hid hij
  clear hj hw2 hX2 hb2 hRX hvX hij
  go_wp2_with fail
  refine HV.out.mono ?_
  rintro e W3 ⟨rfl, hm⟩
  have hX3 := hm.blk
  have hz := add_spans HP.out HA.out.2.1 HI.out HJ.out
  obtain ⟨z, hzz⟩ : ∃ z, z = mrgR l i (a, b) (j - i) := ⟨_, rfl⟩
  rw [← hzz] at hX3 hz
  have HZ := Lib.hid hz
  have hS3 := hm.set
  have hc3 := hS3.cell
  have hz0 := blk_cell hX3 0
  have hz1 := blk_cell hX3 1
  have HM := Lib.hid hm
  have hR2 := (HB2.out.block R HR.out.2.2.2).trans HR.out.1
  have hR3 := hm.only.blk hR2 HX2.out.2.1
  have HR3 := Lib.hid hR3
  have hRl : R < W3.heap.size := hS3.lt
  have hXl := (Array.getElem?_eq_some_iff.1 hX3).1
  obtain ⟨vb, hvb⟩ : ∃ vb, vb = W3.heap.size := ⟨_, rfl⟩
  have hRvb : R ≠ vb := by omega
  have hXvb : X ≠ vb := by omega
  have HVB := Lib.hid hvb
  have HXl := Lib.hid hXl
  have HRl := Lib.hid hRl
  have HRP : Hid (Calls Try.prog 37 #[v, .int .i64 (i : Int), .int .i64 (j : Int), .slice (some ⟨W3.heap.size, 0, none⟩) 1 1] (W3.alloc (.cells #[.int .u64 (z.1 : Int), .int .u64 (z.2 : Int)] 64)).drew fun e W' => ∃ v', e = .returned v' ∧ OwnR W' v' (repR l i j z) ∧ (W3.alloc (.cells #[.int .u64 (z.1 : Int), .int .u64 (z.2 : Int)] 64)).drew.grownBy W' v.ownBlock ∧ (v'.ownBlock = v.ownBlock ∨ v'.ownBlock = some (W3.alloc (.cells #[.int .u64 (z.1 : Int), .int .u64 (z.2 : Int)] 64)).drew.heap.size)) := Lib.hid (
    replace_any v l i j z _ _ (by have := HL.out; omega) HIJ.out HJ.out.le (hS3.own.grew (((Below.refl _ W3).alloc (Nat.le_refl _) _).drew)) (fun e => by have := hS3.own.lt _ e; exact Nat.lt_irrefl _ this) (World.alloc_heap_new W3 _))
  obtain ⟨V, hV⟩ : ∃ V, V = (W3.alloc (.cells #[.int .u64 (z.1 : Int), .int .u64 (z.2 : Int)] 64)).drew := ⟨_, rfl⟩
  have bV : Below W3.heap.size W3 V := by rw [hV]; exact ((Below.refl _ W3).alloc (Nat.le_refl _) _).drew
  have HBV := Lib.hid bV
  have HOR : Hid (∀ W, V.grownBy W v.ownBlock → W.heap[R]? = some (.cells cs TR (0, 0))) := Lib.hid fun W hg => by
    have h1 := (bV.block R hRl).trans hR3
    exact (hg.block R (Array.getElem?_eq_some_iff.1 h1).1 (fun e => HR.out.2.2.1 e.symm)).trans h1
  have hx0 : W3.cell? ⟨X, 0, none⟩ = some (.int .u64 (z.1 : Int)) := hz0
  have hx1 : W3.cell? ⟨X, 1, none⟩ = some (.int .u64 (z.2 : Int)) := hz1
  have HVV := Lib.hid hV
  rw [← hV] at HRP
  have HVS : Hid (V.heap.size = W3.heap.size + 1) := Lib.hid (by rw [hV]; exact World.size_alloc W3 _)
  have HFIN : Hid (∀ (W5 : World) (v5 : Value), OwnR W5 v5 (repR l i j z) → V.grownBy W5 v.ownBlock → (v5.ownBlock = v.ownBlock ∨ v5.ownBlock = some V.heap.size) → W5.heap[R]? = some (.cells cs TR (0, 0)) →
      ∃ v' l', (W5.setCell ⟨R, k, none⟩ v5).heap[R]? = some (.cells (cs.setIfInBounds k v') TR (0, 0)) ∧ OwnR (W5.setCell ⟨R, k, none⟩ v5) v' l' ∧ SpansOf l' (fun s => P s || decide (a ≤ s ∧ s ≤ b)) ∧ l'.length ≤ l.length + 1 ∧ (v'.ownBlock = v.ownBlock ∨ ∃ x, v'.ownBlock = some x ∧ w.heap.size ≤ x) ∧ Only (fun x => x = R ∨ v.ownBlock = some x) w (W5.setCell ⟨R, k, none⟩ v5)) := Lib.hid (by
    intro W5 v5 h5 g5 o5 k5
    have hsz2 := HB2.out.size
    have hsz3 := hm.only.size
    have hszV := bV.size
    have oW3 : Only (fun x => x = R ∨ v.ownBlock = some x) w W3 := (Only.of_grew (F := fun x => x = R ∨ v.ownBlock = some x) HB2.out).trans hm.only (fun x hx => .inr (by have := HXW.out; omega))
    refine ⟨v5, _, blk_set k5 _ _, h5.same (fun x hx => Below.heap_setCell _ _ _ _ ?_), hz, add_len HIJ.out HJ.out.le, ?_, ((oW3.grew bV).grown g5 (fun x hx => .inl (.inr hx))).setCell (.inl (.inl rfl)) _⟩
    · rintro rfl
      rcases o5 with e | e
      · exact HR.out.2.2.1 (by rw [← e, hx])
      · rw [hx] at e
        cases e
        omega
    · rcases o5 with e | e
      · exact .inl e
      · exact .inr ⟨_, e, by omega⟩)
  clear hm hX3 hz hzz hS3 hR2 hR3 hvb hz0 hz1 hV bV
  go_upto_region 4 with (fail)
  go_region_with (rw [← HVV.out]; refine HRP.out.mono ?_; rintro e W5 ⟨v', rfl, h5, g5, o5⟩; obtain ⟨A5, d5, rfl⟩ := h5.form; have k5 := HOR.out W5 g5; have c5 := (blk_cell k5 k).trans HR.out.2.1; have f5 := blk_frozen k5 k; have H5 := Lib.hid (And.intro h5 (And.intro g5 (And.intro o5 k5))); clear h5 g5 o5 k5)
  all_goals go_end0
  all_goals exact ⟨rfl, HFIN.out W5 _ H5.out.1 H5.out.2.1 H5.out.2.2.1 H5.out.2.2.2⟩
end Go.Proofs.Ytnpkaljmncehhaa
