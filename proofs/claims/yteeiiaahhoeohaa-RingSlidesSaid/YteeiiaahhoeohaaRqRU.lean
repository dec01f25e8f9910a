/- The contract of a ring's Release (elements uint64). -/
import Derived.Test.YteeiiaahhoeohaaRqSU
import Derived.Test.YteeiiaahhoeohaaRqL
namespace Go.Proofs.Yteeiiaahhoeohaa
open Go.RowKit Go.Shelf
attribute [local go_sem] Oper.semAt_some

/-- What the rounds of Release keep: the boxes of its parameters, the ring, the places that are empty. -/
structure RJU (w : World) (R G m k P : Nat) (cs : Array Value) (s : RS Nat) (i : Nat) (W : World) : Prop where
  r : W.heap[P]? = some (.cells #[.pointer (some ⟨R, 0, none⟩)] 40 (0, 0))
  bx : W.heap[P + 1]? = some (.cells #[.int .u64 (k : Int)] 29 (0, 0))
  blk : W.heap[R]? = some (.cells #[.int .u64 (s.b : Int), .int .u64 (m : Int), .slice (some ⟨G, 0, none⟩) s.n s.n] 62 (0, 0))
  row : ∃ cs', W.heap[G]? = some (.cells cs' 64 (0, 0)) ∧ Emp (.int .u64 0) cs cs' s (s.b + i)
  only : Only (FR R G) w W
  le : s.b + i ≤ k
theorem RJU.abides {w : World} {R G m k P : Nat} {cs : Array Value} {s : RS Nat} {i B : Nat} (hB : w.heap.size ≤ B) : Abides B (RJU w R G m k P cs s i) := by
  rintro W W' row ⟨h1, h2, h3, ⟨cs', h4, h5⟩, h6, h7⟩ hg hr
  exact ⟨Abides.block W W' row h1 hg hr, Abides.block W W' row h2 hg hr, Abides.block W W' row h3 hg hr, ⟨cs', Abides.block W W' row h4 hg hr, h5⟩, h6.grown hg (fun r e => .inr (Nat.le_trans hB (hr r e).1)), h7⟩

/-- Released so far as is wanted. -/
def RXU (w : World) (R G m k P : Nat) (cs : Array Value) (s : RS Nat) (W : World) : Prop := ∃ i, RJU w R G m k P cs s i W ∧ Hid (s.b + i = k)
theorem RXU.abides {w : World} {R G m k P : Nat} {cs : Array Value} {s : RS Nat} {B : Nat} (hB : w.heap.size ≤ B) : Abides B (RXU w R G m k P cs s) := by
  rintro W W' row ⟨i, h, hp⟩ hg hr
  exact ⟨i, RJU.abides hB W W' row h hg hr, hp⟩

set_option maxRecDepth 100000 in
set_option maxHeartbeats 4000000 in
theorem rel_in_U (n : Nat) (hn : 4 ≤ n) {w : World} {R G m : Nat} {cs : Array Value} {s : RS Nat} (h : RQU w R G m cs s) (k : Nat) (hk1 : s.b ≤ k) (hk : k < 18446744073709551616) :
    CallsIn Fence.wide n Try.prog 14 #[.pointer (some ⟨R, 0, none⟩), .int .u64 (k : Int)] w fun e w' => e = .returned (.int .i64 0) ∧ (∃ m' cs', RQU w' R G m' cs' (s.rel k).1) ∧ Only (FR R G) w w' := by
  have h1 : 1 ≤ n := by omega
  obtain ⟨b, hb⟩ : ∃ b, b = s.b := ⟨_, rfl⟩
  obtain ⟨P, hP⟩ : ∃ P, P = w.heap.size := ⟨_, rfl⟩
  obtain ⟨W0, hW0⟩ : ∃ W0, W0 = (w.alloc (.cells #[.pointer (some ⟨R, 0, none⟩)] 40)).alloc (.cells #[.int .u64 (k : Int)] 29) := ⟨_, rfl⟩
  have hga : Below w.heap.size w W0 := by rw [hW0]; exact ((Below.refl _ _).alloc (Nat.le_refl _) _).alloc (by simp) _
  have hq0 := h.grew hga
  have hj0 : RJU w R G m k P cs s 0 W0 := by
    refine ⟨?_, ?_, hq0.blk, ⟨cs, hq0.row, Emp.zero cs s⟩, Only.of_grew hga, hk1⟩
    · rw [hW0, hP]; exact (Below.heap_alloc _ _ _ (by simp)).trans (World.alloc_heap_new w _)
    · rw [hW0, hP]
      have := World.alloc_heap_new (w.alloc (.cells #[.pointer (some ⟨R, 0, none⟩)] 40)) (.cells #[.int .u64 (k : Int)] 29)
      rwa [World.size_alloc] at this
  have hsz : W0.heap.size = P + 2 := by rw [hW0, hP]; simp
  have HSZ := Lib.hid hsz
  have HJ0 := Lib.hid hj0
  have H := Lib.hid h
  have HB := Lib.hid hb
  have HPP := Lib.hid hP
  have c0 := blk_cell hj0.r 0
  have c1 := blk_cell hj0.bx 0
  have c2 := blk_cell hj0.blk 0
  simp at c0 c1 c2
  rw [← hb] at c2
  have hbk : ¬ (k : Int) < (b : Int) := by omega
  have HW0 := Lib.hid hW0
  have HK1 := Lib.hid hk1
  clear h hb hq0 hj0 hga hsz hk1
  refine callsIn_of_wp_marks Try.func14 rfl trivial ?_ rfl
  simp only [Try.ntmps14, List.size_toArray, List.length_cons, List.length_nil, Nat.reduceAdd, Nat.reduceSub, Array.replicate_succ, Array.replicate_zero, List.push_toArray, List.append_toArray, List.nil_append, List.cons_append]
  refine wpIn_wide.2 ?_
  go_upto_region 1 with (fail)
  rw [← hW0, ← hP]
  clear hW0 hP
  go_upto_region 3 with (fail)
  go_region
  go_wp2
  obtain ⟨W1, hW1⟩ : ∃ W1, W1 = W0.drew := ⟨_, rfl⟩
  have hj1 : RJU w R G m k P cs s 0 W1 := by rw [hW1]; exact ⟨HJ0.out.r, HJ0.out.bx, HJ0.out.blk, HJ0.out.row, HJ0.out.only.drew, HJ0.out.le⟩
  have hsz1 : W1.heap.size = P + 2 := by rw [hW1]; exact HSZ.out
  have hle : w.heap.size ≤ W1.heap.size := by have := HPP.out; omega
  rw [← hW1]
  have HJ1 := Lib.hid hj1
  have HS1 := Lib.hid hsz1
  obtain ⟨E, hE⟩ : ∃ E, E = min s.n (18446744073709551615 - b) := ⟨_, rfl⟩
  have hE1 : b + E ≤ 18446744073709551615 := by have := H.out.b64; have := HB.out; omega
  have HE := Lib.hid hE
  clear hj1 hsz1 hW1 c0 c1 c2 HJ0 HSZ HW0 hE
  refine (wpIn_wide (n := n)).1 ?_
  refine wpIn_rangeFunc_blk rfl h1 (gf := 22) (fb := #[.pointer (some ⟨R, 0, none⟩)]) (lb := #[]) rfl trivial (enters_of Try.func22 (by kernel_rfl) rfl) (encs := slotVU b) (fun _ => rfl)
    (RJU.abides hle) (RJU.abides hle) (fun i => (RJU.abides hle).and (Abides.pure _)) (fun i => RJU.abides hle) (J := RXU w R G m k P cs s) (RXU.abides hle)
    (slots_U (n - 1) (by omega) R G b s.n E (by have := H.out.b64; rw [HB.out]; exact this) H.out.n2 HE.out (RJU w R G m k P cs s) _ (fun W h => ⟨_, by rw [HB.out]; exact h.blk⟩) W1.heap.size) HJ1.out
    (fun i => { tmps := #[.pointer (some ⟨R, 0, none⟩), .int .u64 (k : Int), .pointer (some ⟨P, 0, none⟩), .pointer (some ⟨P + 1, 0, none⟩), .int .i64 0, .int .u64 ((b : Int) + 1 + (i : Int)), .pointer (some ⟨R, 0, none⟩), .bool false, .int .u64 (k : Int), .pointer (some ⟨R, 0, none⟩), .pointer (some ⟨R, 0, none⟩), .pointer (some ⟨R, 0, none⟩), .int .u64 (b : Int), .bool false, .pointer (some ⟨R, 0, none⟩), .func (.func 22) #[.pointer (some ⟨R, 0, none⟩)] #[], .int .u64 ((b : Int) + 1 + (i : Int)), undef, undef, undef, undef, undef, undef, undef, undef, undef, undef, undef, undef, undef, undef, undef, undef, undef, undef, undef, undef, undef], defers := [] }) ?assign ?body ?done
  case assign =>
    intro l i W K hK
    simp only [slotVU]
    gi_wp2
    exact hK
  case body =>
    rintro l i W ⟨hst, hiE⟩ hlt
    have HS := Lib.hid hst
    have c0 := blk_cell hst.r 0
    have c1 := blk_cell hst.bx 0
    simp at c0 c1
    have hie := hst.le
    rw [← HB.out] at hie
    have hiN : i < s.n := by have := HE.out; omega
    have HIN := Lib.hid hiN
    clear hst hiN
    by_cases hk2 : b + i = k
    · have hki : (k : Int) < (b : Int) + 1 + (i : Int) := by omega
      gi_wp2
      refine ⟨KeepsFrom.refl _ _, rfl, i, HS.out, ?_⟩
      show s.b + i = k
      rw [← HB.out]; exact hk2
    · have hki : ¬ (k : Int) < (b : Int) + 1 + (i : Int) := by omega
      obtain ⟨cs', hrow, hemp⟩ := HS.out.row
      have hsl : (b : Int) + 1 + (i : Int) = ((b + 1 + i : Nat) : Int) := by omega
      have hA := atB_U HS.out.blk H.out.n1 H.out.n2 (b + 1 + i) (by omega)
      rw [← hsl] at hA
      obtain ⟨q, hq⟩ : ∃ q, q = (b + 1 + i) % s.n := ⟨_, rfl⟩
      have hqn : q < s.n := by rw [hq]; exact Nat.mod_lt _ H.out.n1
      rw [← hq] at hA
      have hcs : cs'.size = s.n * 2 := hemp.len.trans H.out.len
      have ⟨u0, hu0⟩ : ∃ u, cs'[q * 2]? = some u := ⟨_, Array.getElem?_eq_getElem (by omega)⟩
      have ⟨u1, hu1⟩ : ∃ u, cs'[q * 2 + 1]? = some u := ⟨_, Array.getElem?_eq_getElem (by omega)⟩
      have d0 : W.cell? ⟨G, q * 2, none⟩ = some u0 := (blk_cell hrow (q * 2)).trans hu0
      have d1 : W.cell? ⟨G, q * 2 + 1, none⟩ = some u1 := (blk_cell hrow (q * 2 + 1)).trans hu1
      have z0 : W.frozen? ⟨G, q * 2, none⟩ = false := blk_frozen hrow (q * 2)
      have z1 : W.frozen? ⟨G, q * 2 + 1, none⟩ = false := blk_frozen hrow (q * 2 + 1)
      have HA := Lib.hid hA
      have HQ := Lib.hid hq
      have HR := Lib.hid hrow
      have HM := Lib.hid hemp
      have HC := Lib.hid hcs
      clear hA hq hrow hemp hcs hu0 hu1 hsl
      gi_wp2_with (refine ⟨trivial, fun _ => by omega, ?_⟩; gi_at_call 23; refine (CallsIn.inRound l (callsIn_wide.2 HA.out)).mono ?_; rintro y w' ⟨⟨v, rfl⟩, rfl⟩)
      have hne := blk_neQ HS.out.blk HR.out (by decide)
      have hr := blk_neQ HS.out.r HR.out (by decide)
      have hbx := blk_neQ HS.out.bx HR.out (by decide)
      refine ⟨(((KeepsOthers.setCell _ _ _).trans (KeepsOthers.setCell _ _ _)).trans (KeepsOthers.drew _)).from _, ?_, ?_, ?_, ⟨_, blk_set2 HR.out q (.int .u64 0) (.bool false), ?_⟩, ?_, by have := HB.out; omega⟩
      · exact blk_keepR (blk_keepR HS.out.r (Ne.symm hr)) (Ne.symm hr)
      · exact blk_keepR (blk_keepR HS.out.bx (Ne.symm hbx)) (Ne.symm hbx)
      · exact blk_keepR (blk_keepR HS.out.blk (Ne.symm hne)) (Ne.symm hne)
      · have := Emp.one HM.out H.out.len H.out.n1 (by omega) (by have := HIN.out; omega)
        rw [HQ.out, show b + 1 + i = s.b + i + 1 by rw [HB.out]; omega]
        exact this
      · exact ((HS.out.only.setCell (p := ⟨G, q * 2, none⟩) (.inl (.inr rfl)) _).setCell (p := ⟨G, q * 2 + 1, none⟩) (.inl (.inr rfl)) _).drew
  case done =>
    rintro D W hD hij hK
    obtain ⟨i, hst, hie⟩ : ∃ i, RJU w R G m k P cs s i W ∧ (s.b + i = k ∨ s.b + i = s.b + s.n ∨ s.b + i = 18446744073709551615) := by
      rcases hij with h | ⟨i, h, hi⟩
      · refine ⟨E, h, .inr ?_⟩
        have e1 := HE.out
        have e2 := HB.out
        have e3 := H.out.b64
        omega
      · exact ⟨i, h, .inl hi⟩
    clear hij
    have HIE := Lib.hid hie
    clear hie
    obtain ⟨cs', hrow, hemp⟩ := hst.row
    have c0 := blk_cell hst.r 0
    have c1 := blk_cell hst.bx 0
    have r0 := blk_cell hst.blk 0
    have r1 := blk_cell hst.blk 1
    have z0 := blk_frozen hst.blk 0
    have z1 := blk_frozen hst.blk 1
    simp at c0 c1 r0 r1
    have hne := blk_neQ hst.blk hrow (by decide)
    have hD2 : D ≠ R ∧ D ≠ G := by
      constructor
      · rintro rfl; rw [hst.blk] at hK; cases hK
      · rintro rfl; rw [hrow] at hK; cases hK
    have HS := Lib.hid hst
    have HK := Lib.hid hK
    have HR := Lib.hid hrow
    have HM := Lib.hid hemp
    have HNE := Lib.hid hne
    have HD2 := Lib.hid hD2
    clear hst hK hrow hemp hne hD2
    have hRP := HPP.out
    have hRP0 := H.out.lt R (.inl rfl)
    have n1 : P ≠ R := by omega
    have n2 : P + 1 ≠ R := by omega
    have n3 : R ≠ P := by omega
    have n4 : R ≠ P + 1 := by omega
    clear hRP hRP0
    go_wp2
    go_region
    have em : max (m : Int) (k : Int) = ((max m k : Nat) : Int) := by omega
    rw [em]
    obtain ⟨W2, hW2⟩ : ∃ W2, W2 = ((W.setCell ⟨R, 0, none⟩ (.int .u64 (k : Int))).setCell ⟨R, 1, none⟩ (.int .u64 ((max m k : Nat) : Int))).drew := ⟨_, rfl⟩
    have k2 : W2.heap[R]? = some (.cells #[.int .u64 (k : Int), .int .u64 ((max m k : Nat) : Int), .slice (some ⟨G, 0, none⟩) s.n s.n] 62 (0, 0)) := by rw [hW2]; exact blk_set (blk_set HS.out.blk 0 _) 1 _
    have g2 : W2.heap[G]? = some (.cells cs' 64 (0, 0)) := by rw [hW2]; exact blk_keepR (blk_keepR HR.out HNE.out) HNE.out
    have d2 : W2.heap[D]? = some (.deferred (some [])) := by rw [hW2]; exact blk_keepR (blk_keepR HK.out (Ne.symm HD2.out.1)) (Ne.symm HD2.out.1)
    have o2 : Only (FR R G) w W2 := by rw [hW2]; exact ((HS.out.only.setCell (p := ⟨R, 0, none⟩) (.inl (.inl rfl)) _).setCell (p := ⟨R, 1, none⟩) (.inl (.inl rfl)) _).drew
    rw [← hW2]
    have HF := Lib.hid (And.intro k2 (And.intro g2 (And.intro d2 o2)))
    clear k2 g2 d2 o2 hW2
    go_wp2
    obtain ⟨k2, g2, d2, o2⟩ := HF.out
    have hfin : RQU (W2.putObj D (.deferred none)) R G (max m k) cs' (s.rel k).1 := by
      refine H.out.rel HK1.out hk HM.out HS.out.le HIE.out ?_ ?_
      · exact (World.putObj_heap_other (Ne.symm HD2.out.1)).trans k2
      · exact (World.putObj_heap_other (Ne.symm HD2.out.2)).trans g2
    have ofin : Only (FR R G) w (W2.putObj D (.deferred none)) := o2.grown (grownBy_putObj' W2 D _) (fun r e => by cases e; exact .inr (Nat.le_trans hle hD))
    refine ⟨by simp, .inl ⟨_, _, rfl, run_takeDeferred d2, ?_⟩⟩
    exact ⟨_, results_tmp rfl _ _ _, rfl, ⟨_, _, hfin⟩, ofin⟩

end Go.Proofs.Yteeiiaahhoeohaa
