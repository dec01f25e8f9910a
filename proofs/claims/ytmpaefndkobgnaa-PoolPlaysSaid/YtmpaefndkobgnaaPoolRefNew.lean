/- The contract of the document's pool: New. -/
import Derived.Test.YtmpaefndkobgnaaPoolRefGet
namespace Go.Proofs.Ytmpaefndkobgnaa
open Go.RowKit

/-- A pool that is being made. -/
structure PQ (w : World) (base R sz : Nat) (vB vG vL vN : Value) (B : List (List UInt8)) (G : List Nat) (L : List Bool) (N : List Nat) : Prop where
  blk : w.heap[R]? = some (.cells #[.int .i64 (sz : Int), vB, vG, vL, vN] 49 (0, 0))
  hB : w.ownsRow base 9 1 vB B.length (B.map sV)
  hG : w.ownsRow base 27 1 vG G.length (G.map gV)
  hL : w.ownsRow base 4 1 vL L.length (L.map bV)
  hN : w.ownsRow base 3 1 vN N.length (N.map iV)
  hR : base ≤ R
theorem own_ne_blk {w : World} {base n R : Nat} {e t : TypeId} {v : Value} {xs : List Value} {c : Array Value} (h : w.ownsRow base e 1 v n xs) (hR : w.heap[R]? = some (.cells c t (0, 0))) (ht : e ≠ t) : v.ownBlock ≠ some R := by
  intro e'
  rcases h.2 with ⟨hv, _⟩ | ⟨g, cap, cur, hv, _, hg, _⟩
  · subst hv; cases e'
  · subst hv
    cases e'
    exact blk_ne hg hR ht rfl
theorem PQ.after {w W' : World} {base R sz : Nat} {vB vG vL vN : Value} {B : List (List UInt8)} {G : List Nat} {L : List Bool} {N : List Nat} {o : Obj} {row : Option Nat} (h : PQ w base R sz vB vG vL vN B G L N) (hg : (w.alloc o).grownBy W' row) (hn : row ≠ some R) :
    W'.heap[R]? = some (.cells #[.int .i64 (sz : Int), vB, vG, vL, vN] 49 (0, 0)) := by
  have hRl := (Array.getElem?_eq_some_iff.1 h.blk).1
  exact (hg.block R (by simp; omega) (fun e => hn e.symm)).trans ((Below.heap_alloc w o R hRl).trans h.blk)
section
variable {w W' : World} {base R sz : Nat} {vB vG vL vN : Value} {B : List (List UInt8)} {G : List Nat} {L : List Bool} {N : List Nat} {o : Obj}
theorem PQ.stepB (h : PQ w base R sz vB vG vL vN B G L N) (vB' : Value) (x : List UInt8) (hg : (w.alloc o).grownBy W' vB.ownBlock) (ho : W'.ownsRow base 9 1 vB' (B.length + 1) ((B ++ [x]).map sV)) (hbw : base ≤ w.heap.size) :
    PQ (W'.setCell ⟨R, 1, none⟩ vB') base R sz vB' vG vL vN (B ++ [x]) G L N := by
  have hRl := (Array.getElem?_eq_some_iff.1 h.blk).1
  have hb : W'.heap[R]? = some (.cells #[.int .i64 (sz : Int), vB, vG, vL, vN] 49 (0, 0)) :=
    (hg.block R (by simp; omega) (fun e => own_ne_blk h.hB h.blk (by decide) e.symm)).trans ((Below.heap_alloc w o R hRl).trans h.blk)
  have hne : vB'.ownBlock ≠ some R := own_ne_blk ho hb (by decide)
  refine ⟨by rw [blk_set hb]; rfl, own_set (by rw [List.length_append]; exact ho) hne, own_set ((h.hG.alloc o).kept hg (own_apart h.hG h.hB (by decide))) (own_ne_blk h.hG h.blk (by decide)), own_set ((h.hL.alloc o).kept hg (own_apart h.hL h.hB (by decide))) (own_ne_blk h.hL h.blk (by decide)), own_set ((h.hN.alloc o).kept hg (own_apart h.hN h.hB (by decide))) (own_ne_blk h.hN h.blk (by decide)), h.hR⟩
theorem PQ.stepG (h : PQ w base R sz vB vG vL vN B G L N) (vG' : Value) (x : Nat) (hg : (w.alloc o).grownBy W' vG.ownBlock) (ho : W'.ownsRow base 27 1 vG' (G.length + 1) ((G ++ [x]).map gV)) (hbw : base ≤ w.heap.size) :
    PQ (W'.setCell ⟨R, 2, none⟩ vG') base R sz vB vG' vL vN B (G ++ [x]) L N := by
  have hRl := (Array.getElem?_eq_some_iff.1 h.blk).1
  have hb : W'.heap[R]? = some (.cells #[.int .i64 (sz : Int), vB, vG, vL, vN] 49 (0, 0)) :=
    (hg.block R (by simp; omega) (fun e => own_ne_blk h.hG h.blk (by decide) e.symm)).trans ((Below.heap_alloc w o R hRl).trans h.blk)
  have hne : vG'.ownBlock ≠ some R := own_ne_blk ho hb (by decide)
  refine ⟨by rw [blk_set hb]; rfl, own_set ((h.hB.alloc o).kept hg (own_apart h.hB h.hG (by decide))) (own_ne_blk h.hB h.blk (by decide)), own_set (by rw [List.length_append]; exact ho) hne, own_set ((h.hL.alloc o).kept hg (own_apart h.hL h.hG (by decide))) (own_ne_blk h.hL h.blk (by decide)), own_set ((h.hN.alloc o).kept hg (own_apart h.hN h.hG (by decide))) (own_ne_blk h.hN h.blk (by decide)), h.hR⟩
theorem PQ.stepL (h : PQ w base R sz vB vG vL vN B G L N) (vL' : Value) (x : Bool) (hg : (w.alloc o).grownBy W' vL.ownBlock) (ho : W'.ownsRow base 4 1 vL' (L.length + 1) ((L ++ [x]).map bV)) (hbw : base ≤ w.heap.size) :
    PQ (W'.setCell ⟨R, 3, none⟩ vL') base R sz vB vG vL' vN B G (L ++ [x]) N := by
  have hRl := (Array.getElem?_eq_some_iff.1 h.blk).1
  have hb : W'.heap[R]? = some (.cells #[.int .i64 (sz : Int), vB, vG, vL, vN] 49 (0, 0)) :=
    (hg.block R (by simp; omega) (fun e => own_ne_blk h.hL h.blk (by decide) e.symm)).trans ((Below.heap_alloc w o R hRl).trans h.blk)
  have hne : vL'.ownBlock ≠ some R := own_ne_blk ho hb (by decide)
  refine ⟨by rw [blk_set hb]; rfl, own_set ((h.hB.alloc o).kept hg (own_apart h.hB h.hL (by decide))) (own_ne_blk h.hB h.blk (by decide)), own_set ((h.hG.alloc o).kept hg (own_apart h.hG h.hL (by decide))) (own_ne_blk h.hG h.blk (by decide)), own_set (by rw [List.length_append]; exact ho) hne, own_set ((h.hN.alloc o).kept hg (own_apart h.hN h.hL (by decide))) (own_ne_blk h.hN h.blk (by decide)), h.hR⟩
theorem PQ.stepN (h : PQ w base R sz vB vG vL vN B G L N) (vN' : Value) (x : Nat) (hg : (w.alloc o).grownBy W' vN.ownBlock) (ho : W'.ownsRow base 3 1 vN' (N.length + 1) ((N ++ [x]).map iV)) (hbw : base ≤ w.heap.size) :
    PQ (W'.setCell ⟨R, 4, none⟩ vN') base R sz vB vG vL vN' B G L (N ++ [x]) := by
  have hRl := (Array.getElem?_eq_some_iff.1 h.blk).1
  have hb : W'.heap[R]? = some (.cells #[.int .i64 (sz : Int), vB, vG, vL, vN] 49 (0, 0)) :=
    (hg.block R (by simp; omega) (fun e => own_ne_blk h.hN h.blk (by decide) e.symm)).trans ((Below.heap_alloc w o R hRl).trans h.blk)
  have hne : vN'.ownBlock ≠ some R := own_ne_blk ho hb (by decide)
  refine ⟨by rw [blk_set hb]; rfl, own_set ((h.hB.alloc o).kept hg (own_apart h.hB h.hN (by decide))) (own_ne_blk h.hB h.blk (by decide)), own_set ((h.hG.alloc o).kept hg (own_apart h.hG h.hN (by decide))) (own_ne_blk h.hG h.blk (by decide)), own_set ((h.hL.alloc o).kept hg (own_apart h.hL h.hN (by decide))) (own_ne_blk h.hL h.blk (by decide)), own_set (by rw [List.length_append]; exact ho) hne, h.hR⟩
end
theorem infoQB : ∃ i, Try.prog.info? 9 = some i ∧ i.zero = some (.string ⟨#[]⟩) ∧ i.size = 1 ∧ i.bytes = 16 := by
  have h : (Try.prog.info? 9).map (fun i => (i.zero, i.size, i.bytes)) = some (some (.string ⟨#[]⟩), 1, 16) := by kernel_rfl
  obtain ⟨i, hi, h⟩ := Option.map_eq_some_iff.1 h
  simp only [Prod.mk.injEq] at h
  exact ⟨i, hi, h.1, h.2.1, h.2.2⟩
theorem infoQG : ∃ i, Try.prog.info? 27 = some i ∧ i.zero = some (.int .u32 0) ∧ i.size = 1 ∧ i.bytes = 4 := by
  have h : (Try.prog.info? 27).map (fun i => (i.zero, i.size, i.bytes)) = some (some (.int .u32 0), 1, 4) := by kernel_rfl
  obtain ⟨i, hi, h⟩ := Option.map_eq_some_iff.1 h
  simp only [Prod.mk.injEq] at h
  exact ⟨i, hi, h.1, h.2.1, h.2.2⟩
theorem infoQL : ∃ i, Try.prog.info? 4 = some i ∧ i.zero = some (.bool false) ∧ i.size = 1 ∧ i.bytes = 1 := by
  have h : (Try.prog.info? 4).map (fun i => (i.zero, i.size, i.bytes)) = some (some (.bool false), 1, 1) := by kernel_rfl
  obtain ⟨i, hi, h⟩ := Option.map_eq_some_iff.1 h
  simp only [Prod.mk.injEq] at h
  exact ⟨i, hi, h.1, h.2.1, h.2.2⟩
theorem infoQN : ∃ i, Try.prog.info? 3 = some i ∧ i.zero = some (.int .i64 0) ∧ i.size = 1 ∧ i.bytes = 8 := by
  have h : (Try.prog.info? 3).map (fun i => (i.zero, i.size, i.bytes)) = some (some (.int .i64 0), 1, 8) := by kernel_rfl
  obtain ⟨i, hi, h⟩ := Option.map_eq_some_iff.1 h
  simp only [Prod.mk.injEq] at h
  exact ⟨i, hi, h.1, h.2.1, h.2.2⟩

/-- What the loop keeps. -/
def PN (w : World) (sz k : Nat) (W : World) : Prop := ∃ vB vG vL vN, PQ W w.heap.size w.heap.size sz vB vG vL vN (List.replicate k []) (List.replicate k 0) (List.replicate k false) (List.range k) ∧ Below w.heap.size w W
/-- A new pool. -/
def QS.new (n sz : Nat) : QS := { n := n, sz := sz, B := List.replicate n [], G := List.replicate n 0, L := List.replicate n false, N := List.range n }
theorem PQ.rq {w : World} {base R sz n : Nat} {vB vG vL vN : Value} (h : PQ w base R sz vB vG vL vN (List.replicate n []) (List.replicate n 0) (List.replicate n false) (List.range n)) (hn0 : 0 < n) (hn : n ≤ 4096) (hsz : sz ≤ 65536) :
    ∃ gB cB gG cG gL cL, RQ w base R gB cB gG cG gL cL vN (QS.new n sz) := by
  have hB := h.hB; have hG := h.hG; have hL := h.hL; have hN := h.hN
  simp only [List.length_replicate] at hB hG hL
  obtain ⟨gB, cB, e1, _⟩ := hB.form hn0
  obtain ⟨gG, cG, e2, _⟩ := hG.form hn0
  obtain ⟨gL, cL, e3, _⟩ := hL.form hn0
  subst e1; subst e2; subst e3
  exact ⟨gB, cB, gG, cG, gL, cL, h.blk, hB, hG, hL, hN, h.hR, hn, by simp [QS.new], fun i hi => by simpa [QS.new] using hi, fun g hg => by simp [QS.new] at hg; omega, hsz⟩

set_option maxRecDepth 100000 in
set_option maxHeartbeats 4000000 in
theorem q_New (n sz : Nat) (hn0 : 0 < n) (hn : n ≤ 4096) (hsz : sz ≤ 65536) (w : World) :
    Calls Try.prog 12 #[.int .i64 (n : Int), .int .i64 (sz : Int)] w fun e W' => e = .returned (.pointer (some ⟨w.heap.size, 0, none⟩)) ∧ (∃ gB cB gG cG gL cL vN, RQ W' w.heap.size w.heap.size gB cB gG cG gL cL vN (QS.new n sz)) ∧ Below w.heap.size w W' := by
  obtain ⟨iB, hiB, hzB, hsB, hbB⟩ := infoQB
  obtain ⟨iG, hiG, hzG, hsG, hbG⟩ := infoQG
  obtain ⟨iL, hiL, hzL, hsL, hbL⟩ := infoQL
  obtain ⟨iN, hiN, hzN, hsN, hbN⟩ := infoQN
  have hni : (n : Int) ≤ 4096 := by omega
  go_enter Try.func12, Try.ntmps12
  go_wp2
  go_loopw [6] (fun i wr => ∃ k : Nat, k ≤ n ∧ i = .int .i64 (k : Int) ∧ Hid (PN w sz k wr)) (fun i _ => n - (intOf i).toNat)
  case atStart =>
    refine ⟨0, Nat.zero_le _, rfl, Lib.hid ⟨.slice none 0 0, .slice none 0 0, .slice none 0 0, .slice none 0 0, ⟨?_, World.ownsRow_nil _ _ _ _, World.ownsRow_nil _ _ _ _, World.ownsRow_nil _ _ _ _, World.ownsRow_nil _ _ _ _, Nat.le_refl _⟩, ?_⟩⟩
    · first | exact World.alloc_heap_new w _ | (simp; rfl)
    · exact (Below.refl _ _).alloc (Nat.le_refl _) _
  case round =>
    obtain ⟨k, hk, rfl, hpn⟩ := hrel
    obtain ⟨vB, vG, vL, vN, hpq, hB⟩ := hpn.out
    by_cases hlt : k < n
    · have hki : (k : Int) < n := by omega
      have hw0 := hB.size
      have HP0 := Lib.hid hpq
      have HB0 := Lib.hid hB
      clear hpq hB hpn
      obtain ⟨AB, cB, rfl⟩ := own_form (by simpa using HP0.out.hB : wr.ownsRow w.heap.size 9 1 _ k ((List.replicate k ([] : List UInt8)).map sV))
      have HR0 := Lib.hid (by simpa using HP0.out.hB : wr.ownsRow w.heap.size 9 1 (.slice AB k cB) k ((List.replicate k ([] : List UInt8)).map sV))
      have fB := blk_cell HP0.out.blk 1
      simp at fB
      have lB : wr.heap.size ≥ w.heap.size := HB0.out.size
      have gB : (wr.alloc (.cells #[(.string ⟨#[]⟩)] 9)).cell? ⟨w.heap.size, 1, none⟩ = some (.slice AB k cB) := by
        rw [World.cell?_alloc_lt wr _ _ (Array.getElem?_eq_some_iff.1 HP0.out.blk).1]; exact fB
      go_upto_region 6 with (
        at_builtin
        refine wpList_append_own _ rfl (.tmp 19) (.tmp 20) 44 rfl w.heap.size 9 iB (.string ⟨#[]⟩) 1 16 Try.underlying44 hiB hzB hsB hbB rfl (by decide) (.slice AB k cB) k ((List.replicate k ([] : List UInt8)).map sV) rfl (HR0.out.alloc _) ⟨wr.heap.size, 0, none⟩ 1 1 [(.string ⟨#[]⟩)] rfl rfl (cell_one_new _ _ _) (by simp [Value.oneCell']) (by simp only [maxLen]; omega) (by omega) (by simp; omega) ?_
        intro v0 X0 hown hg _
        obtain ⟨B0, d0, rfl⟩ := own_form hown
        have hown' : X0.ownsRow w.heap.size 9 1 (.slice B0 (k + 1) d0) ((List.replicate k ([] : List UInt8)).length + 1) ((List.replicate k ([] : List UInt8) ++ [[]]).map sV) := by
          have e : (List.replicate k ([] : List UInt8) ++ [[]]).map sV = (List.replicate k ([] : List UInt8)).map sV ++ [(.string ⟨#[]⟩)] := by rw [List.map_append]; rfl
          rw [e, List.length_replicate]; exact hown
        have hst := HP0.out.stepB _ [] hg hown' HB0.out.size
        have hbk := HP0.out.after hg (own_ne_blk HP0.out.hB HP0.out.blk (by decide))
        have hcl := blk_cell hbk 1
        simp at hcl
        have hfz := blk_frozen hbk 1
        have hbb := ((HB0.out.alloc HB0.out.size (.cells #[(.string ⟨#[]⟩)] 9)).grown hg (by simp; omega) (fun j e => (HP0.out.hB.lt j e).1)).setCell (p := ⟨w.heap.size, 1, none⟩) (Nat.le_refl _) (.slice B0 (k + 1) d0)
        have HST := Lib.hid hst
        have HBB := Lib.hid hbb
        clear hown hown' hg hst hbb hbk)
      obtain ⟨W1, hW⟩ : ∃ W, W = X0.setCell ⟨w.heap.size, 1, none⟩ (.slice B0 (k + 1) d0) := ⟨_, rfl⟩
      have HP1 : Hid (PQ W1 w.heap.size w.heap.size sz (.slice B0 (k + 1) d0) vG vL vN (List.replicate k ([] : List UInt8) ++ [[]]) (List.replicate k 0) (List.replicate k false) (List.range k)) := by rw [hW]; exact HST
      have HB1 : Hid (Below w.heap.size w W1) := by rw [hW]; exact HBB
      rw [← hW]
      clear hcl hfz fB gB HST HBB hW HP0 HB0 HR0 lB
      obtain ⟨AG, cG, rfl⟩ := own_form (by simpa using HP1.out.hG : W1.ownsRow w.heap.size 27 1 _ k ((List.replicate k 0).map gV))
      have HR1 := Lib.hid (by simpa using HP1.out.hG : W1.ownsRow w.heap.size 27 1 (.slice AG k cG) k ((List.replicate k 0).map gV))
      have fG := blk_cell HP1.out.blk 2
      simp at fG
      have lG : W1.heap.size ≥ w.heap.size := HB1.out.size
      have gG : (W1.alloc (.cells #[(.int .u32 0)] 27)).cell? ⟨w.heap.size, 2, none⟩ = some (.slice AG k cG) := by
        rw [World.cell?_alloc_lt W1 _ _ (Array.getElem?_eq_some_iff.1 HP1.out.blk).1]; exact fG
      go_upto_region 7 with (
        at_builtin
        refine wpList_append_own _ rfl (.tmp 28) (.tmp 29) 45 rfl w.heap.size 27 iG (.int .u32 0) 1 4 Try.underlying45 hiG hzG hsG hbG rfl (by decide) (.slice AG k cG) k ((List.replicate k 0).map gV) rfl (HR1.out.alloc _) ⟨W1.heap.size, 0, none⟩ 1 1 [(.int .u32 0)] rfl rfl (cell_one_new _ _ _) (by simp [Value.oneCell']) (by simp only [maxLen]; omega) (by omega) (by simp; omega) ?_
        intro v1 X1 hown hg _
        obtain ⟨B1, d1, rfl⟩ := own_form hown
        have hown' : X1.ownsRow w.heap.size 27 1 (.slice B1 (k + 1) d1) ((List.replicate k 0).length + 1) ((List.replicate k 0 ++ [0]).map gV) := by
          have e : (List.replicate k 0 ++ [0]).map gV = (List.replicate k 0).map gV ++ [(.int .u32 0)] := by rw [List.map_append]; rfl
          rw [e, List.length_replicate]; exact hown
        have hst := HP1.out.stepG _ 0 hg hown' HB1.out.size
        have hbk := HP1.out.after hg (own_ne_blk HP1.out.hG HP1.out.blk (by decide))
        have hcl := blk_cell hbk 2
        simp at hcl
        have hfz := blk_frozen hbk 2
        have hbb := ((HB1.out.alloc HB1.out.size (.cells #[(.int .u32 0)] 27)).grown hg (by simp; omega) (fun j e => (HP1.out.hG.lt j e).1)).setCell (p := ⟨w.heap.size, 2, none⟩) (Nat.le_refl _) (.slice B1 (k + 1) d1)
        have HST := Lib.hid hst
        have HBB := Lib.hid hbb
        clear hown hown' hg hst hbb hbk)
      obtain ⟨W2, hW⟩ : ∃ W, W = X1.setCell ⟨w.heap.size, 2, none⟩ (.slice B1 (k + 1) d1) := ⟨_, rfl⟩
      have HP2 : Hid (PQ W2 w.heap.size w.heap.size sz (.slice B0 (k + 1) d0) (.slice B1 (k + 1) d1) vL vN (List.replicate k ([] : List UInt8) ++ [[]]) (List.replicate k 0 ++ [0]) (List.replicate k false) (List.range k)) := by rw [hW]; exact HST
      have HB2 : Hid (Below w.heap.size w W2) := by rw [hW]; exact HBB
      rw [← hW]
      clear hcl hfz fG gG HST HBB hW HP1 HB1 HR1 lG
      obtain ⟨AL, cL, rfl⟩ := own_form (by simpa using HP2.out.hL : W2.ownsRow w.heap.size 4 1 _ k ((List.replicate k false).map bV))
      have HR2 := Lib.hid (by simpa using HP2.out.hL : W2.ownsRow w.heap.size 4 1 (.slice AL k cL) k ((List.replicate k false).map bV))
      have fL := blk_cell HP2.out.blk 3
      simp at fL
      have lL : W2.heap.size ≥ w.heap.size := HB2.out.size
      have gL : (W2.alloc (.cells #[(.bool false)] 4)).cell? ⟨w.heap.size, 3, none⟩ = some (.slice AL k cL) := by
        rw [World.cell?_alloc_lt W2 _ _ (Array.getElem?_eq_some_iff.1 HP2.out.blk).1]; exact fL
      go_upto_region 8 with (
        at_builtin
        refine wpList_append_own _ rfl (.tmp 37) (.tmp 38) 46 rfl w.heap.size 4 iL (.bool false) 1 1 Try.underlying46 hiL hzL hsL hbL rfl (by decide) (.slice AL k cL) k ((List.replicate k false).map bV) rfl (HR2.out.alloc _) ⟨W2.heap.size, 0, none⟩ 1 1 [(.bool false)] rfl rfl (cell_one_new _ _ _) (by simp [Value.oneCell']) (by simp only [maxLen]; omega) (by omega) (by simp; omega) ?_
        intro v2 X2 hown hg _
        obtain ⟨B2, d2, rfl⟩ := own_form hown
        have hown' : X2.ownsRow w.heap.size 4 1 (.slice B2 (k + 1) d2) ((List.replicate k false).length + 1) ((List.replicate k false ++ [false]).map bV) := by
          have e : (List.replicate k false ++ [false]).map bV = (List.replicate k false).map bV ++ [(.bool false)] := by rw [List.map_append]; rfl
          rw [e, List.length_replicate]; exact hown
        have hst := HP2.out.stepL _ false hg hown' HB2.out.size
        have hbk := HP2.out.after hg (own_ne_blk HP2.out.hL HP2.out.blk (by decide))
        have hcl := blk_cell hbk 3
        simp at hcl
        have hfz := blk_frozen hbk 3
        have hbb := ((HB2.out.alloc HB2.out.size (.cells #[(.bool false)] 4)).grown hg (by simp; omega) (fun j e => (HP2.out.hL.lt j e).1)).setCell (p := ⟨w.heap.size, 3, none⟩) (Nat.le_refl _) (.slice B2 (k + 1) d2)
        have HST := Lib.hid hst
        have HBB := Lib.hid hbb
        clear hown hown' hg hst hbb hbk)
      obtain ⟨W3, hW⟩ : ∃ W, W = X2.setCell ⟨w.heap.size, 3, none⟩ (.slice B2 (k + 1) d2) := ⟨_, rfl⟩
      have HP3 : Hid (PQ W3 w.heap.size w.heap.size sz (.slice B0 (k + 1) d0) (.slice B1 (k + 1) d1) (.slice B2 (k + 1) d2) vN (List.replicate k ([] : List UInt8) ++ [[]]) (List.replicate k 0 ++ [0]) (List.replicate k false ++ [false]) (List.range k)) := by rw [hW]; exact HST
      have HB3 : Hid (Below w.heap.size w W3) := by rw [hW]; exact HBB
      rw [← hW]
      clear hcl hfz fL gL HST HBB hW HP2 HB2 HR2 lL
      obtain ⟨AN, cN, rfl⟩ := own_form (by simpa using HP3.out.hN : W3.ownsRow w.heap.size 3 1 _ k ((List.range k).map iV))
      have HR3 := Lib.hid (by simpa using HP3.out.hN : W3.ownsRow w.heap.size 3 1 (.slice AN k cN) k ((List.range k).map iV))
      have fN := blk_cell HP3.out.blk 4
      simp at fN
      have lN : W3.heap.size ≥ w.heap.size := HB3.out.size
      have gN : (W3.alloc (.cells #[(.int .i64 (k : Int))] 3)).cell? ⟨w.heap.size, 4, none⟩ = some (.slice AN k cN) := by
        rw [World.cell?_alloc_lt W3 _ _ (Array.getElem?_eq_some_iff.1 HP3.out.blk).1]; exact fN
      go_upto_region 4 with (
        at_builtin
        refine wpList_append_own _ rfl (.tmp 46) (.tmp 48) 47 rfl w.heap.size 3 iN (.int .i64 0) 1 8 Try.underlying47 hiN hzN hsN hbN rfl (by decide) (.slice AN k cN) k ((List.range k).map iV) rfl (HR3.out.alloc _) ⟨W3.heap.size, 0, none⟩ 1 1 [(.int .i64 (k : Int))] rfl rfl (cell_one_new _ _ _) (by simp [Value.oneCell']) (by simp only [maxLen]; omega) (by omega) (by simp; omega) ?_
        intro v3 X3 hown hg _
        obtain ⟨B3, d3, rfl⟩ := own_form hown
        have hown' : X3.ownsRow w.heap.size 3 1 (.slice B3 (k + 1) d3) ((List.range k).length + 1) ((List.range k ++ [k]).map iV) := by
          have e : (List.range k ++ [k]).map iV = (List.range k).map iV ++ [(.int .i64 (k : Int))] := by rw [List.map_append]; rfl
          rw [e, List.length_range]; exact hown
        have hst := HP3.out.stepN _ k hg hown' HB3.out.size
        have hbk := HP3.out.after hg (own_ne_blk HP3.out.hN HP3.out.blk (by decide))
        have hcl := blk_cell hbk 4
        simp at hcl
        have hfz := blk_frozen hbk 4
        have hbb := ((HB3.out.alloc HB3.out.size (.cells #[(.int .i64 (k : Int))] 3)).grown hg (by simp; omega) (fun j e => (HP3.out.hN.lt j e).1)).setCell (p := ⟨w.heap.size, 4, none⟩) (Nat.le_refl _) (.slice B3 (k + 1) d3)
        have HST := Lib.hid hst
        have HBB := Lib.hid hbb
        clear hown hown' hg hst hbb hbk)
      obtain ⟨W4, hW⟩ : ∃ W, W = X3.setCell ⟨w.heap.size, 4, none⟩ (.slice B3 (k + 1) d3) := ⟨_, rfl⟩
      have HP4 : Hid (PQ W4 w.heap.size w.heap.size sz (.slice B0 (k + 1) d0) (.slice B1 (k + 1) d1) (.slice B2 (k + 1) d2) (.slice B3 (k + 1) d3) (List.replicate k ([] : List UInt8) ++ [[]]) (List.replicate k 0 ++ [0]) (List.replicate k false ++ [false]) (List.range k ++ [k])) := by rw [hW]; exact HST
      have HB4 : Hid (Below w.heap.size w W4) := by rw [hW]; exact HBB
      rw [← hW]
      clear hcl hfz fN gN HST HBB hW HP3 HB3 HR3 lN
      go_wp2
      refine ⟨⟨k + 1, by omega, by congr 1, Lib.hid ⟨.slice B0 (k + 1) d0, .slice B1 (k + 1) d1, .slice B2 (k + 1) d2, .slice B3 (k + 1) d3, ?_, HB4.out⟩⟩, by simp only [intOf]; omega⟩
      rw [List.replicate_succ', List.replicate_succ', List.replicate_succ', List.range_succ]
      exact HP4.out
    · have hki : ¬ (k : Int) < n := by omega
      obtain rfl : k = n := by omega
      obtain ⟨gB, cB, gG, cG, gL, cL, hq⟩ := hpq.rq hn0 hn hsz
      have HQ := Lib.hid hq
      have HB := Lib.hid hB
      clear hpq hB hpn hq
      go_wp2
      go_ret
      exact ⟨rfl, ⟨gB, cB, gG, cG, gL, cL, vN, HQ.out⟩, HB.out⟩
end Go.Proofs.Ytmpaefndkobgnaa
