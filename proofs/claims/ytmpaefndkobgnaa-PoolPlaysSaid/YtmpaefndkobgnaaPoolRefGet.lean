/- The contract of the document's pool: Get. -/
import Derived.Test.YtmpaefndkobgnaaPoolRefOps
namespace Go.Proofs.Ytmpaefndkobgnaa
open Go.RowKit

def QS.getS (s : QS) (i : Nat) (N' : List Nat) : QS := { s with B := s.B.set i [], G := s.G.set i ((s.G.getD i 0 + 1) % 4294967296), L := s.L.set i true, N := N' }

set_option maxHeartbeats 1000000 in
theorem q_Get_none (w : World) (base R gB cB gG cG gL cL : Nat) (vN : Value) (s : QS) (h : RQ w base R gB cB gG cG gL cL vN s) (hN : s.N = []) :
    Calls Try.prog 13 #[.pointer (some ⟨R, 0, none⟩)] w fun e w' => e = .returned (.int .i64 (-1)) ∧ w = w' := by
  have f4 := blk_cell h.blk 4
  simp at f4
  obtain ⟨A, c, hv⟩ := own_form h.hN
  rw [hN] at hv
  subst hv
  clear h hN
  go_enter Try.func13, Try.ntmps13
  go_wp2
  go_ret
  exact ⟨rfl, rfl⟩

set_option maxHeartbeats 2000000 in
theorem q_Get_one (w : World) (base R gB cB gG cG gL cL : Nat) (vN : Value) (s : QS) (h : RQ w base R gB cB gG cG gL cL vN s) (i : Nat) (N' : List Nat) (hN : s.N = i :: N') (hbw : base ≤ w.heap.size) :
    Calls Try.prog 13 #[.pointer (some ⟨R, 0, none⟩)] w fun e w' => e = .returned (.int .i64 (i : Int)) ∧ ∃ vN', RQ w' base R gB cB gG cG gL cL vN' (s.getS i N') ∧ Only (FQ R gB gG gL vN) w w' ∧ ∀ k, vN'.ownBlock = some k → w.heap.size ≤ k := by
  obtain ⟨iI, hiI, hz0, hz1, hz2⟩ := infoInt_parts
  have hn4 := h.hn
  have hi : i < s.n := h.hNn i (by rw [hN]; simp)
  have hNl := h.hNl
  rw [hN] at hNl
  simp only [List.length_cons] at hNl
  have f4 := blk_cell h.blk 4
  simp at f4
  have fz4 := blk_frozen h.blk 4
  have hrow := h.hN
  rw [hN] at hrow
  obtain ⟨gN, cN, hv, _⟩ := hrow.form (by simp)
  subst hv
  have hc := own_cap hrow
  simp only [List.length_cons] at hrow hc f4
  have c0 : w.cell? ⟨gN, 0, none⟩ = some (.int .i64 (i : Int)) := by
    rw [hrow.cellAt 0 (by omega)]; simp [iV]
  obtain ⟨M, hM⟩ : ∃ M, M = N'.length := ⟨_, rfl⟩
  rw [← hM] at hrow hc f4 hNl
  have hM4 : M ≤ 4096 := by omega
  have hMi : (M : Int) ≤ 4096 := by omega
  have hl0 : ((M : Int) + 1 == 0) = false := by simp; omega
  obtain ⟨o, ho, ks⟩ : ∃ o : Nat, (N' ≠ [] → o = 1) ∧ ∀ W, (Instr.sliceAt 47 (.slice (some ⟨gN, 0, none⟩) (M + 1) cN) (some (.int .i64 1)) none none).run Try.prog W = .ok (.slice (some ⟨gN, o, none⟩) M (cN - 1)) W := by
    have h1 : (1 : Int) ≤ (M : Int) + 1 := by omega
    have h2 : (M : Int) + 1 ≤ cN := by omega
    have h3 : (1 : Int) ≤ cN := by omega
    by_cases hc1 : cN = 1
    · have hM0 : M = 0 := by omega
      refine ⟨0, fun hne => absurd (List.eq_nil_of_length_eq_zero (by omega)) hne, fun W => ?_⟩
      subst hc1; subst hM0
      simp [go_sem]
    · refine ⟨1, fun _ => rfl, fun W => ?_⟩
      have hc2 : ¬ (1 : Int) = cN := by omega
      simp [go_sem, h1, h2, h3, hc1, hc2, Addr.add]
      try omega
  have HS := Lib.hid (show ∀ j u, (N'.map iV)[j]? = some u → w.cell? ((⟨gN, o, none⟩ : Addr).add j) = some u from fun j u hu => by
    have hne : N' ≠ [] := by rintro rfl; simp at hu
    rw [ho hne]
    have h1 := hrow.cells (g := gN) rfl (j + 1) u (by simpa using hu)
    rw [addr_add] at h1 ⊢
    rw [show 1 + j = 0 + (j + 1) by omega]; exact h1)
  have HQ := Lib.hid h
  have HN := Lib.hid hN
  have HM := Lib.hid hM
  clear h hN hrow ho hM
  go_enter Try.func13, Try.ntmps13
  go_upto_region 5 with (
    at_builtin
    refine wpList_append_own _ rfl (.const (.slice none 0 0)) (.tmp 21) 47 rfl w.heap.size 3 iI (.int .i64 0) 1 8 Try.underlying47 hiI hz0 hz1 hz2 rfl (by decide) (.slice none 0 0) 0 [] rfl (World.ownsRow_nil _ _ _ _) ⟨gN, o, none⟩ M (cN - 1) (N'.map iV) rfl (by simp; exact HM.out.symm) HS.out (by intro u hu; obtain ⟨y, _, rfl⟩ := List.mem_map.1 hu; rfl) (by simp only [maxLen]; omega) (by omega) (Nat.le_refl _) ?_
    intro v1 W1 hown1 hg1 _
    rw [List.nil_append, Nat.zero_add] at hown1
    have hB1 : Below w.heap.size w W1 := (Below.refl _ _).grown hg1 (Nat.le_refl _) (fun j e => by cases e)
    have HQ1 := Lib.hid (HQ.out.grew hB1)
    have O1 := Lib.hid (Only.of_grew (F := FQ R gB gG gL (.slice (some ⟨gN, 0, none⟩) (M + 1) cN)) hB1)
    have f41 := blk_cell HQ1.out.blk 4
    simp at f41
    have fz41 := blk_frozen HQ1.out.blk 4
    obtain ⟨A1, c1, rfl⟩ := own_form hown1
    have HO1 := Lib.hid hown1
    clear hown1 hg1 hB1)
  have hQ2 := HQ1.out.setN (.slice A1 M c1) N' (by rw [← HM.out]; exact own_base HO1.out hbw) (by rw [← HM.out]; omega) (fun j hj => HQ.out.hNn j (by rw [HN.out]; simp [hj]))
  have o2 := O1.out.setCell (p := ⟨R, 4, none⟩) (.inl (.inl rfl)) (.slice A1 M c1)
  obtain ⟨W2, hW2⟩ : ∃ W2, W2 = W1.setCell ⟨R, 4, none⟩ (.slice A1 M c1) := ⟨_, rfl⟩
  rw [← hW2] at hQ2 o2 ⊢
  have HLT := Lib.hid (show ∀ j, (Value.slice A1 M c1).ownBlock = some j → w.heap.size ≤ j from fun j hj => (HO1.out.lt j hj).1)
  have fB := blk_cell hQ2.blk 1
  simp at fB
  have cB1 := hQ2.cB' i hi
  unfold sV at cB1
  have frB : W2.frozen? ⟨gB, i, none⟩ = false := hQ2.hB.frozenAt i
  have hii : (i : Int) < s.n := by omega
  have HQ2 := Lib.hid hQ2
  have O2 := Lib.hid o2
  obtain ⟨oldB, hoB⟩ : ∃ x, x = ({ s with N := N' } : QS).B.getD i [] := ⟨_, rfl⟩
  rw [← hoB] at cB1
  clear hW2 hQ2 o2 f41 fz41 O1 HQ1 ks HS hoB c0 f4 fz4
  go_upto_region 6 with (fail)
  have hQ3 : RQ (W2.setCell ⟨gB, i, none⟩ (.string ⟨#[]⟩)) base R gB cB gG cG gL cL (.slice A1 M c1) { s with N := N', B := s.B.set i [] } := HQ2.out.setB i []
  have o3 := O2.out.setCell (p := ⟨gB, i, none⟩) (.inl (.inr (.inl rfl))) (.string ⟨#[]⟩)
  obtain ⟨W3, hW3⟩ : ∃ W3, W3 = W2.setCell ⟨gB, i, none⟩ (.string ⟨#[]⟩) := ⟨_, rfl⟩
  rw [← hW3] at hQ3 o3 ⊢
  have fG := blk_cell hQ3.blk 2
  simp at fG
  have cG1 := hQ3.cG' i hi
  obtain ⟨gg, hgg⟩ : ∃ x, x = s.G.getD i 0 := ⟨_, rfl⟩
  have cG2 : W3.cell? ⟨gG, i, none⟩ = some (.int .u32 (gg : Int)) := by rw [hgg]; exact cG1
  have hgl : gg < 4294967296 := by
    rw [hgg]
    have hl := HQ.out.lG
    have : s.G.getD i 0 = s.G[i]'(by omega) := by simp [List.getD, show i < s.G.length by omega]
    rw [this]
    exact HQ.out.hGl _ (List.getElem_mem _)
  have frG : W3.frozen? ⟨gG, i, none⟩ = false := hQ3.hG.frozenAt i
  have HGG := Lib.hid hgg
  have HQ3 := Lib.hid hQ3
  have O3 := Lib.hid o3
  clear hW3 hQ3 o3 cG1 hgg fB cB1 frB HQ2 O2
  go_upto_region 7 with (fail)
  have hwr : ((gg : Int) + 1) % 4294967296 = (((gg + 1) % 4294967296 : Nat) : Int) := by omega
  rw [hwr]
  obtain ⟨g1, hg1⟩ : ∃ g1, g1 = (gg + 1) % 4294967296 := ⟨_, rfl⟩
  rw [← hg1]
  have hg1l : g1 < 4294967296 := by omega
  have hQ4 := HQ3.out.setG i g1 hg1l
  have o4 := O3.out.setCell (p := ⟨gG, i, none⟩) (.inl (.inr (.inr (.inl rfl)))) (.int .u32 (g1 : Int))
  obtain ⟨W4, hW4⟩ : ∃ W4, W4 = W3.setCell ⟨gG, i, none⟩ (.int .u32 (g1 : Int)) := ⟨_, rfl⟩
  rw [← hW4] at hQ4 o4 ⊢
  have fL := blk_cell hQ4.blk 3
  simp at fL
  have cL1 := hQ4.cL' i hi
  obtain ⟨ll, hll⟩ : ∃ x, x = s.L.getD i false := ⟨_, rfl⟩
  have cL2 : W4.cell? ⟨gL, i, none⟩ = some (.bool ll) := by rw [hll]; exact cL1
  have frL : W4.frozen? ⟨gL, i, none⟩ = false := hQ4.hL.frozenAt i
  have HG1 := Lib.hid hg1
  have HQ4 := Lib.hid hQ4
  have O4 := Lib.hid o4
  clear hW4 hQ4 o4 cL1 hll hg1 hwr fG cG2 frG HQ3 O3
  go_wp2
  go_ret
  refine ⟨rfl, .slice A1 M c1, ?_, O4.out.setCell (p := ⟨gL, i, none⟩) (.inl (.inr (.inr (.inr (.inl rfl))))) _, HLT.out⟩
  have hQ5 := HQ4.out.setL i true
  have e : ({ s with N := N', B := s.B.set i [], G := s.G.set i g1, L := s.L.set i true } : QS) = s.getS i N' := by
    rw [QS.getS, HG1.out, HGG.out]
  rw [← e]
  exact hQ5
end Go.Proofs.Ytmpaefndkobgnaa
