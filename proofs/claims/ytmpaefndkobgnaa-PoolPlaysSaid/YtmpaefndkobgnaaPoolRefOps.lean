/- The contracts of the document's pool: Set, Back, Get. -/
import Derived.Test.YtmpaefndkobgnaaPoolRefSet
import Derived.Laws.AppendOwnNone
namespace Go.Proofs.Ytmpaefndkobgnaa
open Go.RowKit

def QS.setR (s : QS) (i : Int) (g : Nat) (x : List UInt8) : Nat := if s.good i g then (if s.sz < x.length then 3 else 0) else 15
def QS.setS (s : QS) (i : Int) (g : Nat) (x : List UInt8) : QS := if s.good i g then (if s.sz < x.length then s else { s with B := s.B.set i.toNat x }) else s
theorem QS.good_lt {s : QS} {i : Int} {g : Nat} (h : s.good i g = true) : ∃ k : Nat, i = (k : Int) ∧ k < s.n ∧ s.L.getD k false = true ∧ s.G.getD k 0 = g := by
  simp only [QS.good, Bool.and_eq_true, decide_eq_true_eq, beq_iff_eq] at h
  obtain ⟨⟨⟨h0, h1⟩, h2⟩, h3⟩ := h
  obtain ⟨k, rfl⟩ := Int.eq_ofNat_of_zero_le h0
  exact ⟨k, rfl, by omega, by simpa using h2, by simpa using h3⟩

set_option maxHeartbeats 1000000 in
theorem q_Set (w : World) (base R gB cB gG cG gL cL : Nat) (vN : Value) (s : QS) (h : RQ w base R gB cB gG cG gL cL vN s) (i : Int) (g : Nat) (x : List UInt8) (hi1 : -9223372036854775808 ≤ i) (hi2 : i ≤ 9223372036854775807) (hg : g < 4294967296) (hx : x.length ≤ 140737488355328) :
    Calls Try.prog 15 #[.pointer (some ⟨R, 0, none⟩), .int .i64 i, .int .u32 (g : Int), .string (str x)] w fun e w' => e = .returned (.int .i64 (s.setR i g x : Int)) ∧ RQ w' base R gB cB gG cG gL cL vN (s.setS i g x) ∧ Only (FQ R gB gG gL vN) w w' := by
  have f0 := blk_cell h.blk 0
  have f1 := blk_cell h.blk 1
  simp at f0 f1
  have HQ := Lib.hid h
  have hsz := h.hsz
  have hn4 := h.hn
  have hss := str_size x
  have hxi : (x.length : Int) ≤ 140737488355328 := by omega
  cases hgd : s.good i g with
  | false =>
    have HG := Lib.hid hgd
    clear h hgd
    go_enter Try.func15, Try.ntmps15
    go_wp2_with fail
    refine (q_Good w base R gB cB gG cG gL cL vN s HQ.out i g hi1 hi2 hg).mono ?_
    rintro e w' ⟨rfl, rfl⟩
    rw [HG.out]
    go_wp2
    go_ret
    refine ⟨ret_int ?_, ?_, Only.refl _ _⟩
    · rw [QS.setR, HG.out]; rfl
    · rw [QS.setS, HG.out]; exact HQ.out
  | true =>
    have HG := Lib.hid hgd
    obtain ⟨k, hik, hk, _, _⟩ := QS.good_lt hgd
    subst hik
    clear h hgd
    have c1 := HQ.out.cB' k hk
    obtain ⟨old, hold⟩ : ∃ o, o = s.B.getD k [] := ⟨_, rfl⟩
    rw [← hold] at c1
    unfold sV at c1
    clear hold
    have fr : w.frozen? ⟨gB, k, none⟩ = false := HQ.out.hB.frozenAt k
    have hki : (k : Int) < s.n := by omega
    by_cases hlong : s.sz < x.length
    · have hli : (s.sz : Int) < x.length := by omega
      have HLo := Lib.hid hlong
      clear hlong
      go_enter Try.func15, Try.ntmps15
      go_wp2_with fail
      refine (q_Good w base R gB cB gG cG gL cL vN s HQ.out k g hi1 hi2 hg).mono ?_
      rintro e w' ⟨rfl, rfl⟩
      rw [HG.out]
      go_wp2
      go_ret
      refine ⟨ret_int ?_, ?_, Only.refl _ _⟩
      · rw [QS.setR, HG.out, if_pos rfl, if_pos HLo.out]; rfl
      · rw [QS.setS, HG.out, if_pos rfl, if_pos HLo.out]; exact HQ.out
    · have hli : ¬ (s.sz : Int) < x.length := by omega
      have HLo := Lib.hid hlong
      clear hlong
      go_enter Try.func15, Try.ntmps15
      go_wp2_with fail
      refine (q_Good w base R gB cB gG cG gL cL vN s HQ.out k g hi1 hi2 hg).mono ?_
      rintro e w' ⟨rfl, rfl⟩
      rw [HG.out]
      go_wp2
      go_ret
      refine ⟨ret_int ?_, ?_, (Only.refl _ _).setCell (.inl (.inr (.inl rfl))) _⟩
      · rw [QS.setR, HG.out, if_pos rfl, if_neg HLo.out]; rfl
      · rw [QS.setS, HG.out, if_pos rfl, if_neg HLo.out]
        exact HQ.out.setB k x

theorem infoInt : (Try.prog.info? 3).map (fun i => (i.zero, i.size, i.bytes)) = some (some (.int .i64 0), 1, 8) := by kernel_rfl
theorem infoInt_parts : ∃ i, Try.prog.info? 3 = some i ∧ i.zero = some (.int .i64 0) ∧ i.size = 1 ∧ i.bytes = 8 := by
  obtain ⟨i, hi, h⟩ := Option.map_eq_some_iff.1 infoInt
  simp only [Prod.mk.injEq] at h
  exact ⟨i, hi, h.1, h.2.1, h.2.2⟩
theorem row_new (w : World) (base : Nat) (t : TypeId) (v : Value) (hb : base ≤ w.heap.size) : (w.alloc (.cells #[v] t)).ownsRow base t 1 (.slice (some ⟨w.heap.size, 0, none⟩) 1 1) 1 [v] :=
  ⟨rfl, .inr ⟨w.heap.size, 1, #[v], rfl, hb, heap_alloc_new w _, Nat.le_refl _, by simp [maxLen], rfl, rfl⟩⟩

def QS.backR (s : QS) (i : Int) (g : Nat) : Nat := if s.good i g then 0 else 15
def QS.backS (s : QS) (i : Int) (g : Nat) : QS := if s.good i g then { s with L := s.L.set i.toNat false, N := i.toNat :: s.N } else s
/-- What is lent is not among the free ones, so there is room. -/
def QS.Fit (s : QS) : Prop := s.N.Nodup ∧ ∀ i ∈ s.N, s.L.getD i false = false

set_option maxHeartbeats 2000000 in
theorem q_Back (w : World) (base R gB cB gG cG gL cL : Nat) (vN : Value) (s : QS) (h : RQ w base R gB cB gG cG gL cL vN s) (i : Int) (g : Nat) (hroom : s.good i g = true → s.N.length < s.n) (hi1 : -9223372036854775808 ≤ i) (hi2 : i ≤ 9223372036854775807) (hg : g < 4294967296) (hbw : base ≤ w.heap.size) :
    Calls Try.prog 14 #[.pointer (some ⟨R, 0, none⟩), .int .i64 i, .int .u32 (g : Int)] w fun e w' => e = .returned (.int .i64 (s.backR i g : Int)) ∧ ∃ vN', RQ w' base R gB cB gG cG gL cL vN' (s.backS i g) ∧ Only (FQ R gB gG gL vN) w w' ∧ ∀ k, vN'.ownBlock = some k → vN.ownBlock = some k ∨ w.heap.size ≤ k := by
  obtain ⟨iI, hiI, hz0, hz1, hz2⟩ := infoInt_parts
  have HQ := Lib.hid h
  have hn4 := h.hn
  cases hgd : s.good i g with
  | false =>
    have HG := Lib.hid hgd
    clear h hgd hroom
    go_enter Try.func14, Try.ntmps14
    go_wp2_with fail
    refine (q_Good w base R gB cB gG cG gL cL vN s HQ.out i g hi1 hi2 hg).mono ?_
    rintro e w' ⟨rfl, rfl⟩
    rw [HG.out]
    go_wp2
    go_ret
    refine ⟨ret_int ?_, vN, ?_, Only.refl _ _, fun k hk => .inl hk⟩
    · rw [QS.backR, HG.out]; rfl
    · rw [QS.backS, HG.out]; exact HQ.out
  | true =>
    have hroom' := hroom hgd
    have HG := Lib.hid hgd
    obtain ⟨k, hik, hk, _, _⟩ := QS.good_lt hgd
    subst hik
    have f3 := blk_cell h.blk 3
    simp at f3
    clear h hgd hroom
    have c1 := HQ.out.cL' k hk
    obtain ⟨old, hold⟩ : ∃ o, o = s.L.getD k false := ⟨_, rfl⟩
    rw [← hold] at c1
    clear hold
    have fr : w.frozen? ⟨gL, k, none⟩ = false := HQ.out.hL.frozenAt k
    have hki : (k : Int) < s.n := by omega
    have hQ1 := HQ.out.setL k false
    have g4 := blk_cell hQ1.blk 4
    simp at g4
    have HQ1 := Lib.hid hQ1
    have hfz := blk_frozen hQ1.blk 4
    clear hQ1
    go_enter Try.func14, Try.ntmps14
    go_wp2_with fail
    refine (q_Good w base R gB cB gG cG gL cL vN s HQ.out k g hi1 hi2 hg).mono ?_
    rintro e w' ⟨rfl, rfl⟩
    rw [HG.out]
    go_upto_region 4 with (fail)
    obtain ⟨W1, hW1⟩ : ∃ W1, W1 = w.setCell ⟨gL, k, none⟩ (.bool false) := ⟨_, rfl⟩
    have O1 := Lib.hid (show Only (FQ R gB gG gL vN) w W1 by rw [hW1]; exact (Only.refl _ _).setCell (.inl (.inr (.inr (.inr (.inl rfl))))) _)
    rw [← hW1] at HQ1 g4 hfz ⊢
    clear hW1 c1 fr f3
    have hb1 : base ≤ W1.heap.size := Nat.le_trans hbw O1.out.size
    have hsz1 := O1.out.size
    have HRN := Lib.hid (row_new W1 W1.heap.size 3 (.int .i64 (k : Int)) (Nat.le_refl _))
    have hNl : s.N.length ≤ 4096 := by omega
    have g4' : (W1.alloc (.cells #[.int .i64 (k : Int)] 3)).cell? ⟨R, 4, none⟩ = some vN := by
      rw [World.cell?_alloc_lt W1 _ _ (Array.getElem?_eq_some_iff.1 HQ1.out.blk).1]; exact g4
    have hN1 : W1.ownsRow base 3 1 vN s.N.length (s.N.map iV) := HQ1.out.hN
    rcases hN1.2 with ⟨hv, h0⟩ | ⟨gN, cN, cur, hv, _⟩
    · subst hv
      have hNe : s.N = [] := List.eq_nil_of_length_eq_zero h0
      have HNE := Lib.hid hNe
      have HQ2 := Lib.hid (HQ1.out.grew ((Below.refl _ _).alloc (Nat.le_refl _) (.cells #[.int .i64 (k : Int)] 3)))
      have hfz' := blk_frozen HQ2.out.blk 4
      clear h0 hNe hN1 g4 hfz
      go_wp2_with (at_builtin; refine wpList_append_own_none rfl (.tmp 20) (.tmp 24) 47 rfl W1.heap.size 3 iI 1 Try.underlying47 hiI _ 1 [.int .i64 (k : Int)] rfl HRN.out rfl ?_)
      go_ret
      refine ⟨ret_int ?_, .slice (some ⟨W1.heap.size, 0, none⟩) 1 1, ?_, ?_, fun j hj => ?_⟩
      · rw [QS.backR, HG.out]; rfl
      · rw [QS.backS, HG.out, if_pos rfl]
        exact HQ2.out.setN _ (k :: s.N) (by rw [HNE.out]; exact own_base HRN.out hb1) (by rw [HNE.out]; simp; omega) (by rw [HNE.out]; simp; exact hk)
      · exact (O1.out.alloc _).setCell (.inl (.inl rfl)) _
      · cases hj; exact .inr hsz1
    · subst hv
      have HN1 := Lib.hid hN1
      have HSRC := Lib.hid (show ∀ j u, (s.N.map iV)[j]? = some u → (W1.alloc (.cells #[.int .i64 (k : Int)] 3)).cell? ((⟨gN, 0, none⟩ : Addr).add j) = some u from fun j u hu => by
        have h1 := hN1.cells (g := gN) rfl j u hu
        rw [addr_add] at h1 ⊢
        rw [World.cell?_alloc_lt W1 _ _ (hN1.lt gN rfl).2]; exact h1)
      clear hN1 g4 hfz
      go_wp2_with (at_builtin; refine wpList_append_own _ rfl (.tmp 20) (.tmp 24) 47 rfl W1.heap.size 3 iI (.int .i64 0) 1 8 Try.underlying47 hiI hz0 hz1 hz2 rfl (by decide) _ 1 [.int .i64 (k : Int)] rfl HRN.out ⟨gN, 0, none⟩ s.N.length cN (s.N.map iV) rfl (by simp) HSRC.out (by intro u hu; obtain ⟨y, _, rfl⟩ := List.mem_map.1 hu; rfl) (by simp only [maxLen]; omega) (by omega) (by simp) ?_
                   intro v3 W3 hown3 hg3 _
                   have hB3 : Below W1.heap.size W1 W3 := ((Below.refl _ _).alloc (Nat.le_refl _) _).grown hg3 (by simp) (fun j e => by cases e; exact Nat.le_refl _)
                   have HQ3 := Lib.hid (HQ1.out.grew hB3)
                   have O3 := Lib.hid (O1.out.grew hB3)
                   have h43 := blk_cell HQ3.out.blk 4
                   simp at h43
                   have hfz3 := blk_frozen HQ3.out.blk 4
                   obtain ⟨A3, c3, rfl⟩ := own_form hown3
                   have hlt3 : ∀ j, (Value.slice A3 (1 + s.N.length) c3).ownBlock = some j → w.heap.size ≤ j := fun j hj => by
                     have := (hown3.lt j hj).1
                     omega
                   have HO3 := Lib.hid hown3
                   have HLT := Lib.hid hlt3
                   clear hown3 hg3 hB3 hlt3)
      go_ret
      refine ⟨ret_int ?_, .slice A3 (1 + s.N.length) c3, ?_, ?_, fun j hj => .inr (HLT.out j hj)⟩
      · rw [QS.backR, HG.out]; rfl
      · rw [QS.backS, HG.out, if_pos rfl]
        refine HQ3.out.setN _ (k :: s.N) ?_ (by simp; omega) (fun j hj => ?_)
        · have := own_base HO3.out hb1
          rw [Nat.add_comm] at this ⊢
          exact this
        · rcases List.mem_cons.1 hj with rfl | hj
          · exact hk
          · exact HQ.out.hNn j hj
      · exact O3.out.setCell (.inl (.inl rfl)) _
end Go.Proofs.Ytmpaefndkobgnaa
