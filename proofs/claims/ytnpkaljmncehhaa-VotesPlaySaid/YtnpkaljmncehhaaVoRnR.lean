/- The document's own tally, made: the statement that draws its order. -/
import Derived.Test.YtnpkaljmncehhaaVoPlR
import Derived.Maps.AppendAt
namespace Go.Proofs.Ytnpkaljmncehhaa
open Go.RowKit

def tupV (u : Value) (i : Nat) : Value := match u with
  | .tuple vs => vs.getD i undef
  | _ => undef
theorem infoBo : (Try.prog.info? 4).map (fun i => (i.zero, i.size, i.bytes)) = some (some (.bool false), 1, 1) := by kernel_rfl
theorem infoBoS : (Try.prog.info? 46).map (fun i => (i.zero, i.size, i.bytes)) = some (some (.slice none 0 0), 1, 24) := by kernel_rfl
theorem infoBoS_parts : ∃ i, Try.prog.info? 46 = some i ∧ i.zero = some (.slice none 0 0) ∧ i.size = 1 ∧ i.bytes = 24 := by
  have h := infoBoS
  cases hi : Try.prog.info? 46 with
  | none => rw [hi] at h; cases h
  | some i => rw [hi] at h; simp at h; exact ⟨i, rfl, h.1, h.2.1, h.2.2⟩
def falses : Array Value := boR fun _ => false
theorem made_falses : madeCells #[.bool false] (202 * 1) = falses := by
  apply Array.ext_getElem?
  intro i
  rw [show falses[i]? = if i < 202 then some (.bool false) else none from ?_]
  · by_cases h : i < 202
    · simp [madeCells, h, Nat.mod_one]
    · simp [madeCells, h]
  · split
    · rename_i h
      exact boR_get _ h
    · rename_i h
      rw [Array.getElem?_eq_none_iff]
      simp [falses, boR]
      omega
theorem mk_Bo (w : World) : (Instr.makeSlice 46 (.int .i64 202) (.int .i64 202)).run Try.prog w = .ok (.slice (some ⟨w.heap.size, 0, none⟩) 202 202) (w.alloc (.cells falses 4)) := by
  have h := infoBo
  cases hi : Try.prog.info? 4 with
  | none => rw [hi] at h; cases h
  | some i =>
    rw [hi] at h
    simp at h
    obtain ⟨hz, hs, hb⟩ := h
    have := run_make (P := Try.prog) w 46 4 i _ Try.underlying46 hi hz .i64 .i64 202 202 (by omega) (by omega) (by rw [hb]; omega) (by omega)
    rw [hs] at this
    rw [show Int.toNat 202 = 202 from rfl, show (Value.bool false).cells = #[.bool false] from rfl, made_falses] at this
    exact this
/-- A row of booleans that came, and the row of rows with it. -/
def NewQ (B : Nat) (vs : List Value) (W0 : World) (v0 v : Value) (n : Nat) (w : World) : Prop := ∃ b, W0.heap.size ≤ b ∧ w.heap[b]? = some (.cells falses 4 (0, 0)) ∧ w.ownsRow B 46 1 v (n + 1) (vs ++ [.slice (some ⟨b, 0, none⟩) 202 202]) ∧ W0.heap.size ≤ w.heap.size ∧ W0.grownBy w v0.ownBlock
noncomputable def opsRn : List Oper := opsOf Try.f8 5
def wsRn (q B n : Nat) (v0 : Value) (vs : List Value) (W0 : World) (L : Nat → Bool) (u : Value) (w : World) : Prop := (L 7 = false → Grew W0 w) ∧ (L 5 = true → L 7 = false → ∃ b, tupV u 0 = .slice (some ⟨b, 0, none⟩) 202 202 ∧ W0.heap.size ≤ b ∧ w.heap[b]? = some (.cells falses 4 (0, 0))) ∧ (L 6 = true → L 7 = false → ∃ p b, tupV u 1 = .slice (some ⟨p, 0, none⟩) 1 1 ∧ w.heap[p]? = some (.cells #[.slice (some ⟨b, 0, none⟩) 202 202] 46 (0, 0)) ∧ w.heap[b]? = some (.cells falses 4 (0, 0)) ∧ W0.heap.size ≤ b) ∧ (L 7 = true → L 10 = false → NewQ B vs W0 v0 (tupV u 2) n w) ∧ (L 10 = true → ∃ w1 v, NewQ B vs W0 v0 v n w1 ∧ w = w1.setCell ⟨q, 0, none⟩ v)
theorem wsRn_same (q B n : Nat) (v0 : Value) (vs : List Value) {W0 : World} {L : Nat → Bool} {i : Nat} {u : Value} {w : World} (k5 : ((5 : Nat) == i) = false) (k6 : ((6 : Nat) == i) = false) (k7 : ((7 : Nat) == i) = false) (k10 : ((10 : Nat) == i) = false) (h : wsRn q B n v0 vs W0 L u w) : wsRn q B n v0 vs W0 (fun j => L j || j == i) u w := by
  unfold wsRn at h ⊢
  simp only [beq_noF k5, beq_noF k6, beq_noF k7, beq_noF k10]
  exact h
set_option maxRecDepth 100000 in
set_option maxHeartbeats 4000000 in
theorem refnew_r (q B n : Nat) (v0 : Value) (vs : List Value) (a : Act) (w : World) (Q : Exit → Act → World → Prop) (hN : a.tmps.size = 23) (h3 : a.tmps.getD 3 undef = .pointer (some ⟨q, 0, none⟩)) (kq : w.drew.heap[q]? = some (.cells #[v0, .int .i64 0] 38 (0, 0))) (hown : w.drew.ownsRow B 46 1 v0 n vs) (hB : B ≤ w.drew.heap.size) (hn : n ≤ 1000) (hW0 : wsRn q B n v0 vs w.drew (fun _ => false) undef w.drew) (hQ : ∀ (u : Value) w', wsRn q B n v0 vs w.drew (fun _ => true) u w' → Q .normal (puts [(12, .pointer (some ⟨q, 0, none⟩)), (13, .pointer (some ⟨q, 0, none⟩)), (14, .pointer (some ⟨q, 0, none⟩)), (15, .pointer (some ⟨q, 0 + 0, none⟩)), (16, v0), (17, tupV u 0), (18, tupV u 1), (19, tupV u 2), (20, .pointer (some ⟨q, 0, none⟩)), (21, .pointer (some ⟨q, 0 + 0, none⟩))] a) w')
    : (Code.region 5 opsRn.toArray true).wp Try.prog Q a w := by
  refine region_c (U := Value) 23 opsRn [(3, .pointer (some ⟨q, 0, none⟩))] [5, 6, 7, 10] (fun u => [.pointer (some ⟨q, 0, none⟩), .pointer (some ⟨q, 0, none⟩), .pointer (some ⟨q, 0, none⟩), .pointer (some ⟨q, 0 + 0, none⟩), v0, tupV u 0, tupV u 1, tupV u 2, .pointer (some ⟨q, 0, none⟩), .pointer (some ⟨q, 0 + 0, none⟩), undef]) (wsRn q B n v0 vs w.drew) undef follows (by kernel_rfl) hN ⟨h3, trivial⟩ (fun _ => Nat.le_of_ble_eq_true rfl) hW0 (fun _ vu _ _ hi h => wsRn_same (u := vu) q B n v0 vs (key_ne hi rfl) (key_ne hi rfl) (key_ne hi rfl) (key_ne hi rfl) h) ?_ ?_ ?_
  · intro L u w' hW hcl
    have nL : ∀ i, reachB opsRn 30 7 i = true → L i = false → L 7 = false := fun i h n => not_yetF hcl 30 h n
    exact ⟨fun _ => rfl, fun _ => rfl, fun _ => rfl, fun _ => ob_fld (fdRf _ _ _ _ (.inl rfl)), fun n => ob_load (ldSS _ _ _ ((Below.cell (hW.1 (nL 4 (by kernel_rfl) n)) (p := ⟨q, 0 + 0, none⟩) (Array.getElem?_eq_some_iff.1 kq).1).trans (by rw [blk_cell kq (0 + 0)]; rfl))), trivial, trivial, trivial, fun _ => rfl, fun _ => ob_fld (fdRf _ _ _ _ (.inl rfl)), trivial, trivial⟩
  · refine ⟨?_, ?_, ?_, ?_, trivial⟩
    · rintro o ho L u a' w' hLi hpre hcl hR hW fin
      have hio := (nthO_eq _ _).symm.trans ho
      cases ho
      obtain ⟨w1, w2, w3, w4, w5⟩ := hW
      have n7 : L 7 = false := not_yetF hcl 30 (show reachB opsRn 30 7 5 = true by kernel_rfl) hLi
      have n10 : L 10 = false := not_yetF hcl 30 (show reachB opsRn 30 10 5 = true by kernel_rfl) hLi
      have hb : Below w'.heap.size w' (w'.alloc (.cells falses 4)) := (Below.refl _ _).alloc (Nat.le_refl _) _
      refine step_run hio rfl (by intro c h; cases h) (by simp [Oper.about]) (v := .slice (some ⟨w'.heap.size, 0, none⟩) 202 202) (w' := w'.alloc (.cells falses 4)) (by simp only [execOp, Act.eval, mk_Bo, Sem.run_bind, Result.andThen_ok, Sem.run_pure]) ?_
      have hW2 : wsRn q B n v0 vs w.drew (fun j => L j || j == 5) (.tuple #[.slice (some ⟨w'.heap.size, 0, none⟩) 202 202, tupV u 1, tupV u 2]) (w'.alloc (.cells falses 4)) := by
        refine ⟨fun _ => Grew.trans (w1 n7) hb, fun _ _ => ⟨_, rfl, Below.size (w1 n7), World.alloc_heap_new w' _⟩, fun h6 _ => ?_, fun h => ?_, fun h => ?_⟩
        · obtain ⟨p, b, e, h1, h2, h3⟩ := w3 (by simpa using h6) n7
          exact ⟨p, b, e, (hb.block p (Array.getElem?_eq_some_iff.1 h1).1).trans h1, (hb.block b (Array.getElem?_eq_some_iff.1 h2).1).trans h2, h3⟩
        · have h' : L 7 = true := by simpa using h
          rw [n7] at h'
          cases h'
        · have h' : L 10 = true := by simpa using h
          rw [n10] at h'
          cases h'
      exact (fin ((.tuple #[.slice (some ⟨w'.heap.size, 0, none⟩) 202 202, tupV u 1, tupV u 2])) _ _ (fun _ => rfl) (fun j hj => by
        rcases j with _ | _ | _ | _ | _ | _ | _ | _ | _ | _ | _ | j <;> first | rfl | exact Bool.noConfusion (hj.symm.trans hLi) | exact Bool.noConfusion (hj.symm.trans (not_yetF hcl 30 (by kernel_rfl) hLi))) (hW2))
    · rintro o ho L u a' w' hLi hpre hcl hR hW fin
      have hio := (nthO_eq _ _).symm.trans ho
      cases ho
      have q5 : a'.tmps.getD 17 undef = tupV u 0 := hR.val 5 _ 17 rfl rfl (edge_ofF hpre 5 rfl)
      obtain ⟨w1, w2, w3, w4, w5⟩ := hW
      have n7 : L 7 = false := not_yetF hcl 30 (show reachB opsRn 30 7 6 = true by kernel_rfl) hLi
      have n10 : L 10 = false := not_yetF hcl 30 (show reachB opsRn 30 10 6 = true by kernel_rfl) hLi
      obtain ⟨b, e0, hbB, hbk⟩ := w2 (edge_ofF hpre 5 rfl) n7
      have hb : Below w'.heap.size w' (w'.alloc (.cells #[.slice (some ⟨b, 0, none⟩) 202 202] 46)) := (Below.refl _ _).alloc (Nat.le_refl _) _
      have q5' := q5.trans e0
      refine step_run hio rfl (by intro c h; cases h) (by simp [Oper.about]) (v := .slice (some ⟨w'.heap.size, 0, none⟩) 1 1) (w' := w'.alloc (.cells #[.slice (some ⟨b, 0, none⟩) 202 202] 46)) (by
        have hr : (Instr.buildSlice 36 1 #[(0, .slice (some ⟨b, 0, none⟩) 202 202)]).run Try.prog w' = .ok (.slice (some ⟨w'.heap.size, 0, none⟩) 1 1) (w'.alloc (.cells #[.slice (some ⟨b, 0, none⟩) 202 202] 46)) := by simp [go_sem, Instr.buildSlice]
        have q5'' : a'.eval (.tmp 17) = .slice (some ⟨b, 0, none⟩) 202 202 := q5'
        simp only [execOp, List.map_toArray, List.map_cons, List.map_nil, q5'', hr, Sem.run_bind, Result.andThen_ok, Sem.run_pure]) ?_
      have hW2 : wsRn q B n v0 vs w.drew (fun j => L j || j == 6) (.tuple #[tupV u 0, .slice (some ⟨w'.heap.size, 0, none⟩) 1 1, tupV u 2]) (w'.alloc (.cells #[.slice (some ⟨b, 0, none⟩) 202 202] 46)) := by
        refine ⟨fun _ => Grew.trans (w1 n7) hb, fun _ _ => ⟨b, e0, hbB, (hb.block b (Array.getElem?_eq_some_iff.1 hbk).1).trans hbk⟩, fun _ _ => ⟨_, b, rfl, World.alloc_heap_new w' _, (hb.block b (Array.getElem?_eq_some_iff.1 hbk).1).trans hbk, hbB⟩, fun h => ?_, fun h => ?_⟩
        · have h' : L 7 = true := by simpa using h
          rw [n7] at h'
          cases h'
        · have h' : L 10 = true := by simpa using h
          rw [n10] at h'
          cases h'
      exact (fin ((.tuple #[tupV u 0, .slice (some ⟨w'.heap.size, 0, none⟩) 1 1, tupV u 2])) _ _ (fun _ => rfl) (fun j hj => by
        rcases j with _ | _ | _ | _ | _ | _ | _ | _ | _ | _ | _ | j <;> first | rfl | exact Bool.noConfusion (hj.symm.trans hLi) | exact Bool.noConfusion (hj.symm.trans (not_yetF hcl 30 (by kernel_rfl) hLi))) (hW2))
    · rintro o ho L u a' w' hLi hpre hcl hR hW fin
      have hio := (nthO_eq _ _).symm.trans ho
      cases ho
      have q4 : a'.tmps.getD 16 undef = v0 := hR.val 4 _ 16 rfl rfl (edge_ofF hpre 4 rfl)
      have q6 : a'.tmps.getD 18 undef = tupV u 1 := hR.val 6 _ 18 rfl rfl (edge_ofF hpre 6 rfl)
      obtain ⟨w1, w2, w3, w4, w5⟩ := hW
      have n10 : L 10 = false := not_yetF hcl 30 (show reachB opsRn 30 10 7 = true by kernel_rfl) hLi
      obtain ⟨i0, hi, hz0, hz1, hz2⟩ := infoBoS_parts
      obtain ⟨p, b, e6, hpk, hbk, hbB⟩ := w3 (edge_ofF hpre 6 rfl) hLi
      have hg := w1 hLi
      obtain ⟨v', w'', hrun, ho', hg', _, _⟩ := run_append_own_at (P := Try.prog) w' B 36 36 46 i0 _ 1 24 Try.underlying36 hi hz0 hz1 hz2 rfl (by omega) v0 n vs (own_below hown hg) ⟨p, 0, none⟩ 1 1 [.slice (some ⟨b, 0, none⟩) 202 202] (by simp) (fun j y hj => by
        match j, hj with
        | 0, hj => cases hj; exact (blk_cell hpk 0).trans rfl
        | j + 1, hj => simp at hj) (by simp [Value.oneCell']) (by simp only [maxLen]; omega) (by omega) (Nat.le_trans hB (Below.size hg))
      have q6' := q6.trans e6
      refine step_run hio rfl (by intro c h; cases h) (by simp [Oper.about, resolve, Target.leads, Sem.run_pure]) (v := v') (w' := w'') (by
        unfold execOp
        simp only [resolve, invoke, builtin, Sem.run_bind, Sem.run_pure, Result.andThen_ok, List.map_toArray, List.map_cons, List.map_nil, Act.eval, q4, q6', hrun]) ?_
      have hbw := (Array.getElem?_eq_some_iff.1 hbk).1
      have hb2 : w''.heap[b]? = some (.cells falses 4 (0, 0)) := (hg'.block b hbw (fun e => by
        rcases (own_below hown hg).2 with ⟨e2, _⟩ | ⟨g', cap', cur, e2, _, hgg, _⟩
        · rw [e2] at e; cases e
        · rw [e2] at e
          have : b = g' := by simpa [Value.ownBlock] using e
          rw [this, hgg] at hbk
          cases hbk)).trans hbk
      have hW2 : wsRn q B n v0 vs w.drew (fun j => L j || j == 7) (.tuple #[tupV u 0, tupV u 1, v']) w'' := by
        refine ⟨fun h => ?_, fun _ h => ?_, fun _ h => ?_, fun _ _ => ⟨b, hbB, hb2, ho', Nat.le_trans (Below.size hg) hg'.size, grownBy_trans (grownBy_of_below hg) hg'⟩, fun h => ?_⟩
        · simp at h
        · simp at h
        · simp at h
        · have h' : L 10 = true := by simpa using h
          rw [n10] at h'
          cases h'
      exact (fin ((.tuple #[tupV u 0, tupV u 1, v'])) _ _ (fun _ => rfl) (fun j hj => by
        rcases j with _ | _ | _ | _ | _ | _ | _ | _ | _ | _ | _ | j <;> first | rfl | exact Bool.noConfusion (hj.symm.trans hLi) | exact Bool.noConfusion (hj.symm.trans (not_yetF hcl 30 (by kernel_rfl) hLi))) (hW2))
    · rintro o ho L u a' w' hLi hpre hcl hR hW fin
      have hio := (nthO_eq _ _).symm.trans ho
      cases ho
      have q9 : a'.tmps.getD 21 undef = .pointer (some ⟨q, 0 + 0, none⟩) := hR.val 9 _ 21 rfl rfl (edge_ofF hpre 9 rfl)
      have q7 : a'.tmps.getD 19 undef = tupV u 2 := hR.val 7 _ 19 rfl rfl (edge_ofF hpre 7 rfl)
      obtain ⟨w1, w2, w3, w4, w5⟩ := hW
      have hq7 := w4 (edge_ofF hpre 7 rfl) hLi
      have hx1 : a'.eval (.tmp 21) = .pointer (some ⟨q, 0 + 0, none⟩) := q9
      have hx2 : a'.eval (.tmp 19) = tupV u 2 := q7
      obtain ⟨b, h1, h2, h3, h4, h5⟩ := hq7
      have hqn : v0.ownBlock ≠ some q := fun e => by
        rcases hown.2 with ⟨e2, _⟩ | ⟨g', cap', cur, e2, _, hgg, _⟩
        · rw [e2] at e; cases e
        · rw [e2] at e
          have : g' = q := by simpa [Value.ownBlock] using e
          rw [this] at hgg
          have := hgg.symm.trans kq
          cases this
      have kq2 := (h5.block q (Array.getElem?_eq_some_iff.1 kq).1 (Ne.symm hqn)).trans kq
      have c8 := blk_cell kq2 0
      have f8 := blk_frozen kq2 0
      obtain ⟨Av, cv, ev⟩ : ∃ A c, tupV u 2 = .slice A (n + 1) c := by
        rcases h3.2 with ⟨e, e2⟩ | ⟨g', cap', cur, e, _⟩
        · omega
        · exact ⟨_, _, e⟩
      have hst : (Instr.storeAt 36 (.pointer (some ⟨q, 0 + 0, none⟩)) (tupV u 2)).run Try.prog w' = .ok () (w'.setCell ⟨q, 0, none⟩ (tupV u 2)) := by
        rw [ev]
        simp [go_sem, c8, f8]
      refine step_skip hio rfl (by intro c h; cases h) (by simp [Oper.about]) (w' := w'.setCell ⟨q, 0, none⟩ (tupV u 2)) (by
        unfold execOp
        simp only [hx1, hx2, Sem.run_bind, hst, Result.andThen_ok]
        rfl) ?_
      have hW2 : wsRn q B n v0 vs w.drew (fun j => L j || j == 10) u (w'.setCell ⟨q, 0, none⟩ (tupV u 2)) := by
        refine ⟨fun h => ?_, fun _ h => ?_, fun _ h => ?_, fun _ h => ?_, fun _ => ⟨w', _, ⟨b, h1, h2, h3, h4, h5⟩, rfl⟩⟩
        · have h' : L 7 = false := by simpa using h
          rw [edge_ofF hpre 7 rfl] at h'
          cases h'
        · have h' : L 7 = false := by simpa using h
          rw [edge_ofF hpre 7 rfl] at h'
          cases h'
        · have h' : L 7 = false := by simpa using h
          rw [edge_ofF hpre 7 rfl] at h'
          cases h'
        · simp at h
      exact (fin (u) _ _ (fun h => (by cases h)) (fun _ _ => rfl) (hW2))
  · intro L u w' hl hW
    refine hQ u w' ?_
    unfold wsRn at hW ⊢
    simp only [hl 5 (Nat.le_of_ble_eq_true rfl), hl 6 (Nat.le_of_ble_eq_true rfl), hl 7 (Nat.le_of_ble_eq_true rfl), hl 10 (Nat.le_of_ble_eq_true rfl)] at hW ⊢
    exact hW
end Go.Proofs.Ytnpkaljmncehhaa
