/- The document's own Spans. -/
import Derived.Test.YtnpkaljmncehhaaVoRs
namespace Go.Proofs.Ytnpkaljmncehhaa
open Go.RowKit

theorem canon_snoc : ∀ {l : List (Nat × Nat)} {p : Nat × Nat}, Canon l → p.1 ≤ p.2 → (∀ q ∈ l, q.2 + 1 < p.1) → Canon (l ++ [p])
  | [], p, _, h, _ => ⟨h, (fun _ h => by cases h), trivial⟩
  | a :: l, p, hl, h, hq => ⟨hl.1, fun x hx => by
    rcases List.mem_append.1 hx with hx | hx
    · exact hl.2.1 x hx
    · simp only [List.mem_cons, List.not_mem_nil, or_false] at hx
      subst hx
      exact hq a List.mem_cons_self, canon_snoc hl.2.2 h fun x hx => hq x (List.mem_cons_of_mem _ hx)⟩
theorem canon_init : ∀ {l : List (Nat × Nat)} {p : Nat × Nat}, Canon (l ++ [p]) → Canon l ∧ p.1 ≤ p.2 ∧ ∀ q ∈ l, q.2 + 1 < p.1
  | [], p, h => ⟨trivial, h.1, fun _ h => by cases h⟩
  | a :: l, p, h => by
    obtain ⟨h1, h2, h3⟩ := canon_init (l := l) (p := p) h.2.2
    refine ⟨⟨h.1, fun x hx => h.2.1 x (List.mem_append_left _ hx), h1⟩, h2, fun x hx => ?_⟩
    rcases List.mem_cons.1 hx with rfl | hx
    · exact h.2.1 p (List.mem_append_right _ List.mem_cons_self)
    · exact h3 x hx
theorem inSp_snoc {l : List (Nat × Nat)} {p : Nat × Nat} {s : Nat} : inSp (l ++ [p]) s ↔ inSp l s ∨ (p.1 ≤ s ∧ s ≤ p.2) := by
  constructor
  · rintro ⟨x, hx, h⟩
    rcases List.mem_append.1 hx with hx | hx
    · exact .inl ⟨x, hx, h⟩
    · simp only [List.mem_cons, List.not_mem_nil, or_false] at hx
      subst hx
      exact .inr h
  · rintro (⟨x, hx, h⟩ | h)
    · exact ⟨x, List.mem_append_left _ hx, h⟩
    · exact ⟨p, List.mem_append_right _ List.mem_cons_self, h⟩
/-- The spans of what is below a slot. -/
structure SpTo (P : Nat → Bool) (i : Nat) (l : List (Nat × Nat)) : Prop where
  canon : Canon l
  mem : ∀ s, inSp l s ↔ (P s = true ∧ s < i)
theorem SpTo.skip {P : Nat → Bool} {i : Nat} {l : List (Nat × Nat)} (h : SpTo P i l) (hp : P i = false) : SpTo P (i + 1) l := ⟨h.canon, fun s => by
  rw [h.mem]
  constructor
  · exact fun ⟨h1, h2⟩ => ⟨h1, by omega⟩
  · rintro ⟨h1, h2⟩
    refine ⟨h1, ?_⟩
    by_cases e : s = i
    · rw [e, hp] at h1; cases h1
    · omega⟩
theorem SpTo.last_lt {P : Nat → Bool} {i : Nat} {l : List (Nat × Nat)} {p : Nat × Nat} (h : SpTo P i (l ++ [p])) : p.1 ≤ p.2 ∧ p.2 < i := by
  have hc := (canon_init h.canon).2.1
  exact ⟨hc, ((h.mem p.2).1 (inSp_snoc.2 (.inr ⟨hc, Nat.le_refl _⟩))).2⟩
theorem SpTo.grow {P : Nat → Bool} {i : Nat} {l : List (Nat × Nat)} {p : Nat × Nat} (h : SpTo P i (l ++ [p])) (hp : P i = true) (he : p.2 + 1 = i) : SpTo P (i + 1) (l ++ [(p.1, i)]) := by
  obtain ⟨c1, c2, c3⟩ := canon_init h.canon
  refine ⟨canon_snoc c1 (show p.1 ≤ i by omega) c3, fun s => ?_⟩
  have hm := h.mem s
  rw [inSp_snoc] at hm ⊢
  constructor
  · rintro (h1 | ⟨h1, h2⟩)
    · obtain ⟨g1, g2⟩ := hm.1 (.inl h1)
      exact ⟨g1, by omega⟩
    · dsimp only at h1 h2
      by_cases e : s = i
      · rw [e]; exact ⟨hp, by omega⟩
      · obtain ⟨g1, g2⟩ := hm.1 (.inr ⟨h1, by omega⟩)
        exact ⟨g1, by omega⟩
  · rintro ⟨h1, h2⟩
    by_cases e : s = i
    · exact .inr ⟨show p.1 ≤ s by omega, show s ≤ i by omega⟩
    · rcases hm.2 ⟨h1, by omega⟩ with h3 | ⟨h3, h4⟩
      · exact .inl h3
      · exact .inr ⟨h3, show s ≤ i by omega⟩
theorem SpTo.new {P : Nat → Bool} {i : Nat} {l : List (Nat × Nat)} (h : SpTo P i l) (hp : P i = true) (hl : ∀ l' p, l = l' ++ [p] → ¬ p.2 + 1 = i) : SpTo P (i + 1) (l ++ [(i, i)]) := by
  have hlt : ∀ q ∈ l, q.2 + 1 < i := by
    rcases List.eq_nil_or_concat l with rfl | ⟨l', p, rfl⟩
    · intro q hq; cases hq
    · rw [List.concat_eq_append] at *
      have h1 := hl l' p rfl
      obtain ⟨h2, h3⟩ := h.last_lt
      obtain ⟨_, _, c3⟩ := canon_init h.canon
      intro q hq
      rcases List.mem_append.1 hq with hq | hq
      · have := c3 q hq
        omega
      · simp only [List.mem_cons, List.not_mem_nil, or_false] at hq
        subst hq
        omega
  refine ⟨canon_snoc h.canon (Nat.le_refl _) hlt, fun s => ?_⟩
  rw [inSp_snoc, h.mem]
  constructor
  · rintro (⟨h1, h2⟩ | ⟨h1, h2⟩)
    · exact ⟨h1, by omega⟩
    · have e : s = i := by dsimp only at h1 h2; omega
      rw [e]; exact ⟨hp, by omega⟩
  · rintro ⟨h1, h2⟩
    by_cases e : s = i
    · exact .inr ⟨show i ≤ s by omega, show s ≤ i by omega⟩
    · exact .inl ⟨h1, by omega⟩
theorem infoI2 : (Try.prog.info? 68).map (fun i => (i.zero, i.size, i.bytes)) = some (some (.agg #[.int .i64 0, .int .i64 0]), 2, 16) := by kernel_rfl
theorem infoI2_parts : ∃ i, Try.prog.info? 68 = some i ∧ i.zero = some (.agg #[.int .i64 0, .int .i64 0]) ∧ i.size = 2 ∧ i.bytes = 16 := by
  have h := infoI2
  cases hi : Try.prog.info? 68 with
  | none => rw [hi] at h; cases h
  | some i => rw [hi] at h; simp at h; exact ⟨i, rfl, h.1, h.2.1, h.2.2⟩
theorem wpList_append_I2 {ops : Array Oper} {rest : List Oper} {o : Oper} {a : Act} {w : World} {Q : Exit → Act → World → Prop} (hgd : o.guard = none) (s x : Operand)
    (ho : o.op = .call { callee := .builtin .append, args := #[s, x], argTypes := #[65, 65] }) (base : Nat) (v : Value) (l : List (Nat × Nat)) (hs : a.eval s = v) (hown : OwnI2 base w v l)
    (p c : Nat) (y : Nat × Nat) (hx : a.eval x = .slice (some ⟨p, 0, none⟩) 1 c) (h0 : w.cell? ⟨p, 0, none⟩ = some (.int .i64 (y.1 : Int))) (h1 : w.cell? ⟨p, 1, none⟩ = some (.int .i64 (y.2 : Int))) (hlen : l.length + 1 ≤ 1000000) (hbase : base ≤ w.heap.size)
    (h : ∀ v' w', OwnI2 base w' v' (l ++ [y]) → w.grownBy w' v.ownBlock → wpList Try.prog ops Q rest (a.put o.dst v') w') : wpList Try.prog ops Q (o :: rest) a w := by
  obtain ⟨i, hi, hz, hsz, hby⟩ := infoI2_parts
  refine wpList_append_own_at w hgd s x 65 ho base 68 i _ 2 16 Try.underlying65 hi hz hsz hby rfl (by omega) v l.length (cellsI2 l) hs hown ⟨p, 0, none⟩ 1 c (cellsI2 [y]) hx rfl (fun j u hj => ?_) (cellsI2_one [y]) (by simp only [maxLen]; omega) (by omega) hbase ?_
  · rw [addr_add, Nat.zero_add]
    match j, hj with
    | 0, hj => cases hj; exact h0
    | 1, hj => cases hj; exact h1
    | j + 2, hj => simp [cellsI2] at hj
  · intro v' w' h1 h2 _ _
    refine h v' w' ?_ h2
    unfold OwnI2
    rw [cellsI2_append, List.length_append]
    exact h1
theorem OwnI2.lt {b : Nat} {w : World} {v : Value} {l : List (Nat × Nat)} (h : OwnI2 b w v l) : ∀ k, v.ownBlock = some k → b ≤ k := fun k e => by
  rcases h.2 with ⟨rfl, _⟩ | ⟨g, cap, cur, rfl, hb, hg, _⟩
  · cases e
  · cases e; exact hb
set_option maxRecDepth 100000 in
set_option maxHeartbeats 4000000 in
theorem refSpans_any {w W : World} {q g cap : Nat} {rb : Nat → Nat} {n F : Nat} {S : Nat → Nat → Bool} (h : RefV w q g cap rb n F S W) (hn : n ≤ 7) (hF : F ≤ 200) (r : Nat) (hr : r < n) : Calls Try.prog 23 #[.pointer (some ⟨q, 0, none⟩), .int .i64 (r : Int)] W fun e W' => ∃ A c sp, e = .returned (.slice A (List.length sp) c) ∧ SpTo (fun s => decide (F < s) && S r s) 201 sp ∧ HasI2 W' A sp ∧ Below W.heap.size W W' := by
  have HH := Lib.hid h
  have HN := Lib.hid (And.intro hn (And.intro hF hr))
  have hri : (r : Int) < n := by omega
  have hni : (n : Int) ≤ 7 := by omega
  have hFi : (F : Int) ≤ 200 := by omega
  have x1 := blk_cell h.kq 1
  simp at x1
  obtain ⟨P, hP⟩ : ∃ P : Nat → Bool, P = fun s => decide (F < s) && S r s := ⟨_, rfl⟩
  rw [← hP]
  have HP := Lib.hid hP
  clear h hn hF hP
  go_enter Try.func23, Try.ntmps23
  go_wp2
  clear x1
  go_loopw [5, 6] (fun v5 v6 wr => ∃ (i : Nat) (l : List (Nat × Nat)) (q5 : Value), F + 1 ≤ i ∧ i ≤ 201 ∧ v6 = .int .i64 (i : Int) ∧ q5 = v5 ∧ l.length ≤ i ∧ Hid (SpTo P i l) ∧ Hid (OwnI2 W.heap.size wr q5 l) ∧ Hid (Below W.heap.size W wr)) (fun _ i _ => 201 - (intOf i).toNat)
  case atStart => exact ⟨F + 1, [], _, Nat.le_refl _, by have := HN.out.2.1; omega, by congr 1, rfl, Nat.zero_le _, Lib.hid ⟨trivial, fun s => by
      rw [HP.out]
      constructor
      · rintro ⟨p, hp, _⟩; cases hp
      · rintro ⟨h1, h2⟩
        simp only [Bool.and_eq_true, decide_eq_true_eq] at h1
        omega⟩, Lib.hid (World.ownsRow_nil _ _ _ _), Lib.hid (Below.refl _ _)⟩
  case round =>
    obtain ⟨i, l, q5, hFi2, hi, rfl, rfl, hll, HS, HO, HB⟩ := hrel
    by_cases hlt : i ≤ 200
    · have hii : (i : Int) ≤ 200 := by omega
      have hii2 : (i : Int) < 202 := by omega
      have HV := HH.out.below HB.out
      have x0 := blk_cell HV.kq 0
      simp at x0
      have y0 := HV.row r HN.out.2.2
      have z0 := (blk_cell (HV.rows r HN.out.2.2) i).trans (boR_get _ (show i < 202 by omega))
      obtain ⟨b, hb⟩ : ∃ b, b = S r i := ⟨_, rfl⟩
      rw [← hb] at z0
      have hpi : P i = b := by rw [HP.out, hb]; simp; omega
      have HPI := Lib.hid hpi
      clear HV hb hpi
      cases b with
      | false =>
        have HS2 := Lib.hid (HS.out.skip HPI.out)
        go_wp2
        exact ⟨⟨i + 1, l, _, by omega, by omega, by congr 1, rfl, by omega, HS2, HO, HB⟩, by simp only [intOf]; omega⟩
      | true =>
        rcases List.eq_nil_or_concat l with rfl | ⟨l', p, hlp⟩
        · have HS2 := Lib.hid (HS.out.new HPI.out (fun l' p e => by simp at e))
          obtain ⟨A5, c5, rfl⟩ := HO.out.form
          obtain ⟨W6, hW6⟩ : ∃ V, V = wr.alloc (.cells #[.int .i64 (i : Int), .int .i64 (i : Int)] 68) := ⟨_, rfl⟩
          obtain ⟨b6, k6, s6⟩ := box2 hW6
          have H6 := Lib.hid (And.intro (HB.out.trans (Below.mono b6 HB.out.size)) (And.intro (HO.out.below b6) k6))
          clear b6 k6 s6
          go_wp2_with (at_builtin; rw [← hW6]; refine wpList_append_I2 rfl (.tmp 49) (.tmp 53) rfl W.heap.size _ [] rfl H6.out.2.1 wr.heap.size 1 (i, i) rfl (blk_cell H6.out.2.2 0) (blk_cell H6.out.2.2 1) (by decide) H6.out.1.size ?_; intro v7 W7 ho7 hg7)
          have HO7 := Lib.hid ho7
          have HB7 := Lib.hid (H6.out.1.grown hg7 H6.out.1.size fun k e => H6.out.2.1.lt k e)
          clear ho7 hg7
          go_wp2
          exact ⟨⟨i + 1, _, _, by omega, by omega, by congr 1, rfl, by simp, HS2, HO7, HB7⟩, by simp only [intOf]; omega⟩
        · rw [List.concat_eq_append] at hlp
          subst hlp
          obtain ⟨m, hm⟩ : ∃ m, m = l'.length := ⟨_, rfl⟩
          obtain ⟨A5, c5, rfl⟩ := HO.out.form
          have hlen : (l' ++ [p]).length = m + 1 := by rw [hm]; simp
          rw [hlen] at HO hll ⊢
          have hhas := HO.out.has
          obtain ⟨bg, og, eA, hbl, hc⟩ := hhas (by simp)
          subst eA
          have hz : og = 0 := by
            rcases HO.out.2 with ⟨e, _⟩ | ⟨g', cap', cur, e, _⟩
            · cases e
            · simp only [Value.slice.injEq, Option.some.injEq, Addr.mk.injEq] at e
              exact e.1.2.1
          subst hz
          have hgp : ((l' ++ [p])[m]'(by omega)) = p := by subst hm; simp
          have c1 : wr.cell? ⟨bg, m * 2 + 1, none⟩ = some (.int .i64 (p.2 : Int)) := by
            have := (hc m (by omega)).2
            rw [hgp, Nat.zero_add] at this
            exact this
          obtain ⟨pa, pe⟩ := p
          dsimp only at c1
          have hpe := HS.out.last_lt
          dsimp only at hpe
          have hmi : ((m + 1 : Nat) : Int) - 1 = (m : Int) := by omega
          have hm200 : m + 1 ≤ 201 := by omega
          have hmi2 : (m : Int) + 1 - 1 = (m : Int) := by omega
          have HM := Lib.hid hm
          clear hhas hc hgp hm
          by_cases he : pe + 1 = i
          · have hei : (pe : Int) = (i : Int) - 1 := by omega
            have HS2 := Lib.hid (HS.out.grow HPI.out he)
            obtain ⟨ho2, hbg, cur, hcur⟩ := HO.out.setLast HM.out i
            obtain ⟨V, hV⟩ : ∃ V, V = wr.setCell ⟨bg, m * 2 + 1, none⟩ (.int .i64 (i : Int)) := ⟨_, rfl⟩
            rw [← hV] at ho2
            have HO2 := Lib.hid ho2
            have HB2 : Hid (Below W.heap.size W V) := Lib.hid (by rw [hV]; exact HB.out.setCell (p := ⟨bg, m * 2 + 1, none⟩) hbg _)
            have u0 := blk_frozen hcur (m * 2 + 1)
            clear ho2 hbg hcur he hpe
            go_wp2
            rw [← hV]
            exact ⟨⟨i + 1, l' ++ [(pa, i)], _, by omega, by omega, by congr 1, rfl, by simp; have := HM.out; omega, HS2, HO2, HB2⟩, by simp only [intOf]; omega⟩
          · have hei : ¬ (pe : Int) = (i : Int) - 1 := by omega
            have HS2 := Lib.hid (HS.out.new HPI.out (fun l2 p2 e => by
              have e2 := List.append_inj_right' e rfl
              simp only [List.cons.injEq, and_true] at e2
              rw [← e2]
              exact he))
            obtain ⟨W6, hW6⟩ : ∃ V, V = wr.alloc (.cells #[.int .i64 (i : Int), .int .i64 (i : Int)] 68) := ⟨_, rfl⟩
            obtain ⟨b6, k6, s6⟩ := box2 hW6
            have H6 := Lib.hid (And.intro (HB.out.trans (Below.mono b6 HB.out.size)) (And.intro (HO.out.below b6) k6))
            clear b6 k6 s6 he hpe
            go_wp2_with (at_builtin; rw [← hW6]; refine wpList_append_I2 rfl (.tmp 49) (.tmp 53) rfl W.heap.size _ (l' ++ [(pa, pe)]) rfl H6.out.2.1 wr.heap.size 1 (i, i) rfl (blk_cell H6.out.2.2 0) (blk_cell H6.out.2.2 1) (by simp; have := HM.out; omega) H6.out.1.size ?_; intro v7 W7 ho7 hg7)
            have HO7 := Lib.hid ho7
            have HB7 := Lib.hid (H6.out.1.grown hg7 H6.out.1.size fun k e => H6.out.2.1.lt k e)
            clear ho7 hg7
            go_wp2
            exact ⟨⟨i + 1, _, _, by omega, by omega, by congr 1, rfl, by simp; have := HM.out; omega, HS2, HO7, HB7⟩, by simp only [intOf]; omega⟩
    · have hii : ¬ (i : Int) ≤ 200 := by omega
      have hi201 : i = 201 := by omega
      subst hi201
      obtain ⟨A5, c5, rfl⟩ := HO.out.form
      have HH2 := Lib.hid HO.out.has
      go_wp2
      go_ret
      exact ⟨_, _, l, rfl, HS.out, HH2.out, HB.out⟩
end Go.Proofs.Ytnpkaljmncehhaa
