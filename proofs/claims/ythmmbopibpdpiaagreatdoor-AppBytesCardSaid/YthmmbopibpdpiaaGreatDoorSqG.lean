/- Take of a table of sessions; Put and Take as the walks want them. -/
import Derived.Test.YthmmbopibpdpiaaGreatDoorMSqY
import Derived.Test.YthmmbopibpdpiaaGreatDoorMSqR
namespace Go.Proofs.YthmmbopibpdpiaaGreatDoor
open Go.RowKit Go.Maps

theorem ChgS.sameT {W W' : World} {S : Nat} {p : Option Nat} {l l' : List SE} (h : StQS W S p l) (hc : ChgS W W' S p l') : SameT [97] W W' := fun i cs t ht hi => (hc.only.block i (Array.getElem?_eq_some_iff.1 hi).1 (fun e => by
  rcases e with e | e
  · have := h.cell
    rw [← e, hi] at this
    have h2 := Option.some.inj this
    injection h2 with _ h3 _
    exact ht (by rw [h3]; simp)
  · obtain ⟨es, clock, hb⟩ := h.map.blk e
    rw [hi] at hb
    cases hb)).trans hi
theorem wrap32n {m : Nat} (h : m < 4294967296) : IntKind.u32.wrap (m : Int) = (m : Int) := by rw [IntKind.wrap_u32]; omega
theorem wrap8n {m : Nat} (h : m < 256) : IntKind.u8.wrap (m : Int) = (m : Int) := by rw [IntKind.wrap_u8]; omega
set_option maxRecDepth 100000 in
set_option maxHeartbeats 8000000 in
theorem take_anyS (lim b : Nat) (hlim : lim ≤ 9223372036854775807) (hb : lim ≤ b ∨ 20000 ≤ b) (R : Nat) (s0 : RdS) (h0 : s0.e = 0 ∨ s0.e = 10 ∨ s0.e = 11) (w : World) (hbs : s0.bs.length ≤ 20000) (h : RdQ w R lim s0) :
    Calls Tryz.prog 13 #[.pointer (some ⟨R, 0, none⟩)] w fun e W' => ∃ (n : Nat) (l : List SE) (rest : List UInt8), TakeB b s0.bs l rest n ∧ w.grownBy W' (some R) ∧
    ((n = 0 ∧ ∃ F S, e = .returned (.tuple #[.pointer (some ⟨S, 0, none⟩), .int .i64 0]) ∧ PlQS F W' S l ∧ (∀ k, F k → w.heap.size ≤ k) ∧ RdQ W' R lim ⟨0, rest⟩) ∨ (n ≠ 0 ∧ e = .returned (.tuple #[.pointer none, .int .i64 (n : Int)]))) := by
  have HTR := Lib.hid (takeS_of lim b hb s0 h0 hbs)
  have HTP := Lib.hid (takeRows_any lim hlim R s0 w (by omega) h)
  have hRw := h.lt
  have htx : (readS lim s0).2.e = 0 → ∀ e ∈ (readS lim s0).1, e.tx.size ≤ 100000 := fun hz e he => by
    have h1 := Puts.many (Puts.row lim) (uR s0).1 (uR s0).2 hz
    have h2 := Puts.u s0 h1.1
    have h3 := congrArg List.length h1.2.1
    have h4 := congrArg List.length h2.2
    rw [List.length_append] at h3 h4
    have h5 := mem_flat (l := (manyR (rowR lim) (uR s0).1 (uR s0).2).1) he
    have h7 : s0.bs.length = s0.bs.length := rfl
    omega
  obtain ⟨l, hl⟩ : ∃ l, l = (readS lim s0).1 := ⟨_, rfl⟩
  obtain ⟨s, hs⟩ : ∃ s, s = (readS lim s0).2 := ⟨_, rfl⟩
  rw [← hl, ← hs] at htx
  rw [← hl, ← hs] at HTR HTP
  have hlen : s.e = 0 → l.length ≤ 500000 := fun he => by
    have h1 := Puts.many (Puts.row lim) (uR s0).1 (uR s0).2 (show (readS lim s0).2.e = 0 by rw [← hs]; exact he)
    have h2 := Puts.u s0 h1.1
    have h3 := congrArg List.length h1.2.1
    have h4 := congrArg List.length h2.2
    rw [List.length_append] at h3 h4
    have h5 := ones_flat (manyR (rowR lim) (uR s0).1 (uR s0).2).1
    have h6 : l = (manyR (rowR lim) (uR s0).1 (uR s0).2).1 := hl
    rw [h6]
    have h7 : s0.bs.length = s0.bs.length := rfl
    omega
  have HLN := Lib.hid (And.intro hlen (And.intro hRw htx))
  clear hl hs hlen h hbs hRw htx hb h0
  go_enter Tryz.func13, Tryz.ntmps13
  go_wp2_with fail
  refine HTP.out.mono ?_
  rintro e W1 ⟨v, rfl, ho1, hq1, hg1⟩
  have HE := Lib.hid (ErrR_q hq1)
  have H1 := Lib.hid (And.intro ho1 (And.intro hq1 hg1))
  clear ho1 hq1 hg1 HTP
  go_wp2_with fail
  refine HE.out.mono ?_
  rintro e W2 ⟨rfl, rfl⟩
  by_cases he : s.e = 0
  · have hei : (s.e : Int) = 0 := by omega
    rw [hei]
    have HOW := Lib.hid (H1.out.1 he)
    obtain ⟨A1, c1, rfl, hc1⟩ := OwnW.form HOW.out
    obtain ⟨L, hL⟩ : ∃ L, L = l.length := ⟨_, rfl⟩
    rw [← hL] at hc1 ⊢
    have hL5 : L ≤ 500000 := by rw [hL]; exact HLN.out.1 he
    have hLi : (L : Int) ≤ 500000 := by omega
    have HL := Lib.hid hL
    have HFT := Lib.hid (fit_anyS A1 L c1 l W1 hL (by omega) (OwnW.has HOW.out))
    have HSE := Lib.hid he
    obtain ⟨f, hf⟩ : ∃ f, f = fitFS 0 l := ⟨_, rfl⟩
    rw [← hf] at HFT
    have HF := Lib.hid hf
    clear hei hL hL5 he hf HE hc1
    go_wp2_with fail
    refine HFT.out.mono ?_
    rintro e W3 ⟨rfl, hb3⟩
    have own3 := OwnW.below HOW.out hb3
    have rd3 := H1.out.2.1.below hb3
    have gr3 : w.grownBy W3 (some R) := grownBy_trans H1.out.2.2 (by have := grownBy_of_below (r := some R) hb3; exact this)
    have H3 := Lib.hid (And.intro (show OwnW w.heap.size W3 (.slice A1 l.length c1) l from own3) (And.intro rd3 gr3))
    clear hb3 own3 rd3 gr3 HFT
    cases f with
    | false =>
      go_wp2
      go_ret2
      refine ⟨11, l, s.bs, ?_, H3.out.2.2, .inr ⟨by decide, rfl⟩⟩
      have := HTR.out
      rw [if_neg (by simpa using HSE.out), ← HF.out] at this
      exact this
    | true =>
      obtain ⟨f1, f2, f3⟩ := fit_sortedS _ _ HF.out.symm
      have HFS := Lib.hid (And.intro f1 f3)
      clear f1 f2 f3
      go_wp2_with fail
      refine (new_anyS W3).mono ?_
      rintro e W4 ⟨rfl, hw4⟩
      have hb4 : Below W3.heap.size W3 W4 := by rw [hw4]; exact (Below.refl _ W3).alloc (Nat.le_refl _) _
      have st4 : StQS W4 W3.heap.size none [] := by rw [hw4]; exact ⟨World.alloc_heap_new W3 _, rfl⟩
      obtain ⟨S, hS⟩ : ∃ S, S = W3.heap.size := ⟨_, rfl⟩
      rw [← hS] at st4 ⊢
      have H4 := Lib.hid (And.intro st4 (And.intro (OwnW.below H3.out.1 hb4) (And.intro (H3.out.2.1.below hb4) (And.intro (show w.grownBy W4 (some R) from grownBy_trans H3.out.2.2 (by have := grownBy_of_below (r := some R) hb4; exact this)) (show w.heap.size ≤ S by rw [hS]; exact H3.out.2.2.size)))))
      clear hb4 st4 hw4 hS
      go_wp2
      go_loopw [22] (fun i wr => ∃ j : Nat, j ≤ L ∧ i = .int .i64 (j : Int) ∧ Hid ((∃ p, StQS wr S p (l.take j) ∧ ∀ b, p = some b → w.heap.size ≤ b) ∧ OwnW w.heap.size wr (.slice A1 l.length c1) l ∧ RdQ wr R lim s ∧ w.grownBy wr (some R))) (fun i _ => L - (intOf i).toNat)
      case atStart => exact ⟨0, Nat.zero_le _, rfl, Lib.hid ⟨⟨none, H4.out.1, fun b e => (by cases e)⟩, H4.out.2.1, H4.out.2.2.1, H4.out.2.2.2.1⟩⟩
      case round =>
        obtain ⟨j, hj, rfl, HJ⟩ := hrel
        by_cases hlt : j < L
        · have hji : (j : Int) < L := by omega
          have hj1 : j < l.length := by have := HL.out; omega
          obtain ⟨b, o, e1, l1, f1⟩ := (OwnW.has HJ.out.2.1) (by rintro rfl; simp at hj1)
          subst e1
          obtain ⟨g1, g2, g3, g4⟩ := f1 j hj1
          have hst := set_take HFS.out.1 hj1
          have hz := HFS.out.2 l[j] (List.getElem_mem hj1)
          have hzt := HLN.out.2.2 HSE.out l[j] (List.getElem_mem hj1)
          obtain ⟨⟨cl, sq, cd, tx⟩, he⟩ : ∃ e, e = l[j] := ⟨_, rfl⟩
          rw [← he] at g1 g2 g3 g4 hst hz hzt
          simp only at g1 g2 g3 g4 hz hzt
          obtain ⟨q, hq⟩ : ∃ q, q = wr.heap.size := ⟨_, rfl⟩
          obtain ⟨W5, hW5⟩ : ∃ W5, W5 = wr.alloc (Obj.cells #[.int .u64 (cl : Int), .int .u64 (sq : Int), .int .u64 (cd : Int), .string tx] 79) := ⟨_, rfl⟩
          have hB5 : Below wr.heap.size wr W5 := by rw [hW5]; exact (Below.refl _ wr).alloc (Nat.le_refl _) _
          have k5 : W5.heap[q]? = some (.cells #[.int .u64 (cl : Int), .int .u64 (sq : Int), .int .u64 (cd : Int), .string tx] 79 (0, 0)) := by rw [hW5, hq]; exact World.alloc_heap_new wr _
          have c0 : W5.cell? ⟨q, 0, none⟩ = some (.int .u64 (cl : Int)) := by simpa using blk_cell k5 0
          have c1' : W5.cell? ⟨q, 1, none⟩ = some (.int .u64 (sq : Int)) := by simpa using blk_cell k5 1
          have c2' : W5.cell? ⟨q, 2, none⟩ = some (.int .u64 (cd : Int)) := by simpa using blk_cell k5 2
          have c3' : W5.cell? ⟨q, 3, none⟩ = some (.string tx) := by simpa using blk_cell k5 3
          have w1 := wrap32n (m := cl) (by omega)
          have w2 := wrap32n (m := sq) (by omega)
          have w3 := wrap8n (m := cd) (by omega)
          obtain ⟨p, st, hp⟩ := HJ.out.1
          have st5 := st.below hB5
          have HST := Lib.hid (set_anyS st5 (List.Pairwise.sublist (List.take_sublist _ _) HFS.out.1) (by rw [List.length_take]; omega) ⟨cl, sq, cd, tx⟩ (by simp only; omega) (by simp only [maxLen]; omega))
          rw [hst] at HST
          have H5 := Lib.hid (And.intro st5 (And.intro hp (And.intro (OwnW.below HJ.out.2.1 hB5) (And.intro (HJ.out.2.2.1.below hB5) (show w.grownBy W5 (some R) from grownBy_trans HJ.out.2.2.2 (by have := grownBy_of_below (r := some R) hB5; exact this))))))
          simp only [sessV] at HST
          clear f1 l1 he hB5 k5 st hp st5 hz hzt hst
          go_upto_region 11 with (fail)
          rw [← hq, ← hW5]
          clear g1 g2 g3 g4 hq hW5
          go_wp2_with fail
          refine HST.out.mono ?_
          rintro e W6 ⟨rfl, h6⟩
          have hs6 := ChgS.sameT H5.out.1 h6
          obtain ⟨p', st6, hp'⟩ := h6.ex
          have hg6 : w.grownBy W6 (some R) := ⟨h6.only.os.trans H5.out.2.2.2.2.os, h6.only.tape.trans H5.out.2.2.2.2.tape, h6.only.output.trans H5.out.2.2.2.2.output, Nat.le_trans H5.out.2.2.2.2.size h6.only.size, fun x hx hne => (h6.only.block x (Nat.lt_of_lt_of_le hx H5.out.2.2.2.2.size) (fun e => by
            rcases e with e | e
            · have := H4.out.2.2.2.2; omega
            · have := H5.out.2.1 x e; omega)).trans (H5.out.2.2.2.2.block x hx hne)⟩
          have H6 := Lib.hid (And.intro (show ∃ p, StQS W6 S p (l.take (j + 1)) ∧ ∀ b, p = some b → w.heap.size ≤ b from ⟨p', st6, fun x e => by
            rcases hp' x e with e' | e'
            · exact H5.out.2.1 x e'
            · exact Nat.le_trans H5.out.2.2.2.2.size e'⟩) (And.intro (OwnW.same H5.out.2.2.1 hs6 (by decide)) (And.intro (H5.out.2.2.2.1.sameK hs6 (by decide) (by decide)) hg6)))
          clear h6 hs6 st6 hp' hg6 HST
          go_wp2
          exact ⟨⟨j + 1, by omega, by congr 1, H6⟩, by simp only [intOf]; omega⟩
        · have hji : ¬ (j : Int) < L := by omega
          obtain rfl : j = L := by omega
          obtain ⟨⟨p, st, hp⟩, _, hrd, hgr⟩ := HJ.out
          rw [List.take_of_length_le (by have := HL.out; omega)] at st
          have HF9 := Lib.hid (And.intro st (And.intro hp (And.intro hrd hgr)))
          clear st hp hrd hgr
          go_wp2
          go_ret2
          refine ⟨0, l, s.bs, ?_, HF9.out.2.2.2, .inl ⟨rfl, _, S, rfl, PlQS.mk HF9.out.1 HFS.out.1, fun k hk => ?_, ?_⟩⟩
          · have := HTR.out
            rw [if_neg (by simpa using HSE.out), ← HF.out] at this
            exact this
          · rcases hk with e | e
            · rw [e]; exact H4.out.2.2.2.2
            · exact HF9.out.2.1 k e
          · have hr := HF9.out.2.2.1
            have he0 := HSE.out
            obtain ⟨se, sb⟩ := s
            simp only at he0
            subst he0
            exact hr
  · have hne : ¬ (s.e : Int) = 0 := by omega
    have hneb : ((s.e : Int) == 0) = false := by simpa using hne
    have HSE := Lib.hid he
    obtain ⟨E, hE⟩ : ∃ E, E = s.e := ⟨_, rfl⟩
    rw [← hE] at hne hneb ⊢
    have hnb : ((E : Int) != 0) = true := by simp; omega
    have HE' := Lib.hid hE
    clear he hE HE
    go_wp2
    go_ret2
    refine ⟨s.e, l, s.bs, ?_, H1.out.2.2, .inr ⟨HSE.out, by rw [← HE'.out]; rfl⟩⟩
    have := HTR.out
    rw [if_pos HSE.out] at this
    exact this
/-- Put and Take. -/
theorem lSessP : SessKP lSess where
  put := fun {_ w _ _} ⟨_, h, hs, _⟩ _ hl hbl => put_anyS none 0 0 [] h hs hl (by decide) hbl rfl (by decide) (HasA.nil _ _ _)
  take := fun R bs w _ hbs h => take_anyS 100 1000 (by decide) (.inl (by decide)) R ⟨0, bs⟩ (.inl rfl) w hbs h
end Go.Proofs.YthmmbopibpdpiaaGreatDoor
