/- The reference's pairs as they lie; With and Without. -/
import Derived.Test.YtooaobadnainkaaMBaseO
import Derived.Test.YtooaobadnainkaaCmSpec
import Derived.Deep.DeepCutAuto
import Derived.Maps.AppendAt
import Derived.IntWalk
import Derived.Test.YtooaobadnainkaaFoldMath
import Derived.Test.YtooaobadnainkaaMKvN
-- KvList
namespace Go.Proofs.Ytooaobadnainkaa
open Go.RowKit
theorem infoP : (Try.prog.info? 60).map (fun i => (i.zero, i.size, i.bytes)) = some (some (.agg #[.string ⟨#[]⟩, .string ⟨#[]⟩]), 2, 32) := by kernel_rfl
theorem infoP_parts : ∃ i, Try.prog.info? 60 = some i ∧ i.zero = some (.agg #[.string ⟨#[]⟩, .string ⟨#[]⟩]) ∧ i.size = 2 ∧ i.bytes = 32 := by
  have h := infoP
  cases hi : Try.prog.info? 60 with
  | none => rw [hi] at h; cases h
  | some i => rw [hi] at h; simp at h; exact ⟨i, rfl, h.1, h.2.1, h.2.2⟩
/-- Pairs that a call owns. -/
def OwnP (base : Nat) (w : World) (v : Value) (l : List PV) : Prop := w.ownsRow base 60 2 v l.length (cellsP l)
theorem OwnP.form {base : Nat} {w : World} {v : Value} {l : List PV} (h : OwnP base w v l) : ∃ A c, v = .slice A l.length c ∧ l.length ≤ c := by
  rcases h.2 with ⟨rfl, h0⟩ | ⟨g, cap, cur, rfl, _, _, hn, _⟩
  · exact ⟨none, 0, by rw [h0], by omega⟩
  · exact ⟨_, _, rfl, hn⟩
theorem OwnP.below {base : Nat} {w w' : World} {v : Value} {l : List PV} (h : OwnP base w v l) (hb : Below w.heap.size w w') : OwnP base w' v l := by
  refine World.ownsRow.kept h (grownBy_of_below (r := none) hb) ?_
  cases v.ownBlock with
  | none => exact .inl rfl
  | some x => exact .inr (by simp)
theorem OwnP.has {base : Nat} {w : World} {A : Option Addr} {n c : Nat} {l : List PV} (h : OwnP base w (.slice A n c) l) : HasP w A l := fun hl => by
  have hl' : 0 < l.length := List.length_pos_iff.2 hl
  rcases h.2 with ⟨e, h0⟩ | ⟨g, cap, cur, e, _, hg, hn, _⟩
  · omega
  · cases e
    refine ⟨g, 0, rfl, (Array.getElem?_eq_some_iff.1 hg).1, fun j hj => ?_⟩
    have c0 := World.ownsRow.cells h (g := g) rfl (j * 2) _ (cellsP_get l j hj).1
    have c1 := World.ownsRow.cells h (g := g) rfl (j * 2 + 1) _ (cellsP_get l j hj).2
    rw [addr_add] at c0 c1
    exact ⟨c0, by rw [Nat.add_assoc]; exact c1⟩
theorem OwnP.nil (base : Nat) (w : World) : OwnP base w (.slice none 0 0) [] := World.ownsRow_nil _ _ _ _
/-- An append of pairs to pairs that the call owns. -/
theorem wpList_append_P {ops : Array Oper} {rest : List Oper} {o : Oper} {a : Act} {w : World} {Q : Exit → Act → World → Prop} (hgd : o.guard = none) (s x : Operand)
    (ho : o.op = .call { callee := .builtin .append, args := #[s, x], argTypes := #[57, 57] }) (base : Nat) (v : Value) (l : List PV) (hs : a.eval s = v) (hown : OwnP base w v l)
    (A : Option Addr) (m c : Nat) (l2 : List PV) (hx : a.eval x = .slice A m c) (hm : m = l2.length) (hA : HasP w A l2) (hlen : l.length + m ≤ 1000000) (hbase : base ≤ w.heap.size)
    (h : ∀ v' w', OwnP base w' v' (l ++ l2) → w.grownBy w' v.ownBlock → wpList Try.prog ops Q rest (a.put o.dst v') w') : wpList Try.prog ops Q (o :: rest) a w := by
  obtain ⟨i, hi, hz, hsz, hby⟩ := infoP_parts
  by_cases h0 : l2 = []
  · subst h0
    obtain rfl : m = 0 := hm
    refine wpList_plain hgd fun K hK => ?_
    have hrun : (Builtin.append_ #[57, 57] o.type #[v, .slice A 0 c]).run Try.prog w = .ok v w := by
      have hfc : ∀ k, (Builtin.firstCells 2 0 (.slice A 0 k)).run Try.prog w = .ok #[] w := fun k => by
        cases A <;> simp [Builtin.firstCells, loadCells, loadCellsFrom]
      rcases hown.2 with ⟨rfl, _⟩ | ⟨g, cap, cur, rfl, _, hg, hnc, _⟩
      · simp [Builtin.append_, run_underlying Try.underlying57, sizeOf, typeInfo, hi, Builtin.lenOf, hsz, hfc]
      · simp [Builtin.append_, run_underlying Try.underlying57, sizeOf, typeInfo, hi, Builtin.lenOf, hsz, hfc, hnc, storeCells]
    unfold Oper.wp execOp
    simp only [ho, resolve, invoke, builtin, Sem.run_bind, Sem.run_pure, Result.andThen_ok, List.map_toArray, List.map_cons, List.map_nil, hs, hx, hrun]
    exact hK _ _ (h v w (by rw [List.append_nil]; exact hown) ⟨rfl, rfl, rfl, Nat.le_refl _, fun _ _ _ => rfl⟩)
  · obtain ⟨b, o', rfl, hb, hc⟩ := hA h0
    refine wpList_append_own_at w hgd s x 57 ho base 60 i _ 2 32 Try.underlying57 hi hz hsz hby rfl (by omega) v l.length (cellsP l) hs hown ⟨b, o', none⟩ m c (cellsP l2) hx (by rw [cellsP_len, hm]) (fun j u hj => ?_) (cellsP_one l2) (by simp only [maxLen]; omega) (by omega) hbase ?_
    · have hjl : j < l2.length * 2 := by rw [← cellsP_len]; exact (List.getElem?_eq_some_iff.1 hj).1
      rw [addr_add]
      rcases Nat.mod_two_eq_zero_or_one j with h2 | h2
      · have e : j = j / 2 * 2 := by omega
        have hc' := hc (j / 2) (by omega)
        have hg := cellsP_get l2 (j / 2) (by omega)
        rw [e, hg.1] at hj
        rw [e, ← hj]
        exact hc'.1
      · have e : j = j / 2 * 2 + 1 := by omega
        have hc' := hc (j / 2) (by omega)
        have hg := cellsP_get l2 (j / 2) (by omega)
        rw [e, hg.2] at hj
        rw [e, ← hj, ← Nat.add_assoc]
        exact hc'.2
    · intro v' w' h1 h2 _ _
      refine h v' w' ?_ h2
      unfold OwnP
      rw [cellsP_append, List.length_append, ← hm]
      exact h1
theorem hasP_one {w : World} (p : PV) : HasP (w.alloc (.cells #[.string p.1, .string p.2] 60)) (some ⟨w.heap.size, 0, none⟩) [p] := fun _ => by
  have h := World.alloc_heap_new w (.cells #[.string p.1, .string p.2] 60)
  refine ⟨w.heap.size, 0, rfl, (Array.getElem?_eq_some_iff.1 h).1, fun j hj => ?_⟩
  obtain rfl : j = 0 := by simpa using hj
  exact ⟨by rw [blk_cell h]; rfl, by rw [blk_cell h]; rfl⟩
set_option maxRecDepth 100000 in
set_option maxHeartbeats 4000000 in
theorem Without_any (A : Option Addr) (L c : Nat) (l : List PV) (k : ByteArray) (w : World) (hL : L = l.length) (hLm : L ≤ 100000) (hA : HasP w A l) :
    Calls Try.prog 36 #[.slice A L c, .string k] w fun e W' => ∃ v, e = .returned v ∧ OwnP w.heap.size W' v (withoutP l k) ∧ Below w.heap.size w W' := by
  have HL := Lib.hid hL
  have HA := Lib.hid hA
  have hLi : (L : Int) ≤ 100000 := by omega
  clear hL hA
  go_enter Try.func36, Try.ntmps36
  go_wp2
  go_loopw [5, 6] (fun s5 i wr => ∃ j : Nat, ∃ A5 c5 M, j ≤ L ∧ i = .int .i64 (j : Int) ∧ s5 = .slice A5 M c5 ∧ M ≤ j ∧ Hid (M = (withoutP (l.take j) k).length) ∧ Hid (OwnP w.heap.size wr (.slice A5 M c5) (withoutP (l.take j) k)) ∧ Hid (Below w.heap.size w wr)) (fun _ i _ => L - (intOf i).toNat)
  case atStart => exact ⟨0, none, 0, 0, Nat.zero_le _, rfl, rfl, Nat.le_refl _, Lib.hid rfl, Lib.hid (OwnP.nil _ _), Lib.hid (Below.refl _ _)⟩
  case round =>
    obtain ⟨j, A5, c5, M, hj, rfl, rfl, hMj, HM, HO, HB⟩ := hrel
    by_cases hlt : j < L
    · have hji : (j : Int) < L := by omega
      have hj1 : j < l.length := by have := HL.out; omega
      obtain ⟨b, o, e1, l1, f1⟩ := HA.out (by rintro rfl; simp at hj1)
      subst e1
      obtain ⟨t, ht⟩ : ∃ t, t = l[j].1 := ⟨_, rfl⟩
      obtain ⟨u, hu⟩ : ∃ u, u = l[j].2 := ⟨_, rfl⟩
      have g1 := (HB.out.cell (p := ⟨b, o + j * 2, none⟩) l1).trans (f1 j hj1).1
      have g2 := (HB.out.cell (p := ⟨b, o + j * 2 + 1, none⟩) l1).trans (f1 j hj1).2
      rw [← ht] at g1
      rw [← hu] at g2
      have HT := Lib.hid (And.intro ht hu)
      have hsucc := withoutP_succ (k := k) hj1
      have HS := Lib.hid hsucc
      clear ht hu f1 hsucc
      by_cases he : t = k
      · subst he
        have hneb : (t.toList != t.toList) = false := by simp
        go_wp2
        all_goals
          refine ⟨⟨j + 1, A5, c5, M, by omega, by congr 1, rfl, by omega, Lib.hid ?_, Lib.hid ?_, HB⟩, by simp only [intOf]; omega⟩
          · rw [HS.out, if_neg (by rw [← HT.out.1]; simp), List.append_nil]; exact HM.out
          · rw [HS.out, if_neg (by rw [← HT.out.1]; simp), List.append_nil]; exact HO.out
      · have hne : ¬ t.toList = k.toList := fun h => he (toList_inj9.1 h)
        have hneb : (t.toList != k.toList) = true := by simpa using hne
        have HP := Lib.hid (hasP_one (w := wr) (t, u))
        have hbn : Below wr.heap.size wr (wr.alloc (.cells #[.string t, .string u] 60)) := (Below.refl _ wr).alloc (Nat.le_refl _) _
        have HBN := Lib.hid hbn
        clear hbn
        go_wp2_with (first | (at_builtin; refine wpList_append_P rfl (.tmp 20) (.tmp 25) rfl w.heap.size (.slice A5 M c5) (withoutP (l.take j) k) rfl (HO.out.below HBN.out) (some ⟨wr.heap.size, 0, none⟩) 1 1 [(t, u)] rfl rfl HP.out (by rw [← HM.out]; omega) (Nat.le_trans HB.out.size (by simp)) ?_; intro v6 U6 hown6 hg6; have hb6 : Below w.heap.size w U6 := (HB.out.trans (Below.mono HBN.out HB.out.size)).grown hg6 (Nat.le_trans HB.out.size (by simp)) (fun x e => (World.ownsRow.lt HO.out x e).1); obtain ⟨A6, c6, rfl, _⟩ := hown6.form; have O6 := Lib.hid hown6; have B6 := Lib.hid hb6; clear hown6 hg6 hb6) | fail)
        · have hlen6 : (withoutP (l.take j) k ++ [(t, u)]).length = M + 1 := by rw [List.length_append, ← HM.out]; rfl
          have hsu : withoutP (l.take (j + 1)) k = withoutP (l.take j) k ++ [(t, u)] := by rw [HS.out, if_pos (by rw [← HT.out.1]; exact he), HT.out.1, HT.out.2]
          have HSU := Lib.hid hsu
          have HL6 := Lib.hid hlen6
          clear hsu hlen6
          refine ⟨⟨j + 1, A6, c6, M + 1, by omega, by congr 1, by rw [← HM.out], by omega, Lib.hid ?_, Lib.hid ?_, B6⟩, by simp only [intOf]; omega⟩
          · rw [HSU.out, HL6.out]
          · rw [HSU.out, ← HL6.out]; exact O6.out
        · rename_i hx
          exact absurd (by simpa using hx) hne
    · have hji : ¬ (j : Int) < L := by omega
      obtain rfl : j = L := by omega
      go_wp2
      go_ret
      refine ⟨_, rfl, ?_, HB.out⟩
      have h := HO.out
      rw [HL.out, List.take_length] at h
      exact h
end Go.Proofs.Ytooaobadnainkaa
-- KvWith
namespace Go.Proofs.Ytooaobadnainkaa
open Go.RowKit
theorem OwnP.mono {b b' : Nat} {w : World} {v : Value} {l : List PV} (h : OwnP b w v l) (hb : b' ≤ b) : OwnP b' w v l := by
  refine ⟨h.1, ?_⟩
  rcases h.2 with h2 | ⟨g, cap, cur, e, h1, h2⟩
  · exact .inl h2
  · exact .inr ⟨g, cap, cur, e, Nat.le_trans hb h1, h2⟩
theorem run_uptoP (w : World) (A : Option Addr) (L c N : Nat) (h : N ≤ c) (_hc : N ≤ 1000000000) : (Instr.sliceAt 57 (.slice A L c) none (some (.int .i64 (N : Int))) none).run Try.prog w = .ok (.slice A N c) w := by
  have h1 : (N : Int) ≤ c := by omega
  cases A <;> simp [go_sem, h1]
theorem run_fromP (A : Option Addr) (L c n : Nat) (h1 : n ≤ L) (h2 : L ≤ c) (_hc : L ≤ 1000000000) : ∃ A', (∀ w : World, (Instr.sliceAt 57 (.slice A L c) (some (.int .i64 (n : Int))) none none).run Try.prog w = .ok (.slice A' (L - n) (c - n)) w) ∧ ∀ b o, A = some ⟨b, o, none⟩ → n < L → A' = some ⟨b, o + n * 2, none⟩ := by
  have e1 : (0 : Int) ≤ (n : Int) := by omega
  have e2 : (n : Int) ≤ (L : Int) := by omega
  have e3 : (L : Int) ≤ (c : Int) := by omega
  cases A with
  | none =>
    refine ⟨none, fun w => ?_, fun _ _ e => by cases e⟩
    simp [go_sem, e1, e2]
  | some a =>
    by_cases hcn : c = n
    · refine ⟨some a, fun w => ?_, fun b o e h => by omega⟩
      simp [go_sem, e1, e2, hcn]
    · refine ⟨some (a.add (n * 2)), fun w => ?_, fun b o e _ => by cases e; exact congrArg some (addr_add b o (n * 2))⟩
      simp [go_sem, e1, e2, hcn]
set_option maxRecDepth 100000 in
set_option maxHeartbeats 4000000 in
theorem With_any (A : Option Addr) (L c : Nat) (l : List PV) (k v : ByteArray) (w : World) (hL : L = l.length) (hLm : L ≤ 100000) (hA : HasP w A l) :
    Calls Try.prog 28 #[.slice A L c, .string k, .string v] w fun e W' => ∃ x, e = .returned x ∧ OwnP w.heap.size W' x (withP l k v) ∧ Below w.heap.size w W' := by
  have HL := Lib.hid hL
  have HA := Lib.hid hA
  clear hL hA
  go_enter Try.func28, Try.ntmps28
  go_wp2_with fail
  refine (Without_any A L c l k w HL.out hLm HA.out).mono ?_
  rintro e W1 ⟨vr, rfl, ho, hb⟩
  obtain ⟨r, hr⟩ : ∃ r, r = withoutP l k := ⟨_, rfl⟩
  rw [← hr] at ho
  have hrl : r.length ≤ 100000 := by have := withoutP_len l k; rw [← hr] at this; have := HL.out; omega
  obtain ⟨Ar, cr, rfl, hrc⟩ := ho.form
  obtain ⟨M, hM⟩ : ∃ M, M = r.length := ⟨_, rfl⟩
  rw [← hM] at ho hrl hrc ⊢
  have HR := Lib.hid (And.intro hr hM)
  have HO := Lib.hid ho
  have HB := Lib.hid hb
  have HP := Lib.hid ho.has
  have hMi : (M : Int) ≤ 100000 := by omega
  have hMc : (M : Int) ≤ cr := by omega
  clear ho hb hr hM
  go_wp2
  go_loopw [8] (fun i wr => wr = W1 ∧ ∃ j : Nat, j ≤ M ∧ i = .int .i64 (j : Int) ∧ Hid (∀ x (h1 : x < r.length), x < j → ltB r[x].1 k = true)) (fun i _ => M - (intOf i).toNat)
  case atStart => exact ⟨rfl, 0, Nat.zero_le _, rfl, Lib.hid (fun x _ h => by omega)⟩
  case round =>
    obtain ⟨rfl, j, hj, rfl, HJ⟩ := hrel
    by_cases hlt : j < M
    · have hji : (j : Int) < M := by omega
      have hj1 : j < r.length := by have := HR.out.2; omega
      obtain ⟨b, o, e1, l1, f1⟩ := HP.out (by rintro rfl; simp at hj1)
      subst e1
      obtain ⟨t, ht⟩ : ∃ t, t = r[j].1 := ⟨_, rfl⟩
      have g1 := (f1 j hj1).1
      rw [← ht] at g1
      have HT := Lib.hid ht
      clear ht f1
      cases hc : ltB t k with
      | true =>
        have hcb : Op.bytesLess t.toList k.toList = true := hc
        go_wp2
        refine ⟨⟨trivial, j + 1, by omega, by congr 1, Lib.hid (fun x h1 h2 => ?_)⟩, by simp only [intOf]; omega⟩
        by_cases hx : x < j
        · exact HJ.out x h1 hx
        · obtain rfl : x = j := by omega
          rw [← HT.out]
          exact hc
      | false =>
        have hcb : Op.bytesLess t.toList k.toList = false := hc
        have HPL := Lib.hid (placeP_is (r := r) (k := k) (n := j) (by omega) HJ.out (fun h => by rw [← HT.out]; exact hc))
        have hji2 : (j : Int) ≤ M := by omega
        have hjc : (j : Int) ≤ cr := by omega
        have hjm : j ≤ 100000 := by omega
        obtain ⟨A7, hfr, hA7⟩ := run_fromP (some ⟨b, o, none⟩) M cr j (by omega) hrc (by omega)
        have HFD := Lib.hid (HP.out.drop (n := j) (fun b o e h => hA7 b o e (by have := HR.out.2; omega)))
        have htl : j = (r.take j).length := by rw [List.length_take]; have := HR.out.2; omega
        have hl5 : (r.take j ++ [(k, v)]).length = j + 1 := by rw [List.length_append, ← htl]; rfl
        have HTL := Lib.hid (And.intro htl hl5)
        clear hA7 htl hl5
        go_wp2_with (first | (at_builtin; refine wpList_append_P rfl (.const (.slice none 0 0)) (.tmp 30) rfl wr.heap.size (.slice none 0 0) [] rfl (OwnP.nil _ _) (some ⟨b, o, none⟩) j cr (r.take j) rfl HTL.out.1 (HP.out.take j) (by show 0 + j ≤ 1000000; omega) (Nat.le_refl _) ?_; intro v4 U4 hown4 hg4; rw [List.nil_append] at hown4; have hb4 : Below wr.heap.size wr U4 := (Below.refl _ wr).grown hg4 (Nat.le_refl _) (fun x e => by cases e); obtain ⟨A4, c4, rfl, _⟩ := hown4.form; rw [← HTL.out.1] at hown4 ⊢; have O4 := Lib.hid hown4; have B4 := Lib.hid hb4; clear hown4 hg4 hb4) | (at_builtin; refine wpList_append_P rfl (.tmp 32) (.tmp 36) rfl wr.heap.size (.slice A4 j c4) (r.take j) rfl (O4.out.below ((Below.refl U4.heap.size U4).alloc (Nat.le_refl _) _)) (some ⟨U4.heap.size, 0, none⟩) 1 1 [(k, v)] rfl rfl (hasP_one (w := U4) (k, v)) (by rw [← HTL.out.1]; omega) (Nat.le_trans B4.out.size (by simp)) ?_; intro v5 U5 hown5 hg5; have hb5 : Below wr.heap.size wr U5 := (B4.out.trans (Below.mono ((Below.refl U4.heap.size U4).alloc (Nat.le_refl _) _) B4.out.size)).grown hg5 (Nat.le_trans B4.out.size (by simp)) (fun x e => (World.ownsRow.lt O4.out x e).1); obtain ⟨A5, c5, rfl, _⟩ := hown5.form; rw [HTL.out.2] at hown5 ⊢; have O5 := Lib.hid hown5; have B5 := Lib.hid hb5; have H5 := Lib.hid (HFD.out.below hb5); clear hown5 hg5 hb5) | (at_builtin; refine wpList_append_P rfl (.tmp 38) (.tmp 41) rfl wr.heap.size (.slice A5 (j + 1) c5) (r.take j ++ [(k, v)]) rfl O5.out A7 (M - j) (cr - j) (r.drop j) rfl (by rw [List.length_drop, ← HR.out.2]) H5.out (by rw [HTL.out.2]; omega) B5.out.size ?_; intro v6 U6 hown6 hg6; have hb6 : Below wr.heap.size wr U6 := B5.out.grown hg6 B5.out.size (fun x e => (World.ownsRow.lt O5.out x e).1); obtain ⟨A6, c6, rfl, _⟩ := hown6.form; obtain ⟨n6, hn6⟩ : ∃ n6, n6 = (r.take j ++ [(k, v)] ++ r.drop j).length := ⟨_, rfl⟩; rw [← hn6] at hown6 ⊢; have O6 := Lib.hid hown6; have B6 := Lib.hid hb6; clear hn6 hown6 hg6 hb6) | fail)
        all_goals
          go_ret
          refine ⟨_, rfl, ?_, HB.out.trans (Below.mono B6.out HB.out.size)⟩
          have h := O6.out
          unfold withP
          rw [← HR.out.1, HPL.out]
          rw [List.append_assoc] at h
          exact h.mono HB.out.size
    · have hji : ¬ (j : Int) < M := by omega
      obtain rfl : j = M := by omega
      have HPL := Lib.hid (placeP_is (r := r) (k := k) (n := j) (by have := HR.out.2; omega) HJ.out (fun h => by have := HR.out.2; omega))
      have hjc : (j : Int) ≤ cr := by omega
      have hjm : j ≤ 100000 := by omega
      obtain ⟨A7, hfr, hA7⟩ := run_fromP Ar j cr j (by omega) hrc (by omega)
      have HFD := Lib.hid (HP.out.drop (n := j) (fun b o e h => hA7 b o e (by have := HR.out.2; omega)))
      have htl : j = (r.take j).length := by rw [List.length_take]; have := HR.out.2; omega
      have hl5 : (r.take j ++ [(k, v)]).length = j + 1 := by rw [List.length_append, ← htl]; rfl
      have HTL := Lib.hid (And.intro htl hl5)
      clear hA7 htl hl5
      go_wp2_with (first | (at_builtin; refine wpList_append_P rfl (.const (.slice none 0 0)) (.tmp 30) rfl wr.heap.size (.slice none 0 0) [] rfl (OwnP.nil _ _) Ar j cr (r.take j) rfl HTL.out.1 (HP.out.take j) (by show 0 + j ≤ 1000000; omega) (Nat.le_refl _) ?_; intro v4 U4 hown4 hg4; rw [List.nil_append] at hown4; have hb4 : Below wr.heap.size wr U4 := (Below.refl _ wr).grown hg4 (Nat.le_refl _) (fun x e => by cases e); obtain ⟨A4, c4, rfl, _⟩ := hown4.form; rw [← HTL.out.1] at hown4 ⊢; have O4 := Lib.hid hown4; have B4 := Lib.hid hb4; clear hown4 hg4 hb4) | (at_builtin; refine wpList_append_P rfl (.tmp 32) (.tmp 36) rfl wr.heap.size (.slice A4 j c4) (r.take j) rfl (O4.out.below ((Below.refl U4.heap.size U4).alloc (Nat.le_refl _) _)) (some ⟨U4.heap.size, 0, none⟩) 1 1 [(k, v)] rfl rfl (hasP_one (w := U4) (k, v)) (by rw [← HTL.out.1]; omega) (Nat.le_trans B4.out.size (by simp)) ?_; intro v5 U5 hown5 hg5; have hb5 : Below wr.heap.size wr U5 := (B4.out.trans (Below.mono ((Below.refl U4.heap.size U4).alloc (Nat.le_refl _) _) B4.out.size)).grown hg5 (Nat.le_trans B4.out.size (by simp)) (fun x e => (World.ownsRow.lt O4.out x e).1); obtain ⟨A5, c5, rfl, _⟩ := hown5.form; rw [HTL.out.2] at hown5 ⊢; have O5 := Lib.hid hown5; have B5 := Lib.hid hb5; have H5 := Lib.hid (HFD.out.below hb5); clear hown5 hg5 hb5) | (at_builtin; refine wpList_append_P rfl (.tmp 38) (.tmp 41) rfl wr.heap.size (.slice A5 (j + 1) c5) (r.take j ++ [(k, v)]) rfl O5.out A7 0 (cr - j) (r.drop j) rfl (by rw [List.length_drop, ← HR.out.2]; omega) H5.out (by rw [HTL.out.2]; omega) B5.out.size ?_; intro v6 U6 hown6 hg6; have hb6 : Below wr.heap.size wr U6 := B5.out.grown hg6 B5.out.size (fun x e => (World.ownsRow.lt O5.out x e).1); obtain ⟨A6, c6, rfl, _⟩ := hown6.form; obtain ⟨n6, hn6⟩ : ∃ n6, n6 = (r.take j ++ [(k, v)] ++ r.drop j).length := ⟨_, rfl⟩; rw [← hn6] at hown6 ⊢; have O6 := Lib.hid hown6; have B6 := Lib.hid hb6; clear hn6 hown6 hg6 hb6) | fail)
      all_goals
        go_ret
        refine ⟨_, rfl, ?_, HB.out.trans (Below.mono B6.out HB.out.size)⟩
        have h := O6.out
        unfold withP
        rw [← HR.out.1, HPL.out]
        rw [List.append_assoc] at h
        exact h.mono HB.out.size
end Go.Proofs.Ytooaobadnainkaa
