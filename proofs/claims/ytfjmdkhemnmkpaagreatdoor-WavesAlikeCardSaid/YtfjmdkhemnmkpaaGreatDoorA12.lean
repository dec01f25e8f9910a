/- Parts of the proof: AqD, AqE, KvLimM, KsM, KsGm. -/
import Derived.Test.YtfjmdkhemnmkpaaGreatDoorA11
import Derived.Test.YtfjmdkhemnmkpaaGreatDoorA03
import Derived.Test.YtfjmdkhemnmkpaaGreatDoorA02
namespace Go.Proofs.YtfjmdkhemnmkpaaGreatDoor
open Go.RowKit Go.Maps
theorem join_len {l : List PV} (hl : LimP l) (ks : List ByteArray) : (joinP l ks).length ≤ ks.length * 1001 := by
  unfold joinP
  induction ks with
  | nil => simp
  | cons k ks ih =>
    have h1 : ((lookP l k).elim ([] : List UInt8) fun v => v.data.toList).length ≤ 1000 := by
      cases hk : lookP l k with
      | none => simp
      | some v => have := (hl.each _ (lookP_mem hk)).2; simpa using this
    simp only [List.flatMap_cons, List.length_append, List.length_cons, List.length_nil]
    omega
theorem rep_len {l : List PV} (hl : LimP l) (m : CM) (hk : m.ks.length ≤ 100) : (doP l m).2.2.size ≤ 200000 := by
  have h0 : (⟨#[]⟩ : ByteArray).size ≤ 200000 := by decide
  have hlk : ∀ {k v}, lookP l k = some v → v.size ≤ 200000 := fun h => by have := (hl.each _ (lookP_mem h)).2; simp only at this; omega
  unfold doP
  split
  · exact h0
  split
  · exact h0
  split
  · split
    · exact h0
    · rename_i v hv; exact hlk hv
  split
  · split
    · exact h0
    · rename_i v hv; exact hlk hv
  split
  · unfold addP
    cases hs : sumP l (keyP m.ks 0) m.n with
    | none => exact h0
    | some s =>
      have hr : -9223372036854775808 ≤ s ∧ s ≤ 9223372036854775807 := by
        unfold sumP at hs
        split at hs
        · cases hs
        · split at hs
          · cases hs; assumption
          · cases hs
      have := decI_len hr.1 hr.2
      show (str (decI s)).size ≤ 200000
      rw [str_size]; omega
  split
  · split
    · exact h0
    · split
      · exact h0
      · exact h0
  split
  · exact h0
  split
  · show (str (joinP l m.ks)).size ≤ 200000
    rw [str_size]
    have := join_len hl m.ks
    omega
  · have h1 := restP_len l m.ks
    have h2 := hl.len
    have := decI_len (n := (l.length : Int) - (restP l m.ks).length) (by omega) (by omega)
    show (str (decI ((l.length : Int) - (restP l m.ks).length))).size ≤ 200000
    rw [str_size]; omega
structure DoA1 (w W : World) (R Rk Rs n p q : Nat) (Fb : Nat → Prop) (ps : List PV) (ss : List SE) (cs : Array Value) : Prop where
  below : Below w.heap.size w W
  both : BothA Fb W Rk ps Rs ss
  old : ∀ k, Fb k → k < w.heap.size
  app : W.heap[R]? = some (.cells #[.pointer (some ⟨Rk, 0, none⟩), .pointer (some ⟨Rs, 0, none⟩), .int .u64 (n : Int)] 92 (0, 0))
  lt : R < w.heap.size
  no : ¬ Fb R
  cmd : W.heap[p]? = some (.cells cs 57 (0, 0))
  rep : RepB W q 0 ⟨#[]⟩
  ps : p = w.heap.size ∧ q = p + 1
section
variable {w W W' : World} {R Rk Rs n p q : Nat} {Fb : Nat → Prop} {ps : List PV} {ss : List SE} {cs : Array Value}
theorem DoA1.start {W0 : World} (h1 : w.heap[R]? = some (.cells #[.pointer (some ⟨Rk, 0, none⟩), .pointer (some ⟨Rs, 0, none⟩), .int .u64 (n : Int)] 92 (0, 0))) (h2 : BothA Fb w Rk ps Rs ss) (h3 : ¬ Fb R) (e0 : W0 = w.alloc (.cells cs 57)) (e1 : W = W0.alloc (.cells #[.int .u8 0, .string ⟨#[]⟩] 45)) : DoA1 w W R Rk Rs n w.heap.size (w.heap.size + 1) Fb ps ss cs := by
  obtain ⟨a1, a2, a3⟩ := box_new e0
  obtain ⟨b1, b2, b3⟩ := box_new e1
  have hb := a1.trans (Below.mono b1 a1.size)
  have hlt := (Array.getElem?_eq_some_iff.1 h1).1
  exact ⟨hb, h2.below hb, h2.lt, (hb.block R hlt).trans h1, hlt, h3, (b1.block _ (by omega)).trans a2, by rw [← a3]; exact b2, ⟨rfl, rfl⟩⟩
theorem DoA1.grew (h : DoA1 w W R Rk Rs n p q Fb ps ss cs) (hb : Below W.heap.size W W') : DoA1 w W' R Rk Rs n p q Fb ps ss cs :=
  ⟨h.below.trans (Below.mono hb h.below.size), h.both.below hb, h.old, (hb.block R (Array.getElem?_eq_some_iff.1 h.app).1).trans h.app, h.lt, h.no, (hb.block p (Array.getElem?_eq_some_iff.1 h.cmd).1).trans h.cmd, (hb.block q h.rep.lt).trans h.rep, h.ps⟩
theorem DoA1.new (h : DoA1 w W R Rk Rs n p q Fb ps ss cs) {k : Nat} (hk : w.heap.size ≤ k) : ¬ Fb k := fun hf => by have := h.old k hf; omega
end
structure DoA3 (w W2 W : World) (R Rk Rs n p q x : Nat) (Fb F' : Nat → Prop) (ps : List PV) (ss : List SE) (cs : Array Value) (cd : Nat) (tx : ByteArray) : Prop where
  only : Only Fb w W
  both : BothA F' W Rk ps Rs ss
  sub : ∀ k, F' k → Fb k ∨ W2.heap.size ≤ k
  app : W.heap[R]? = some (.cells #[.pointer (some ⟨Rk, 0, none⟩), .pointer (some ⟨Rs, 0, none⟩), .int .u64 (n : Int)] 92 (0, 0))
  cmd : W.heap[p]? = some (.cells cs 57 (0, 0))
  rep : RepB W q 0 ⟨#[]⟩
  at_ : RepB W x cd tx
  no : ¬ F' R ∧ ¬ F' p ∧ ¬ F' q ∧ ¬ F' x
  ne : x ≠ R ∧ x ≠ p ∧ x ≠ q
section
variable {w W2 W W' : World} {R Rk Rs n p q x : Nat} {Fb F' : Nat → Prop} {ps ps' : List PV} {ss ss' : List SE} {cs : Array Value} {cd : Nat} {tx : ByteArray}
theorem DoA3.start (h : DoA1 w W2 R Rk Rs n p q Fb ps ss cs) (hx : RepB W2 x cd tx) (hxw : q < x) (hb : BothA F' W Rk ps' Rs ss) (ho : Only Fb W2 W) (hs : ∀ k, F' k → Fb k ∨ W2.heap.size ≤ k) : DoA3 w W2 W R Rk Rs n p q x Fb F' ps' ss cs cd tx := by
  obtain ⟨e1, e2⟩ := h.ps
  have hlt := h.lt
  have hpl := (Array.getElem?_eq_some_iff.1 h.cmd).1
  have hql := h.rep.lt
  have hxl := hx.lt
  have hR2 := (Array.getElem?_eq_some_iff.1 h.app).1
  have np : ¬ Fb p := h.new (by omega)
  have nq : ¬ Fb q := h.new (by omega)
  have nx : ¬ Fb x := h.new (by omega)
  have no : ∀ k, ¬ Fb k → k < W2.heap.size → ¬ F' k := fun k h1 h2 hf => by
    rcases hs k hf with e | e
    · exact h1 e
    · omega
  exact ⟨(Only.of_grew h.below).trans ho (fun k hk => .inl hk), hb, hs, (ho.block R hR2 h.no).trans h.app, (ho.block p hpl np).trans h.cmd, (ho.block q hql nq).trans h.rep, (ho.block x hxl nx).trans hx, ⟨no R h.no hR2, no p np hpl, no q nq hql, no x nx hxl⟩, by omega, by omega, by omega⟩
theorem DoA3.set (h : DoA3 w W2 W R Rk Rs n p q x Fb F' ps ss cs cd tx) (hxw : w.heap.size ≤ x) (d : Nat) (u : ByteArray) : DoA3 w W2 ((W.setCell ⟨x, 0, none⟩ (.int .u8 (d : Int))).setCell ⟨x, 1, none⟩ (.string u)) R Rk Rs n p q x Fb F' ps ss cs d u := by
  have k1 : ∀ {b : Nat} {o : Obj}, W.heap[b]? = some o → x ≠ b → ((W.setCell ⟨x, 0, none⟩ (.int .u8 (d : Int))).setCell ⟨x, 1, none⟩ (.string u)).heap[b]? = some o := fun hb hn => (Below.heap_setCell _ _ _ _ (Ne.symm hn)).trans ((Below.heap_setCell _ _ _ _ (Ne.symm hn)).trans hb)
  refine ⟨(h.only.setCell (p := ⟨x, 0, none⟩) (.inr hxw) _).setCell (p := ⟨x, 1, none⟩) (.inr hxw) _, h.both.keep (((Only.refl (fun k => k = x) W).setCell (p := ⟨x, 0, none⟩) (.inl rfl) _).setCell (p := ⟨x, 1, none⟩) (.inl rfl) _) (fun k hk e => h.no.2.2.2 (e ▸ hk)), h.sub, k1 h.app h.ne.1, k1 h.cmd h.ne.2.1, k1 h.rep h.ne.2.2, h.at_.set d u, h.no, h.ne⟩
theorem DoA3.fin {F F4 : Nat → Prop} {W4 W6 : World} (h : DoA3 w W2 W R Rk Rs n p q x Fb F' ps ss cs cd tx) (hF : ∀ k, F k ↔ (Fb k ∨ k = R)) (hR : R < w.heap.size) (hw2 : w.heap.size ≤ W2.heap.size) (hp : w.heap.size ≤ q) (hqR : q ≠ R)
    (hb : BothA F4 W4 Rk ps Rs ss') (ho : Only F' W W4) (hs : ∀ k, F4 k → F' k ∨ W.heap.size ≤ k) (hn : n + 1 < 18446744073709551616) (e6 : W6 = ((W4.setCell ⟨R, 2, none⟩ (.int .u64 ((n + 1 : Nat) : Int))).setCell ⟨q, 0, none⟩ (.int .u8 (cd : Int))).setCell ⟨q, 1, none⟩ (.string tx)) :
    RepB W6 q cd tx ∧ ∃ F6, AppQ F6 W6 R ⟨ps, ss', n + 1⟩ ∧ Only F w W6 ∧ ∀ k, F6 k → F k ∨ w.heap.size ≤ k := by
  have hRW := (Array.getElem?_eq_some_iff.1 h.app).1
  have hqW := h.rep.lt
  have hws : w.heap.size ≤ W.heap.size := h.only.size
  have kR := (ho.block R hRW h.no.1).trans h.app
  have kq : RepB W4 q 0 ⟨#[]⟩ := (ho.block q hqW h.no.2.2.1).trans h.rep
  have n4R : ¬ F4 R := fun hf => by
    rcases hs R hf with e | e
    · exact h.no.1 e
    · omega
  have n4q : ¬ F4 q := fun hf => by
    rcases hs q hf with e | e
    · exact h.no.2.2.1 e
    · omega
  have hsub : ∀ k, F' k → F k ∨ w.heap.size ≤ k := fun k hk => by
    rcases h.sub k hk with e | e
    · exact .inl ((hF k).2 (.inl e))
    · exact .inr (Nat.le_trans hw2 e)
  have ho4 : Only F w W4 := (h.only.mono (fun k _ hk => (hF k).2 (.inl hk))).trans ho hsub
  subst e6
  have q1 : ((W4.setCell ⟨R, 2, none⟩ (.int .u64 ((n + 1 : Nat) : Int)))).heap[q]? = some (.cells #[.int .u8 ((0 : Nat) : Int), .string ⟨#[]⟩] 45 (0, 0)) := (Below.heap_setCell _ _ _ _ hqR).trans kq
  have r1 := blk_set kR 2 (.int .u64 ((n + 1 : Nat) : Int))
  refine ⟨blk_set (blk_set q1 0 _) 1 _, fun k => F4 k ∨ k = R, ⟨⟨Rk, Rs, F4, (Below.heap_setCell _ _ _ _ (Ne.symm hqR)).trans ((Below.heap_setCell _ _ _ _ (Ne.symm hqR)).trans r1), hb.keep ((((Only.refl (fun k => k = R ∨ k = q) W4).setCell (p := ⟨R, 2, none⟩) (.inl (.inl rfl)) _).setCell (p := ⟨q, 0, none⟩) (.inl (.inr rfl)) _).setCell (p := ⟨q, 1, none⟩) (.inl (.inr rfl)) _) (fun k hk e => ?_), n4R, fun _ => Iff.rfl⟩, hn⟩, ((ho4.setCell (p := ⟨R, 2, none⟩) (.inl ((hF R).2 (.inr rfl))) _).setCell (p := ⟨q, 0, none⟩) (.inr hp) _).setCell (p := ⟨q, 1, none⟩) (.inr hp) _, fun k hk => ?_⟩
  · rcases e with e | e
    · exact n4R (e ▸ hk)
    · exact n4q (e ▸ hk)
  · rcases hk with e | rfl
    · rcases hs k e with e2 | e2
      · exact hsub k e2
      · exact .inr (Nat.le_trans hws e2)
    · exact .inl ((hF k).2 (.inr rfl))
end
end Go.Proofs.YtfjmdkhemnmkpaaGreatDoor

namespace Go.Proofs.YtfjmdkhemnmkpaaGreatDoor
open Go.RowKit Go.Maps
set_option maxRecDepth 100000 in
set_option maxHeartbeats 4000000 in
theorem ado_any {F : Nat → Prop} {w : World} {R : Nat} {a : AM} (v : CmdV) (h : AppQ F w R a) (hT : TabK w) (hl : LimA a) (hv : v.ok w) (hg : v.ks.length ≤ 100) : Calls Tryz.prog 22 #[.pointer (some ⟨R, 0, none⟩), v.val] w fun e W' => e = .returned (.tuple #[ReplyV (doA a v.m).2.1, .bool (doA a v.m).2.2]) ∧ ∃ F', AppQ F' W' R (doA a v.m).1 ∧ Only F w W' ∧ ∀ k, F' k → F k ∨ w.heap.size ≤ k := by
  obtain ⟨Rk, Rs, Fb, h1, h2, h3, h4⟩ := h.ex
  obtain ⟨W0, hW0⟩ : ∃ W0, W0 = w.alloc (Obj.cells v.cells 57) := ⟨_, rfl⟩
  obtain ⟨W1, hW1⟩ : ∃ W1, W1 = W0.alloc (Obj.cells #[.int .u8 0, .string ⟨#[]⟩] 45) := ⟨_, rfl⟩
  have D1 := DoA1.start h1 h2 h3 hW0 hW1
  obtain ⟨p, hp⟩ : ∃ p, p = w.heap.size := ⟨_, rfl⟩
  obtain ⟨q, hq⟩ : ∃ q, q = p + 1 := ⟨_, rfl⟩
  rw [← hp, ← hq] at D1
  have HA := Lib.hid (And.intro h (And.intro hT (And.intro hl (And.intro hv hg))))
  have HV0 : Hid (v.m = v.m) := Lib.hid rfl
  have HF := Lib.hid h4
  have H1 := Lib.hid D1
  have hcl := hv.cl
  have hsq := hv.sq
  obtain ⟨vv, hvv⟩ : ∃ vv, vv = v := ⟨_, rfl⟩
  rw [← hvv] at HA H1 ⊢
  have HVV := Lib.hid hvv
  obtain ⟨acl, asq, akd, A, L, c, ks, old, new, n⟩ := v
  have hcells : vv.cells = #[.int .u32 (acl : Int), .int .u32 (asq : Int), .int .u8 (akd : Int), .slice A L c, .string old, .string new, .int .i64 n] := by rw [hvv]; rfl
  have hval : vv.val = .agg #[.int .u32 (acl : Int), .int .u32 (asq : Int), .int .u8 (akd : Int), .slice A L c, .string old, .string new, .int .i64 n] := by rw [hvv]; rfl
  have hmc : vv.m.cl = acl ∧ vv.m.sq = asq := by rw [hvv]; exact ⟨rfl, rfl⟩
  have HM := Lib.hid hmc
  have z0 : W1.cell? ⟨p, 0, none⟩ = some (.int .u32 (acl : Int)) := by have := blk_cell D1.cmd 0; simpa [CmdV.cells] using this
  have z1 : W1.cell? ⟨p, 1, none⟩ = some (.int .u32 (asq : Int)) := by have := blk_cell D1.cmd 1; simpa [CmdV.cells] using this
  have y0 : W1.cell? ⟨q, 0, none⟩ = some (.int .u8 0) := by simpa using blk_cell D1.rep 0
  have y1 : W1.cell? ⟨q, 1, none⟩ = some (.string ⟨#[]⟩) := by simpa using blk_cell D1.rep 1
  have u0 := blk_frozen D1.rep 0
  have u1 := blk_frozen D1.rep 1
  have HCL := Lib.hid (And.intro hcl hsq)
  simp only [CmdV.cells] at hW0
  rw [hval]
  have HCE := Lib.hid hcells
  clear h h1 h2 h3 h4 hT hl hv hg hcells hmc D1 hcl hsq hval hvv
  go_enter Tryz.func22, Tryz.ntmps22
  go_upto_region 1 with (fail)
  rw [← hW0, ← hW1, ← hp, ← hq]
  clear hW0 hW1 hp hq
  by_cases h0 : acl = 0
  · subst h0
    go_wp2
    obtain ⟨W9, hW9⟩ : ∃ W9, W9 = (W1.setCell ⟨q, 0, none⟩ (.int .u8 2)).setCell ⟨q, 1, none⟩ (.string ⟨#[]⟩) := ⟨_, rfl⟩
    rw [← hW9]
    have hD := H1.out
    have hqw : w.heap.size ≤ q := by have := hD.ps; omega
    have k9 : RepB W9 q 2 ⟨#[]⟩ := by rw [hW9]; exact hD.rep.set 2 ⟨#[]⟩
    have b9 : Below w.heap.size w W9 := by rw [hW9]; exact (hD.below.setCell (p := ⟨q, 0, none⟩) hqw _).setCell (p := ⟨q, 1, none⟩) hqw _
    have d0 : W9.cell? ⟨q, 0, none⟩ = some (.int .u8 2) := by simpa using blk_cell k9 0
    have d1 : W9.cell? ⟨q, 1, none⟩ = some (.string ⟨#[]⟩) := by simpa using blk_cell k9 1
    have e : doA a vv.m = (a, (2, ⟨#[]⟩), false) := by unfold doA; rw [if_pos HM.out.1]
    rw [e]
    exact bodyPost_ret (v := .tuple #[ReplyV (2, ⟨#[]⟩), .bool false]) (by simp [results, Tryz.results22, go_sem, d0, d1, ReplyV]) rfl ⟨rfl, _, HA.out.1.keep (Only.of_grew (F := fun _ => False) b9) (fun _ _ => id), Only.of_grew b9, fun k hk => .inl hk⟩
  · have h0b : ((acl : Int) == 0) = false := by simpa using h0
    have H0 := Lib.hid h0
    clear h0
    go_upto_region 3 with (fail)
    obtain ⟨k, hk⟩ : ∃ k, k = (tellS a.ss acl asq).2 := ⟨_, rfl⟩
    obtain ⟨⟨cd, tx⟩, hr⟩ : ∃ r, r = (tellS a.ss acl asq).1 := ⟨_, rfl⟩
    have cR1 : W1.cell? ⟨R, 1, none⟩ = some (.pointer (some ⟨Rs, 0, none⟩)) := by simpa using blk_cell H1.out.app 1
    have HLK := Lib.hid (fun w' (hgr : Grew W1 w') => by
      have := (H1.out.both.below hgr).look acl asq HCL.out.1 HCL.out.2
      rw [← hk, ← hr] at this
      exact this)
    have HK := Lib.hid (And.intro hk hr)
    clear hk hr
    refine ado_look R p Rs acl asq cd k tx _ W1 _ rfl rfl rfl (Array.getElem?_eq_some_iff.1 H1.out.app).1 (Array.getElem?_eq_some_iff.1 H1.out.cmd).1 cR1 z0 z1 HLK.out ⟨Below.refl _ _, fun h => by cases h⟩ ?_
    intro u W2 hws
    obtain ⟨b2, hx⟩ := hws
    obtain ⟨x, rfl, hx1, hx2⟩ := hx rfl
    simp only [if_true] at hx2
    have D2 := H1.out.grew (Grew.undraw b2)
    have hqx : q < x := Nat.lt_of_lt_of_le H1.out.rep.lt hx1
    have H2 := Lib.hid (And.intro D2 (And.intro hx2 hqx))
    clear b2 hx1 HLK cR1 z0 z1 y0 y1 u0 u1
    simp only [puts, List.foldl_cons, List.foldl_nil, Act.put, List.setIfInBounds_toArray, List.set_cons_succ, List.set_cons_zero]
    by_cases hk0 : k = 0
    · subst hk0
      clear D2 hx2 hqx
      go_upto_region 6 with (fail)
      obtain ⟨⟨ps', cd', tx'⟩, hd⟩ : ∃ r, r = doP a.ps vv.m := ⟨_, rfl⟩
      obtain ⟨ss', hss⟩ : ∃ l, l = keepS a.ss acl asq cd' tx' := ⟨_, rfl⟩
      have hbd : Below W2.heap.size W2 W2.drew := (Below.refl _ _).drew
      have hb2d : Below w.heap.size w W2.drew := H2.out.1.below.trans (Below.mono hbd H2.out.1.below.size)
      have cR0 : W2.cell? ⟨R, 0, none⟩ = some (.pointer (some ⟨Rk, 0, none⟩)) := by simpa using blk_cell H2.out.1.app 0
      have hC := (H2.out.1.both.below hbd).do_ (HA.out.2.1.grew hb2d) HA.out.2.2.1.p vv (HA.out.2.2.2.1.below hb2d)
      rw [← hd] at hC
      have HC := Lib.hid (hC.mono (R' := fun e W' => e = .returned (.agg #[.int .u8 (cd' : Int), .string tx']) ∧ ∃ F', BothA F' W' Rk ps' Rs a.ss ∧ Only Fb W2 W' ∧ ∀ k, F' k → Fb k ∨ W2.heap.size ≤ k) (fun e W' ⟨he, F', k1, k2, k3⟩ => ⟨he, F', k1, (Only.of_grew hbd).trans k2 (fun x hx => .inl hx), k3⟩))
      have HD := Lib.hid (And.intro hd hss)
      clear hd hss hC hbd hb2d
      refine ado_do (fun W' => ∃ F', BothA F' W' Rk ps' Rs a.ss ∧ Only Fb W2 W' ∧ ∀ k, F' k → Fb k ∨ W2.heap.size ≤ k) R p x Rk cd' cd tx' tx vv _ W2 _ rfl rfl rfl rfl cR0 (fun i u h => by have e := blk_cell H2.out.1.cmd i; exact e.trans h) HC.out (fun W' ⟨F', _, k2, _⟩ => (k2.block x H2.out.2.1.lt (H2.out.1.new (by have := H2.out.1.ps; have := H2.out.2.2; omega))).trans H2.out.2.1) ⟨fun _ => rfl, fun h => by cases h⟩ ?_
      intro u W3 hws
      obtain ⟨_, hx⟩ := hws
      obtain ⟨W3a, ⟨F3, hb3, ho3, hs3⟩, hW3⟩ := hx rfl
      simp only [if_true] at hW3
      have hxw : w.heap.size ≤ x := by have := H2.out.1.ps; have := H2.out.2.2; omega
      have D3 := (DoA3.start H2.out.1 H2.out.2.1 H2.out.2.2 hb3 ho3 hs3).set hxw cd' tx'
      rw [← hW3] at D3
      clear hx hW3 hb3 ho3 hs3 cR0 HC
      simp only [puts, List.foldl_cons, List.foldl_nil, Act.put, List.setIfInBounds_toArray, List.set_cons_succ, List.set_cons_zero]
      go_upto_region 7 with (fail)
      have cR1 : W3.cell? ⟨R, 1, none⟩ = some (.pointer (some ⟨Rs, 0, none⟩)) := by simpa using blk_cell D3.app 1
      have z0 : W3.cell? ⟨p, 0, none⟩ = some (.int .u32 (acl : Int)) := by have e := blk_cell D3.cmd 0; rw [HCE.out] at e; simpa using e
      have z1 : W3.cell? ⟨p, 1, none⟩ = some (.int .u32 (asq : Int)) := by have e := blk_cell D3.cmd 1; rw [HCE.out] at e; simpa using e
      have hbd : Below W3.heap.size W3 W3.drew := (Below.refl _ _).drew
      have htx : tx'.size ≤ maxLen := by
        have h1 := rep_len HA.out.2.2.1.p vv.m HA.out.2.2.2.2
        rw [← HD.out.1] at h1
        exact Nat.le_trans h1 (by decide)
      have hC := (D3.both.below hbd).keeps acl asq cd' tx' (by have := HA.out.2.2.1.s.len; omega) HCL.out.1 HCL.out.2 htx
      rw [← HD.out.2] at hC
      have HC := Lib.hid (hC.mono (R' := fun e W' => e = .returned (.tuple #[]) ∧ ∃ F4, BothA F4 W' Rk ps' Rs ss' ∧ Only F3 W3 W' ∧ ∀ k, F4 k → F3 k ∨ W3.heap.size ≤ k) (fun e W' ⟨he, F', k1, k2, k3⟩ => ⟨he, F', k1, (Only.of_grew hbd).trans k2 (fun x hx => .inl hx), k3⟩))
      have H3 := Lib.hid D3
      clear D3 hC hbd htx
      refine ado_keep (fun W' => ∃ F4, BothA F4 W' Rk ps' Rs ss' ∧ Only F3 W3 W' ∧ ∀ k, F4 k → F3 k ∨ W3.heap.size ≤ k) R p x Rs acl asq cd' tx' _ W3 _ rfl rfl rfl rfl cR1 z0 z1 H3.out.at_ HC.out ⟨fun _ => rfl, fun h => by cases h⟩ ?_
      intro u W4 hws
      obtain ⟨F4, hb4, ho4, hs4⟩ := hws.2 rfl
      have kR := (ho4.block R (Array.getElem?_eq_some_iff.1 H3.out.app).1 H3.out.no.1).trans H3.out.app
      have kq : RepB W4 q 0 ⟨#[]⟩ := (ho4.block q H3.out.rep.lt H3.out.no.2.2.1).trans H3.out.rep
      have kx : RepB W4 x cd' tx' := (ho4.block x H3.out.at_.lt H3.out.no.2.2.2).trans H3.out.at_
      have H4 := Lib.hid (And.intro hb4 (And.intro ho4 hs4))
      clear hws hb4 ho4 hs4 cR1 z0 z1 HC
      simp only [puts, List.foldl_cons, List.foldl_nil, Act.put, List.setIfInBounds_toArray, List.set_cons_succ, List.set_cons_zero]
      obtain ⟨n1, hn1⟩ : ∃ n1, n1 = a.n + 1 := ⟨_, rfl⟩
      have hnl : n1 < 18446744073709551616 := by have := HA.out.2.2.1.n; omega
      have hwr : IntKind.u64.wrap ((a.n : Int) + 1) = (n1 : Int) := by
        rw [IntKind.wrap_u64]
        omega
      have c2 : W4.cell? ⟨R, 2, none⟩ = some (.int .u64 (a.n : Int)) := by simpa using blk_cell kR 2
      have f2 := blk_frozen kR 2
      have HN := Lib.hid (And.intro hn1 hnl)
      have HR4 := Lib.hid (And.intro kR (And.intro kq kx))
      clear hn1 hnl kR kq kx
      go_upto_region 9 with (fail)
      obtain ⟨W5, hW5⟩ : ∃ W5, W5 = W4.setCell ⟨R, 2, none⟩ (.int .u64 (n1 : Int)) := ⟨_, rfl⟩
      rw [← hW5]
      have hqw : w.heap.size ≤ q := by have := H2.out.1.ps; omega
      have hqR : q ≠ R := by have := H2.out.1.lt; omega
      have kq : RepB W5 q 0 ⟨#[]⟩ := by rw [hW5]; exact (Below.heap_setCell _ _ _ _ hqR).trans HR4.out.2.1
      have kx : RepB W5 x cd' tx' := by rw [hW5]; exact (Below.heap_setCell _ _ _ _ H3.out.ne.1).trans HR4.out.2.2
      have e0 : W5.cell? ⟨x, 0, none⟩ = some (.int .u8 (cd' : Int)) := by simpa using blk_cell kx 0
      have e1 : W5.cell? ⟨x, 1, none⟩ = some (.string tx') := by simpa using blk_cell kx 1
      have y0 : W5.cell? ⟨q, 0, none⟩ = some (.int .u8 0) := by simpa using blk_cell kq 0
      have y1 : W5.cell? ⟨q, 1, none⟩ = some (.string ⟨#[]⟩) := by simpa using blk_cell kq 1
      have u0 := blk_frozen kq 0
      have u1 := blk_frozen kq 1
      have H5 := Lib.hid (And.intro hW5 (And.intro hqw hqR))
      clear hW5 kq kx hqw hqR hwr c2 f2 hxw
      go_wp2
      obtain ⟨W6, hW6⟩ : ∃ W6, W6 = (W5.setCell ⟨q, 0, none⟩ (.int .u8 (cd' : Int))).setCell ⟨q, 1, none⟩ (.string tx') := ⟨_, rfl⟩
      rw [← hW6]
      have e6 : W6 = ((W4.setCell ⟨R, 2, none⟩ (.int .u64 ((a.n + 1 : Nat) : Int))).setCell ⟨q, 0, none⟩ (.int .u8 (cd' : Int))).setCell ⟨q, 1, none⟩ (.string tx') := by rw [hW6, H5.out.1, HN.out.1]
      have hfin := H3.out.fin HF.out H2.out.1.lt H2.out.1.below.size H5.out.2.1 H5.out.2.2 H4.out.1 H4.out.2.1 H4.out.2.2 (by have := HN.out; omega) e6
      obtain ⟨k6, F6, g1, g2, g3⟩ := hfin
      have d0 : W6.cell? ⟨q, 0, none⟩ = some (.int .u8 (cd' : Int)) := by simpa using blk_cell k6 0
      have d1 : W6.cell? ⟨q, 1, none⟩ = some (.string tx') := by simpa using blk_cell k6 1
      have e : doA a vv.m = (⟨ps', ss', a.n + 1⟩, (cd', tx'), true) := by
        unfold doA
        rw [HM.out.1, HM.out.2, if_neg H0.out, if_pos HK.out.1.symm, ← HD.out.1, HD.out.2]
      rw [e]
      exact bodyPost_ret (v := .tuple #[ReplyV (cd', tx'), .bool true]) (by simp [results, Tryz.results22, go_sem, d0, d1, ReplyV]) rfl ⟨rfl, F6, g1, g2, g3⟩
    · have e0 : W2.cell? ⟨x, 0, none⟩ = some (.int .u8 (cd : Int)) := by simpa using blk_cell hx2 0
      have e1 : W2.cell? ⟨x, 1, none⟩ = some (.string tx) := by simpa using blk_cell hx2 1
      have y0 : W2.cell? ⟨q, 0, none⟩ = some (.int .u8 0) := by simpa using blk_cell D2.rep 0
      have y1 : W2.cell? ⟨q, 1, none⟩ = some (.string ⟨#[]⟩) := by simpa using blk_cell D2.rep 1
      have u0 := blk_frozen D2.rep 0
      have u1 := blk_frozen D2.rep 1
      have hkn : ¬ (k : Int) = 0 := by omega
      have hkb : ((k : Int) == 0) = false := by simpa using hkn
      have hkc : ((k : Int) != 0) = true := by simp; omega
      have HK0 := Lib.hid hk0
      clear D2 hx2 hqx hk0
      go_wp2
      obtain ⟨W9, hW9⟩ : ∃ W9, W9 = (W2.setCell ⟨q, 0, none⟩ (.int .u8 (cd : Int))).setCell ⟨q, 1, none⟩ (.string tx) := ⟨_, rfl⟩
      rw [← hW9]
      have hD := H2.out.1
      have hqw : w.heap.size ≤ q := by have := hD.ps; omega
      have k9 : RepB W9 q cd tx := by rw [hW9]; exact hD.rep.set cd tx
      have b9 : Below w.heap.size w W9 := by rw [hW9]; exact (hD.below.setCell (p := ⟨q, 0, none⟩) hqw _).setCell (p := ⟨q, 1, none⟩) hqw _
      have d0 : W9.cell? ⟨q, 0, none⟩ = some (.int .u8 (cd : Int)) := by simpa using blk_cell k9 0
      have d1 : W9.cell? ⟨q, 1, none⟩ = some (.string tx) := by simpa using blk_cell k9 1
      have e : doA a vv.m = (a, (cd, tx), false) := by
        unfold doA
        rw [HM.out.1, HM.out.2, if_neg H0.out, if_neg (by rw [← HK.out.1]; exact HK0.out), ← HK.out.2]
      rw [e]
      exact bodyPost_ret (v := .tuple #[ReplyV (cd, tx), .bool false]) (by simp [results, Tryz.results22, go_sem, d0, d1, ReplyV]) rfl ⟨rfl, _, HA.out.1.keep (Only.of_grew (F := fun _ => False) b9) (fun _ _ => id), Only.of_grew b9, fun k hk => .inl hk⟩
end Go.Proofs.YtfjmdkhemnmkpaaGreatDoor

namespace Go.Proofs.YtfjmdkhemnmkpaaGreatDoor
open Go.RowKit
structure LimN (N : Nat) (l : List PV) : Prop where
  len : l.length ≤ N
  each : ∀ p ∈ l, p.1.size ≤ 1000 ∧ p.2.size ≤ 1000
theorem LimN.lim {N : Nat} {l : List PV} (h : LimN N l) (hN : N ≤ 5000) : LimP l := ⟨Nat.le_trans h.len hN, h.each⟩
theorem LimN.nil : LimN 0 [] := ⟨by simp, fun p hp => by cases hp⟩
theorem LimN.more {N M : Nat} {l : List PV} (h : LimN N l) (hN : N ≤ M) : LimN M l := ⟨Nat.le_trans h.len hN, h.each⟩
theorem LimN.without {N : Nat} {l : List PV} (h : LimN N l) (k : ByteArray) : LimN N (withoutP l k) := ⟨Nat.le_trans (withoutP_len l k) h.len, fun p hp => h.each p (List.mem_filter.1 hp).1⟩
theorem LimN.with_ {N : Nat} {l : List PV} (h : LimN N l) {k v : ByteArray} (hk : k.size ≤ 1000) (hv : v.size ≤ 1000) : LimN (N + 1) (withP l k v) := by
  refine ⟨by have := withP_len l k v; have := h.len; omega, fun p hp => ?_⟩
  unfold withP at hp
  rcases List.mem_append.1 hp with hp | hp
  · exact h.each p (List.mem_filter.1 (List.mem_of_mem_take hp)).1
  · rcases List.mem_cons.1 hp with rfl | hp
    · exact ⟨hk, hv⟩
    · exact h.each p (List.mem_filter.1 (List.mem_of_mem_drop hp)).1
theorem LimN.look {N : Nat} {l : List PV} (h : LimN N l) {k v : ByteArray} (hv : lookP l k = some v) : v.size ≤ 1000 := (h.each _ (lookP_mem hv)).2
theorem LimN.put {N : Nat} {l : List PV} (h : LimN N l) {k : ByteArray} {v : Option ByteArray} (hk : k.size ≤ 1000) (hv : ∀ u, v = some u → u.size ≤ 1000) : LimN (N + 1) (putP l k v) := by
  cases v with
  | none => exact h.more (Nat.le_succ _)
  | some u => exact h.with_ hk (hv u rfl)
theorem LimN.rest {N : Nat} {l : List PV} (h : LimN N l) (ks : List ByteArray) : LimN N (restP l ks) := by
  unfold restP
  induction ks generalizing l with
  | nil => exact h
  | cons k ks ih => exact ih (h.without k)
theorem LimN.doP {N : Nat} {l : List PV} (h : LimN N l) (m : CM) : LimN (N + 2) (doP l m).1 := by
  cases hm : m.may with
  | false => unfold Go.Proofs.YtfjmdkhemnmkpaaGreatDoor.doP; rw [if_pos hm]; exact h.more (by omega)
  | true =>
    have hM := CM.may_iff.1 hm
    have hk0 : (keyP m.ks 0).size ≤ 1000 := by have := (hM.each _ (may_key hm)).2; omega
    have hnew : m.new.size ≤ 1000 := by have := hM.new; omega
    rcases may_kinds hm with k | k | k | k | k | k | k | k
    · rw [doP_put hm k rfl]; exact (h.with_ hk0 hnew).more (by omega)
    · cases hl : lookP l (keyP m.ks 0) with
      | none => rw [doP_get0 hm k rfl hl]; exact h.more (by omega)
      | some u => rw [doP_get1 hm k rfl hl]; exact h.more (by omega)
    · cases hl : lookP l (keyP m.ks 0) with
      | none => rw [doP_del0 hm k rfl hl]; exact h.more (by omega)
      | some u => rw [doP_del1 hm k rfl hl]; exact (h.without _).more (by omega)
    · rw [doP_add hm k rfl]
      unfold addP
      cases hs : sumP l (keyP m.ks 0) m.n with
      | none => exact h.more (by omega)
      | some s =>
        refine (h.with_ hk0 ?_).more (by omega)
        have hr : -9223372036854775808 ≤ s ∧ s ≤ 9223372036854775807 := by
          unfold sumP at hs
          split at hs
          · cases hs
          · split at hs
            · rename_i h'
              cases hs; exact h'
            · cases hs
        rw [str_size]
        have := decI_len hr.1 hr.2
        omega
    · cases hl : lookP l (keyP m.ks 0) with
      | none => rw [doP_cas0 hm k rfl hl]; exact h.more (by omega)
      | some u =>
        by_cases ho : u = m.old
        · rw [doP_cas2 hm k rfl hl ho]; exact (h.with_ hk0 hnew).more (by omega)
        · rw [doP_cas1 hm k rfl hl ho]; exact h.more (by omega)
    · rw [doP_swap hm k rfl rfl]
      have hk1 : (keyP m.ks 1).size ≤ 1000 := by have := (hM.each _ (may_key1 hm k)).2; omega
      unfold swapP
      exact (((h.without _).without _).put hk0 (fun u hu => h.look hu)).put hk1 (fun u hu => h.look hu)
    · rw [doP_join hm k]; exact h.more (by omega)
    · rw [doP_clear hm k]; exact (h.rest _).more (by omega)
end Go.Proofs.YtfjmdkhemnmkpaaGreatDoor

namespace Go.Proofs.YtfjmdkhemnmkpaaGreatDoor
def loneM (m : CM) : Bool := decide (4 < (touchK m.ks).length)
def wayM (a b : CM) : Bool := loneM a || loneM b || decide (a.cl = b.cl) || a.ks.any fun k => b.ks.any fun j => decide (k = j)
def nextW (acc : List (CM × Nat)) (m : CM) : Nat := acc.foldl (fun w p => if wayM p.1 m = true then max w (p.2 + 1) else w) 0
def wavesM (l : List CM) : List (CM × Nat) := l.foldl (fun acc m => acc ++ [(m, nextW acc m)]) []
theorem foldW_ge (m : CM) : ∀ (acc : List (CM × Nat)) (w : Nat), w ≤ acc.foldl (fun w p => if wayM p.1 m = true then max w (p.2 + 1) else w) w
  | [], w => Nat.le_refl _
  | p :: acc, w => by
    simp only [List.foldl_cons]
    refine Nat.le_trans ?_ (foldW_ge m acc _)
    split <;> omega
theorem fold_mem (m : CM) : ∀ (acc : List (CM × Nat)) (w : Nat) (p : CM × Nat), p ∈ acc → wayM p.1 m = true → p.2 + 1 ≤ acc.foldl (fun w p => if wayM p.1 m = true then max w (p.2 + 1) else w) w
  | [], _, _, h, _ => by cases h
  | q :: acc, w, p, h, hw => by
    simp only [List.foldl_cons]
    rcases List.mem_cons.1 h with rfl | h
    · refine Nat.le_trans ?_ (foldW_ge m acc _)
      rw [if_pos hw]
      omega
    · exact fold_mem m acc _ p h hw
theorem fold_is (m : CM) : ∀ (acc : List (CM × Nat)) (w : Nat), acc.foldl (fun w p => if wayM p.1 m = true then max w (p.2 + 1) else w) w = w ∨ ∃ p ∈ acc, wayM p.1 m = true ∧ acc.foldl (fun w p => if wayM p.1 m = true then max w (p.2 + 1) else w) w = p.2 + 1
  | [], w => .inl rfl
  | q :: acc, w => by
    simp only [List.foldl_cons]
    rcases fold_is m acc (if wayM q.1 m = true then max w (q.2 + 1) else w) with h | ⟨p, hp, h1, h2⟩
    · rw [h]
      by_cases hq : wayM q.1 m = true
      · rw [if_pos hq]
        by_cases hm : q.2 + 1 ≤ w
        · exact .inl (by omega)
        · exact .inr ⟨q, List.mem_cons_self .., hq, by omega⟩
      · rw [if_neg hq]
        exact .inl rfl
    · exact .inr ⟨p, List.mem_cons_of_mem _ hp, h1, h2⟩
theorem wavesM_succ {l : List CM} {j : Nat} (h : j < l.length) : wavesM (l.take (j + 1)) = wavesM (l.take j) ++ [(l[j], nextW (wavesM (l.take j)) l[j])] := by
  unfold wavesM
  rw [List.take_succ_eq_append_getElem h, List.foldl_append]
  rfl
theorem wavesM_map : ∀ (n : Nat) (l : List CM), n ≤ l.length → (wavesM (l.take n)).map (·.1) = l.take n
  | 0, l, _ => by simp [wavesM]
  | n + 1, l, h => by
    rw [wavesM_succ (by omega), List.map_append, wavesM_map n l (by omega), List.take_succ_eq_append_getElem (by omega)]
    rfl
theorem wavesM_len (l : List CM) : (wavesM l).length = l.length := by
  have := congrArg List.length (wavesM_map l.length l (Nat.le_refl _))
  simpa using this
def waveI (l : List CM) (i : Nat) : Nat := ((wavesM l)[i]?.map (·.2)).getD 0
theorem wavesM_prefix (l : List CM) : ∀ (n : Nat), n ≤ l.length → wavesM l = wavesM (l.take n) ++ (wavesM l).drop n := by
  intro n hn
  have key : ∀ d, n + d ≤ l.length → ∃ r, wavesM (l.take (n + d)) = wavesM (l.take n) ++ r := by
    intro d
    induction d with
    | zero => intro _; exact ⟨[], by simp⟩
    | succ d ih =>
      intro hd
      obtain ⟨r, hr⟩ := ih (by omega)
      refine ⟨r ++ [(l[n + d]'(by omega), nextW (wavesM (l.take (n + d))) (l[n + d]'(by omega)))], ?_⟩
      rw [show n + (d + 1) = n + d + 1 from rfl, wavesM_succ (by omega), hr, List.append_assoc]
  obtain ⟨r, hr⟩ := key (l.length - n) (by omega)
  rw [show n + (l.length - n) = l.length by omega, List.take_length] at hr
  have hlen : (wavesM (l.take n)).length = n := by rw [wavesM_len]; simp; omega
  rw [hr, List.drop_left' hlen]
theorem wavesM_at {l : List CM} {i : Nat} (h : i < l.length) : (wavesM l)[i]? = some (l[i], nextW (wavesM (l.take i)) l[i]) := by
  rw [wavesM_prefix l (i + 1) (by omega), List.getElem?_append_left (by rw [wavesM_len]; simp; omega), wavesM_succ h]
  have hlen : (wavesM (l.take i)).length = i := by rw [wavesM_len]; simp; omega
  rw [List.getElem?_append_right (by omega), hlen]
  simp
theorem waveI_at {l : List CM} {i : Nat} (h : i < l.length) : waveI l i = nextW (wavesM (l.take i)) l[i] := by
  rw [waveI, wavesM_at h]
  rfl
theorem take_mem {l : List CM} {i k : Nat} (hk : k < i) (hi : i < l.length) : (l[k], waveI l k) ∈ wavesM (l.take i) := by
  have hlen : (wavesM (l.take i)).length = i := by rw [wavesM_len]; simp; omega
  have h1 := wavesM_at (l := l) (i := k) (by omega)
  rw [wavesM_prefix l i (by omega), List.getElem?_append_left (by omega)] at h1
  rw [waveI_at (by omega)]
  exact List.mem_of_getElem? h1
theorem wave_lt {l : List CM} {i k : Nat} (hk : k < i) (hi : i < l.length) (h : wayM (l[k]) l[i] = true) : waveI l k < waveI l i := by
  rw [waveI_at hi]
  exact fold_mem _ _ 0 _ (take_mem hk hi) h
theorem wave_prev {l : List CM} {i : Nat} (hi : i < l.length) (h : 0 < waveI l i) : ∃ k, k < i ∧ waveI l k + 1 = waveI l i := by
  rw [waveI_at hi] at h ⊢
  rcases fold_is l[i] (wavesM (l.take i)) 0 with e | ⟨p, hp, _, e⟩
  · unfold nextW at h
    omega
  · obtain ⟨k, hk, rfl⟩ := List.mem_iff_getElem.1 hp
    have hlen : (wavesM (l.take i)).length = i := by rw [wavesM_len]; simp; omega
    refine ⟨k, by omega, ?_⟩
    have h1 := wavesM_at (l := l) (i := k) (by omega)
    rw [wavesM_prefix l i (by omega), List.getElem?_append_left (by omega), List.getElem?_eq_getElem hk] at h1
    have h2 : ((wavesM (l.take i))[k]).2 = nextW (wavesM (l.take k)) (l[k]'(by omega)) := congrArg Prod.snd (Option.some.inj h1)
    rw [waveI_at (l := l) (i := k) (by omega), ← h2]
    exact e.symm
theorem wave_below {l : List CM} : ∀ (n i : Nat), i < l.length → waveI l i = n → ∀ v, v ≤ n → ∃ k, k ≤ i ∧ waveI l k = v
  | 0, i, hi, h, v, hv => ⟨i, Nat.le_refl _, by omega⟩
  | n + 1, i, hi, h, v, hv => by
    by_cases he : v = n + 1
    · exact ⟨i, Nat.le_refl _, by omega⟩
    · obtain ⟨k, hk, e⟩ := wave_prev hi (by omega)
      obtain ⟨k', h1, h2⟩ := wave_below (l := l) n k (by omega) (by omega) v (by omega)
      exact ⟨k', by omega, h2⟩
theorem waveI_le {l : List CM} : ∀ (i : Nat), i < l.length → waveI l i ≤ i := by
  intro i
  induction i using Nat.strongRecOn with
  | _ i ih =>
    intro hi
    rcases Nat.eq_zero_or_pos (waveI l i) with h | h
    · omega
    · obtain ⟨k, hk, e⟩ := wave_prev hi h
      have := ih k hk (by omega)
      omega
def topW (l : List CM) : Nat → Int
  | 0 => -1
  | n + 1 => max (topW l n) (waveI l n : Int)
theorem topW_ge (l : List CM) : ∀ (n i : Nat), i < n → (waveI l i : Int) ≤ topW l n
  | 0, i, h => by omega
  | n + 1, i, h => by
    simp only [topW]
    by_cases e : i = n
    · subst e; omega
    · have := topW_ge l n i (by omega)
      omega
theorem topW_lo (l : List CM) : ∀ n, -1 ≤ topW l n
  | 0 => by simp [topW]
  | n + 1 => by have := topW_lo l n; simp only [topW]; omega
theorem topW_is (l : List CM) : ∀ (n : Nat), n ≤ l.length → ∀ v : Nat, (v : Int) ≤ topW l n → ∃ k, k < n ∧ waveI l k = v
  | 0, _, v, h => by simp only [topW] at h; omega
  | n + 1, hn, v, h => by
    simp only [topW] at h
    by_cases hv : (v : Int) ≤ topW l n
    · obtain ⟨k, h1, h2⟩ := topW_is l n (by omega) v hv
      exact ⟨k, by omega, h2⟩
    · obtain ⟨k, h1, h2⟩ := wave_below (l := l) (waveI l n) n (by omega) rfl v (by omega)
      exact ⟨k, by omega, h2⟩
end Go.Proofs.YtfjmdkhemnmkpaaGreatDoor

namespace Go.Proofs.YtfjmdkhemnmkpaaGreatDoor
def numW (l : List CM) : Nat := (topW l l.length + 1).toNat
def groupsM (l : List CM) : List (List Nat) := (List.range (numW l)).map fun w => (List.range l.length).filter fun i => decide (waveI l i = w)
theorem filter_or_perm (p q : Nat → Bool) (hpq : ∀ x, ¬ (p x = true ∧ q x = true)) : ∀ l : List Nat, (l.filter p ++ l.filter q).Perm (l.filter fun x => p x || q x)
  | [] => List.Perm.refl _
  | x :: l => by
    have ih := filter_or_perm p q hpq l
    cases hp : p x with
    | true =>
      have hq : q x = false := by cases hq : q x with | false => rfl | true => exact absurd ⟨hp, hq⟩ (hpq x)
      simp only [List.filter_cons, hp, hq, if_true, Bool.or_false, List.cons_append]
      exact ih.cons x
    | false =>
      cases hq : q x with
      | true =>
        simp only [List.filter_cons, hp, hq, if_true, Bool.false_or]
        exact List.perm_middle.trans (ih.cons x)
      | false => simpa [List.filter_cons, hp, hq] using ih
theorem groups_below (l : List CM) : ∀ n, (((List.range n).map fun w => (List.range l.length).filter fun i => decide (waveI l i = w)).flatten).Perm ((List.range l.length).filter fun i => decide (waveI l i < n))
  | 0 => by simp
  | n + 1 => by
    rw [List.range_succ, List.map_append, List.flatten_append]
    have ih := groups_below l n
    have h2 := filter_or_perm (fun i => decide (waveI l i < n)) (fun i => decide (waveI l i = n)) (fun x h => by simp at h; omega) (List.range l.length)
    have e : (fun i => decide (waveI l i < n) || decide (waveI l i = n)) = fun i => decide (waveI l i < n + 1) := by
      funext i
      by_cases h : waveI l i < n
      · have h' : waveI l i < n + 1 := by omega
        simp [h, h']
      · by_cases h' : waveI l i = n
        · simp [h']
        · have h3 : ¬ waveI l i < n + 1 := by omega
          simp [h, h', h3]
    rw [e] at h2
    refine List.Perm.trans ?_ h2
    refine ih.append ?_
    simp
theorem wave_num {l : List CM} {i : Nat} (h : i < l.length) : waveI l i < numW l := by
  have := topW_ge l l.length i h
  unfold numW
  omega
theorem groups_perm (l : List CM) : (groupsM l).flatten.Perm (List.range l.length) := by
  have h := groups_below l (numW l)
  rwa [List.filter_eq_self.2 (fun i hi => by simpa using wave_num (List.mem_range.1 hi))] at h
theorem groups_wave (l : List CM) (k : Nat) (g : List Nat) (h : (groupsM l)[k]? = some g) : ∀ i ∈ g, waveI l i = 0 + k := by
  unfold groupsM at h
  rw [List.getElem?_map] at h
  cases hk : (List.range (numW l))[k]? with
  | none => rw [hk] at h; cases h
  | some w =>
    rw [hk] at h
    have hw : w = k := by
      have h1 := (List.getElem?_eq_some_iff.1 hk)
      obtain ⟨h1, h2⟩ := h1
      rw [List.getElem_range] at h2
      exact h2.symm
    cases h
    intro i hi
    have := (List.mem_filter.1 hi).2
    simp at this
    omega
theorem groups_len (l : List CM) : (groupsM l).length = numW l := by rw [groupsM, List.length_map, List.length_range]
theorem groups_get (l : List CM) {w : Nat} (h : w < (groupsM l).length) : (groupsM l)[w] = (List.range l.length).filter fun i => decide (waveI l i = w) := by
  simp [groupsM]
end Go.Proofs.YtfjmdkhemnmkpaaGreatDoor
