/- frame.frames: what its rounds keep, and what it owes to the loop over it. -/
import Derived.Test.YtbhncffeoolhfaaDoorFrFirst
import Derived.Test.YtbhncffeoolhfaaDoorLoop2
import Derived.Test.YtbhncffeoolhfaaDoorVar4
namespace Go.Proofs.YtbhncffeoolhfaaDoor
open Go.RowKit Go.Shelf
attribute [local go_sem] Oper.semAt_some

/-- Blocks of cells stay, but for those of the types T. -/
def SameT (T : List TypeId) (W W' : World) : Prop := ∀ (k : Nat) (cs : Array Value) (t : TypeId), t ∉ T → W.heap[k]? = some (.cells cs t (0, 0)) → W'.heap[k]? = some (.cells cs t (0, 0))
theorem SameT.trans {T U : List TypeId} {a b c : World} (h : SameT T a b) (k : SameT U b c) : SameT (T ++ U) a c := fun i cs t ht hi => by
  rw [List.mem_append, not_or] at ht
  exact k i cs t ht.2 (h i cs t ht.1 hi)
theorem SameT.grew {T : List TypeId} {a b : World} (h : Below a.heap.size a b) : SameT T a b := fun i _ _ _ hi => (h.block i (Array.getElem?_eq_some_iff.1 hi).1).trans hi
theorem SameT.set {W : World} {r i : Nat} {cs : Array Value} {t0 : TypeId} (h : W.heap[r]? = some (.cells cs t0 (0, 0))) (u : Value) : SameT [t0] W (W.setCell ⟨r, i, none⟩ u) := fun k cs' t ht hk =>
  (Below.heap_setCell _ _ _ _ (fun e => by subst e; rw [h] at hk; cases hk; simp at ht)).trans hk
theorem SameT.grown {W W' : World} {row : Option Nat} {t0 : TypeId} (h : W.grownBy W' row) (hr : ∀ r, row = some r → ∃ cs, W.heap[r]? = some (.cells cs t0 (0, 0))) : SameT [t0] W W' := fun k cs' t ht hk =>
  (h.block k (Array.getElem?_eq_some_iff.1 hk).1 (fun e => by
    obtain ⟨cs, hc⟩ := hr k e.symm
    rw [hc] at hk; cases hk; simp at ht)).trans hk
theorem SameT.drew {T : List TypeId} (W : World) : SameT T W W.drew := fun _ _ _ _ h => h
theorem SameT.abides {B : Nat} {W W' : World} {row : Option Nat} {T : List TypeId} (hg : W.grownBy W' row) (hr : ∀ r, row = some r → B ≤ r ∧ ∃ o, W.heap[r]? = some o ∧ o.isCells = false) : SameT T W W' := fun _ _ _ _ h =>
  Abides.block (B := B) W W' row h hg hr
theorem SameT.data {T : List TypeId} {W W' : World} {A : Option Addr} {bs : List UInt8} (h : SameT T W W') (hd : Data W A bs) (ht : 5 ∉ T) : Data W' A bs := hd.kept fun b cur hb => h b cur _ ht hb
theorem SameT.own {T : List TypeId} {W W' : World} {base n : Nat} {e : TypeId} {v : Value} {vs : List Value} (h : SameT T W W') (ho : W.ownsRow base e 1 v n vs) (he : e ∉ T) : W'.ownsRow base e 1 v n vs := by
  refine ⟨ho.1, ?_⟩
  rcases ho.2 with h2 | ⟨g, cap, cur, rfl, b, r, s⟩
  · exact .inl h2
  · exact .inr ⟨g, cap, cur, rfl, b, h _ _ _ he r, s⟩
theorem own_typed {W : World} {base n : Nat} {e : TypeId} {v : Value} {vs : List Value} (ho : W.ownsRow base e 1 v n vs) : ∀ r, v.ownBlock = some r → ∃ cs, W.heap[r]? = some (.cells cs e (0, 0)) := by
  intro r hr
  rcases ho.2 with ⟨rfl, _⟩ | ⟨g, cap, cur, rfl, _, h, _⟩
  · cases hr
  · cases hr; exact ⟨_, h⟩

/-- v is a slice of the bytes X, which lie in a block of bytes. -/
def IsD (w : World) (v : Value) (X : List UInt8) : Prop := ∃ A L c, v = .slice A L c ∧ L = X.length ∧ Data w A X
theorem IsD.same {T : List TypeId} {W W' : World} {v : Value} {X : List UInt8} (h : IsD W v X) (hs : SameT T W W') (ht : 5 ∉ T) : IsD W' v X := by
  obtain ⟨A, L, c, hv, hL, hd⟩ := h
  exact ⟨A, L, c, hv, hL, hs.data hd ht⟩
theorem IsD.isB {w : World} {v : Value} {X : List UInt8} (h : IsD w v X) : IsB w v X := by
  obtain ⟨A, L, c, hv, hL, hd⟩ := h
  exact ⟨A, L, c, hv, hL, hd.has⟩

/-- What frame.All has behind some frames: their contents, their end, the error. -/
def AS (w : World) (p : Nat) (dn : List (List UInt8)) (e : Nat) (W : World) : Prop :=
  (∃ v vs, W.heap[w.heap.size]? = some (.cells #[v] 30 (0, 0)) ∧ W.ownsRow w.heap.size 22 1 v dn.length vs ∧ AllB (IsD W) vs dn) ∧
  W.heap[w.heap.size + 1]? = some (.cells #[.int .i64 (p : Int)] 3 (0, 0)) ∧ W.heap[w.heap.size + 2]? = some (.cells #[.int .i64 (e : Int)] 24 (0, 0)) ∧ Below w.heap.size w W
theorem AS.keep {w W W' : World} {p e : Nat} {dn : List (List UInt8)} (h : AS w p dn e W) (hs : SameT [] W W') (hb : Below w.heap.size w W') : AS w p dn e W' := by
  obtain ⟨⟨v, vs, h1, h2, h3⟩, h4, h5, _⟩ := h
  exact ⟨⟨v, vs, hs _ _ _ (by simp) h1, hs.own h2 (by simp), h3.mono fun _ _ h => h.same hs (by simp)⟩, hs _ _ _ (by simp) h4, hs _ _ _ (by simp) h5, hb⟩
theorem AS.grew {w W W' : World} {p e : Nat} {dn : List (List UInt8)} (h : AS w p dn e W) (hg : Below W.heap.size W W') : AS w p dn e W' :=
  h.keep (SameT.grew hg) (h.2.2.2.trans (Below.mono hg h.2.2.2.size))
theorem Abides.as {B : Nat} {w : World} {p e : Nat} {dn : List (List UInt8)} (hB : w.heap.size ≤ B) : Abides B (AS w p dn e) := by
  intro W W' row h hg hr
  exact h.keep (SameT.abides hg hr) (Abides.below (Nat.le_refl _) hB W W' row h.2.2.2 hg hr)
theorem AS.size {w W : World} {p e : Nat} {dn : List (List UInt8)} (h : AS w p dn e W) : w.heap.size + 2 < W.heap.size := (Array.getElem?_eq_some_iff.1 h.2.2.1).1

/-- A call of yield: the block and the value of the part, the error, where it is and what was ahead. -/
structure Yp where
  D : Nat
  A2 : Option Addr
  L2 : Nat
  c2 : Nat
  n : Nat
  e : Nat
  p : Nat
  dn : List (List UInt8)
def Yp.part (x : Yp) : Array Value := #[.slice x.A2 x.L2 x.c2, .int .i64 (x.n : Int)]
def Yp.args (x : Yp) : Array Value := #[.agg x.part, .int .i64 (x.e : Int)]

section
variable (w : World) (bs : List UInt8)
/-- What was told so far is a beginning. -/
def Sofar (p : Nat) (dn : List (List UInt8)) : Prop := al bs = (dn ++ (al (bs.drop p)).1, p + (al (bs.drop p)).2.1, (al (bs.drop p)).2.2)
def YK (x : Yp) : Prop := Sofar bs x.p x.dn ∧ bs.drop x.p ≠ [] ∧
  ((x.e = 0 ∧ ∃ X, tk (bs.drop x.p) = .ok X x.n ∧ x.L2 = X.length ∧ HasA w w.heap.size x.A2 X) ∨ (x.e ≠ 0 ∧ tk (bs.drop x.p) = .err x.e))
def YI0 (A : Option Addr) (L c : Nat) (W : World) : Prop := AS w 0 [] 0 W ∧ W.heap[w.heap.size + 3]? = some (.cells #[.slice A L c] 22 (0, 0))
def YIy (x : Yp) (W : World) : Prop := AS w x.p x.dn 0 W ∧ W.heap[x.D]? = some (.cells x.part 46 (0, 0)) ∧ Hid (YK w bs x)
def YIo (x : Yp) (W : World) : Prop := W.heap[x.D]? = some (.cells x.part 46 (0, 0)) ∧ x.e = 0 ∧ ∃ X, Hid (tk (bs.drop x.p) = .ok X x.n) ∧ AS w (x.p + x.n) (x.dn ++ [X]) 0 W
def YIx (c : Code) (W : World) : Prop := Hid (c = .exit 0) ∧ ∃ p dn e, AS w p dn e W ∧ Hid (al bs = (dn, p, e))
def YId (W : World) : Prop := ∃ p dn, AS w p dn 0 W ∧ Hid (al bs = (dn, p, 0))
end
def sliceLen : Value → Nat
  | .slice _ n _ => n
  | _ => 0

set_option maxRecDepth 100000 in
set_option maxHeartbeats 2000000 in
theorem frames_seq (n : Nat) (hn : 1 ≤ n) (w : World) (A : Option Addr) (L c : Nat) (bs : List UInt8) (hL : L = bs.length) (hlen : L ≤ 200000) (hcap : L ≤ c) (hT : Tab w) (hA : HasA w w.heap.size A bs) (B : Nat) :
    TiedSeq Fence.wide n Tryd.prog 27 #[] #[.pointer (some ⟨w.heap.size + 3, 0, none⟩)] Yp.args B
      (YI0 w A L c) (YId w bs) (YIy w bs) (YIo w bs) (YIx w bs) (YIx w bs) := by
  intro l G Gx hG hGx hY W h0 hGW
  have HL := Lib.hid hL
  have HA := Lib.hid hA
  have HT := Lib.hid hT
  have hli : (L : Int) ≤ 200000 := by omega
  refine callsIn_of_wp Tryd.func27 rfl trivial ?_ rfl
  simp only [Tryd.ntmps27, List.size_toArray, List.length_cons, List.length_nil, Nat.reduceAdd, Nat.reduceSub, Array.replicate_succ, Array.replicate_zero, List.push_toArray, List.append_toArray, List.nil_append, List.cons_append]
  have HY := Lib.hid hY
  have H0 := Lib.hid h0
  have hbx : W.cell? ⟨w.heap.size + 3, 0, none⟩ = some (.slice A L c) := by simpa using blk_cell h0.2 0
  clear hY h0 hL hA hT
  gi_wp2
  gi_loopw [3] (fun v wr => ∃ (p : Nat) (dn : List (List UInt8)) (A' : Option Addr) (M c' : Nat), v = .slice A' M c' ∧ M ≤ c' ∧ M ≤ 200000 ∧ Hid (p + M = L) ∧ Hid (HasA w w.heap.size A' (bs.drop p)) ∧ Hid (AS w p dn 0 wr) ∧ Hid (Sofar bs p dn) ∧ Hid (G wr))
    (fun v _ => sliceLen v)
  case atStart =>
    exact ⟨0, [], A, L, c, rfl, hcap, hlen, Nat.zero_add _, HA.out, H0.out.1, by simp [Sofar, Hid], hGW⟩
  case round =>
    obtain ⟨p, dn, A', M, c', rfl, hMc, hM2, hpM, hA', hst, hso, hGw⟩ := hrel
    have hMi : (M : Int) ≤ 200000 := by omega
    by_cases hM0 : 0 < M
    · have hM0i : (0 : Int) < M := by omega
      have hML : M = (bs.drop p).length := by rw [List.length_drop, ← HL.out]; have := hpM.out; omega
      have HML := Lib.hid hML
      have hne : bs.drop p ≠ [] := fun e => by rw [e] at hML; simp at hML; omega
      have HNE := Lib.hid hne
      obtain ⟨b, o, hAe, -, -⟩ := hA'.out hne
      subst hAe
      clear hML hne
      gi_wp2_with (refine ⟨trivial, ?_⟩; gi_at_call 19; refine (callsIn_wide.2 (first_any _ M c' (bs.drop p) HML.out (by omega) hMc wr w.heap.size hst.out.2.2.2.size (HT.out.grew hst.out.2.2.2) (hA'.out.below hst.out.2.2.2))).mono ?_)
      rintro e W1 (⟨X, m, v, h1, rfl, h3, h4⟩ | ⟨k, h1, rfl, h4⟩)
      · obtain ⟨A2, L2, c2, rfl, hxl, hA2⟩ := h3
        have htp := tk_pos h1
        have hm5 := htp.1
        have hmM : m ≤ M := by rw [HML.out]; exact htp.2
        have hst1 : AS w p dn 0 W1 := hst.out.grew h4
        have hA2w : HasA w w.heap.size A2 X := hA2.keep fun q hq => (hst1.2.2.2.cell hq).symm
        have H1 := Lib.hid h1
        have hblk : (W1.alloc (.cells #[.slice A2 L2 c2, .int .i64 (m : Int)] 46)).heap[W1.heap.size]? = some (.cells #[.slice A2 L2 c2, .int .i64 (m : Int)] 46 (0, 0)) := World.alloc_heap_new W1 _
        have hga : Below W1.heap.size W1 (W1.alloc (.cells #[.slice A2 L2 c2, .int .i64 (m : Int)] 46)) := (Below.refl _ _).alloc (Nat.le_refl _) _
        have hG2 := hG _ _ hGw.out (KeepsFrom.of_grownBy (grownBy_trans (grownBy_of_below (r := none) h4) (grownBy_of_below (r := none) hga)) (fun j e => by cases e))
        obtain ⟨fn, tmps, assign, body, hy, hRR⟩ := HY.out ⟨W1.heap.size, A2, L2, c2, m, 0, p, dn⟩ _ ⟨hst1.grew hga, hblk, hso.out, HNE.out, .inl ⟨rfl, X, h1, hxl, hA2w⟩⟩ hG2
        replace hy := show (Instr.yield l #[.agg #[.slice A2 L2 c2, .int .i64 (m : Int)], .int .i64 0]).run Tryd.prog (W1.alloc (.cells #[.slice A2 L2 c2, .int .i64 (m : Int)] 46)) = _ from hy
        have hmi : (m : Int) ≤ M := by omega
        have hmc : (m : Int) ≤ c' := by omega
        have HXL := Lib.hid hxl
        clear h1 h4 hst1 hA2 hA2w hblk hga hG2 htp hxl
        gi_wp2
        refine hRR.mono ?_
        rintro e W3 (⟨rfl, hIo, hG3⟩ | ⟨rfl, cc, hIx, hGx3⟩)
        · obtain ⟨hblk3, -, X', hX', hst3⟩ := hIo
          obtain rfl : X' = X := by have := hX'.out.symm.trans H1.out; injection this
          have HX' := Lib.hid hX'.out
          have HS3 := Lib.hid hst3
          have HG3 := Lib.hid hG3
          have hc1 : W3.cell? ⟨W1.heap.size, 1, none⟩ = some (.int .i64 (m : Int)) := by
            have := blk_cell hblk3 1
            simpa [Yp.part] using this
          have hso2 : Sofar bs (p + m) (dn ++ [X']) := by
            unfold Sofar
            have h := hso.out
            unfold Sofar at h
            rw [h, al_ok H1.out, List.drop_drop]
            simp [Nat.add_assoc]
          have HSO := Lib.hid hso2
          have hA2' := Lib.hid ((hA'.out.cut b o m rfl))
          clear hX' hst3 hG3 hblk3 hso2 hy
          by_cases hcm : c' = m
          · subst hcm
            gi_wp2
            refine ⟨⟨p + c', dn ++ [X'], _, 0, 0, rfl, Nat.le_refl _, by omega, ?_, ?_, HS3.out, HSO.out, HG3.out⟩, ?_⟩
            · have := hpM.out; show p + c' + 0 = L; omega
            · have h0 : bs.drop (p + c') = [] := List.drop_of_length_le (by rw [← HL.out]; have := hpM.out; omega)
              show HasA _ _ _ _
              rw [h0]; exact HasA.nil _ _ _
            · simp only [sliceLen]; omega
          · have hcm' : ¬ m = c' := fun h => hcm h.symm
            gi_wp2
            refine ⟨⟨p + m, dn ++ [X'], _, M - m, _, rfl, by omega, by omega, ?_, ?_, HS3.out, HSO.out, HG3.out⟩, ?_⟩
            · have := hpM.out; show p + m + (M - m) = L; omega
            · have h := hA2'.out
              rw [List.drop_drop] at h
              exact h
            · simp only [sliceLen]; omega
        · have HIx := Lib.hid hIx
          have HGx3 := Lib.hid hGx3
          clear hIx hGx3 hy
          gi_wp2
          refine bodyPost_ret (results_none rfl _ _ _) rfl ?_
          exact ⟨⟨_, rfl⟩, .inr ⟨cc, HIx.out, HGx3.out⟩⟩
      · have hk0 : k ≠ 0 := fun e => by subst e; exact tk_err_pos _ h1
        have hst1 : AS w p dn 0 W1 := hst.out.grew h4
        have hblk : (W1.alloc (.cells #[.slice none 0 0, .int .i64 0] 46)).heap[W1.heap.size]? = some (.cells #[.slice none 0 0, .int .i64 0] 46 (0, 0)) := World.alloc_heap_new W1 _
        have hga : Below W1.heap.size W1 (W1.alloc (.cells #[.slice none 0 0, .int .i64 0] 46)) := (Below.refl _ _).alloc (Nat.le_refl _) _
        have hG2 := hG _ _ hGw.out (KeepsFrom.of_grownBy (grownBy_trans (grownBy_of_below (r := none) h4) (grownBy_of_below (r := none) hga)) (fun j e => by cases e))
        obtain ⟨fn, tmps, assign, body, hy, hRR⟩ := HY.out ⟨W1.heap.size, none, 0, 0, 0, k, p, dn⟩ _ ⟨hst1.grew hga, hblk, hso.out, HNE.out, .inr ⟨hk0, h1⟩⟩ hG2
        replace hy := show (Instr.yield l #[.agg #[.slice none 0 0, .int .i64 0], .int .i64 (k : Int)]).run Tryd.prog (W1.alloc (.cells #[.slice none 0 0, .int .i64 0] 46)) = _ from hy
        clear h1 h4 hst1 hblk hga hG2
        gi_wp2
        refine hRR.mono ?_
        rintro e W3 (⟨rfl, hIo, hG3⟩ | ⟨rfl, cc, hIx, hGx3⟩)
        · exact absurd hIo.2.1 hk0
        · have HIx := Lib.hid hIx
          have HGx3 := Lib.hid hGx3
          clear hIx hGx3 hy
          gi_wp2
          refine bodyPost_ret (results_none rfl _ _ _) rfl ?_
          exact ⟨⟨_, rfl⟩, .inr ⟨cc, HIx.out, HGx3.out⟩⟩
    · have hM00 : M = 0 := by omega
      subst hM00
      have hal : al bs = (dn, p, 0) := by
        have h := hso.out
        unfold Sofar at h
        have h0 : bs.drop p = [] := List.drop_of_length_le (by rw [← HL.out]; have := hpM.out; omega)
        rw [h0, al_nil] at h
        simpa using h
      have HAL := Lib.hid hal
      clear hal
      gi_wp2
      go_end0
      exact ⟨⟨_, rfl⟩, .inl ⟨⟨p, dn, hst.out, HAL.out⟩, hGw.out⟩⟩
end Go.Proofs.YtbhncffeoolhfaaDoor
