/- What stays of a reader and of rows of texts where other blocks change; how much a reading takes. The program's takeKeys: a command's keys off a reader. The program's Take: a command off a reader. Rows of commands that a call owns; the program's takeAll: a batch's commands off a reader. The program's Parse: a batch of bytes. -/
import Derived.Test.YtfaplmpenlbajaaDoorOwnS
import Derived.Test.YtfaplmpenlbajaaDoorSameT
import Derived.Test.YtfaplmpenlbajaaDoorRdT
import Derived.Test.YtfaplmpenlbajaaDoorRdI
import Derived.Test.YtfaplmpenlbajaaDoorRdMath
import Derived.Test.YtfaplmpenlbajaaDoorCmRead
import Derived.Test.YtfaplmpenlbajaaDoorMCqB
import Derived.Test.YtfaplmpenlbajaaDoorRdB
import Derived.Test.YtfaplmpenlbajaaDoorRdD
-- CqRa
namespace Go.Proofs.YtfaplmpenlbajaaDoor
open Go.RowKit

theorem RdQ.same {T : List TypeId} {w w' : World} {R lim : Nat} {s : RdS} (h : RdQ w R lim s) (hs : SameT T w w') (h1 : 61 ∉ T) (h2 : 5 ∉ T) : RdQ w' R lim s := by
  obtain ⟨bs', ⟨A, L, c, hh, hL, hc, hm, hd⟩, k2, k3⟩ := h
  exact ⟨bs', ⟨A, L, c, hs _ _ _ h1 hh, hL, hc, hm, hs.data hd h2⟩, k2, k3⟩
theorem RdQ.lt {w : World} {R lim : Nat} {s : RdS} (h : RdQ w R lim s) : R < w.heap.size := by
  obtain ⟨bs', h1, _⟩ := h
  exact h1.lt
theorem RdQ.typed {w : World} {R lim : Nat} {s : RdS} (h : RdQ w R lim s) : ∀ r, some R = some r → ∃ cs, w.heap[r]? = some (.cells cs 61 (0, 0)) := by
  obtain ⟨bs', ⟨A, L, c, hh, _⟩, _⟩ := h
  intro r e
  cases e
  exact ⟨_, hh⟩
/-- A call on the reader leaves blocks of all other types. -/
theorem RdQ.stays {w w' : World} {R lim : Nat} {s : RdS} (h : RdQ w R lim s) (hg : w.grownBy w' (some R)) : SameT [61] w w' := SameT.grown hg h.typed
theorem SameT.mono {T U : List TypeId} {a b : World} (h : SameT T a b) (hs : ∀ t ∈ T, t ∈ U) : SameT U a b := fun k cs t ht hk => h k cs t (fun h' => ht (hs t h')) hk
theorem own_typedN {W : World} {base n z : Nat} {e : TypeId} {v : Value} {vs : List Value} (ho : W.ownsRow base e z v n vs) : ∀ r, v.ownBlock = some r → ∃ cs, W.heap[r]? = some (.cells cs e (0, 0)) := by
  intro r hr
  rcases ho.2 with ⟨rfl, _⟩ | ⟨g, cap, cur, rfl, _, h, _⟩
  · cases hr
  · cases hr; exact ⟨_, h⟩
theorem SameT.ownN {T : List TypeId} {W W' : World} {base n z : Nat} {e : TypeId} {v : Value} {vs : List Value} (h : SameT T W W') (ho : W.ownsRow base e z v n vs) (he : e ∉ T) : W'.ownsRow base e z v n vs := by
  refine ⟨ho.1, ?_⟩
  rcases ho.2 with h2 | ⟨g, cap, cur, rfl, b, r, s⟩
  · exact .inl h2
  · exact .inr ⟨g, cap, cur, rfl, b, h _ _ _ he r, s⟩
theorem OwnS.same {T : List TypeId} {W W' : World} {base : Nat} {v : Value} {l : List ByteArray} (h : OwnS base W v l) (hs : SameT T W W') (he : 9 ∉ T) : OwnS base W' v l := hs.ownN h he
theorem grownBy_new {w W W' : World} {r row : Option Nat} (h : w.grownBy W r) (k : W.grownBy W' row) (hr : ∀ x, row = some x → w.heap.size ≤ x) : w.grownBy W' r :=
  ⟨k.os.trans h.os, k.tape.trans h.tape, k.output.trans h.output, Nat.le_trans h.size k.size, fun i hi hne => (k.block i (Nat.lt_of_lt_of_le hi h.size) (fun e => by have := hr i e.symm; omega)).trans (h.block i hi hne)⟩
theorem grownBy_below {w W W' : World} {r : Option Nat} (h : w.grownBy W r) (k : Below W.heap.size W W') : w.grownBy W' r := grownBy_trans h (grownBy_of_below k)

theorem u_left (s : RdS) : s.u.2.bs.length ≤ s.bs.length := by
  by_cases h0 : s.e = 0
  · cases hr : rdU s.bs with
    | short => rw [RdS.u_short h0 hr]; simp
    | form r => rw [RdS.u_form h0 hr]; simp
    | ok n r =>
      rw [RdS.u_ok h0 hr, (rdU_ok hr).1]
      simp
  · rw [RdS.u_err h0]; simp
theorem u_zero {s : RdS} (h : s.u.2.e ≠ 0) : s.u.1 = 0 ∧ s.u.2.bs = [] := by
  by_cases h0 : s.e = 0
  · cases hr : rdU s.bs with
    | short => rw [RdS.u_short h0 hr]; simp
    | form r => rw [RdS.u_form h0 hr]; simp
    | ok n r => rw [RdS.u_ok h0 hr] at h; exact absurd rfl h
  · rw [RdS.u_err h0]; simp
theorem t_left {lim : Nat} {s : RdS} (h : (s.t lim).2.e = 0) : (s.t lim).2.bs.length + 1 ≤ s.bs.length := by
  have := (Puts.t lim s h).2
  have e := congrArg List.length this
  rw [List.length_append, txt, List.length_append] at e
  have hv : 0 < (vb (tR lim s).1.size).length := List.length_pos_iff.2 (vb_ne _)
  have hq : (tR lim s).2 = (s.t lim).2 := rfl
  rw [hq] at e
  omega
theorem t_size {lim : Nat} {s : RdS} : (str (s.t lim).1).size ≤ lim := by
  rw [str_size]
  unfold RdS.t
  split
  · split
    · simp
    · split
      · simp
      · rw [List.length_take]; omega
  · simp
/-- What a row of keys is read as. -/
def keysR (lim : Nat) : RdS → List ByteArray × RdS := bindR uR fun n => manyR (tR lim) n
/-- Behind k texts of n. -/
structure Behind (lim n : Nat) (s1 : RdS) (k : Nat) (ks : List ByteArray) (sk : RdS) : Prop where
  len : ks.length = k
  ok : sk.e = 0 ∨ n = 0
  all : manyR (tR lim) n s1 = (ks ++ (manyR (tR lim) (n - k) sk).1, (manyR (tR lim) (n - k) sk).2)
  left : k + sk.bs.length ≤ s1.bs.length
  each : ∀ x ∈ ks, x.size ≤ lim
theorem Behind.start (lim : Nat) (s : RdS) : Behind lim s.u.1 s.u.2 0 [] s.u.2 :=
  ⟨rfl, by
    by_cases h : s.u.2.e = 0
    · exact .inl h
    · exact .inr (u_zero h).1, by rw [Nat.sub_zero, List.nil_append], by omega, fun x hx => by cases hx⟩
theorem Behind.bad {lim n k : Nat} {s1 sk : RdS} {ks : List ByteArray} (h : Behind lim n s1 k ks sk) (hk : k < n) (he : (sk.t lim).2.e ≠ 0) : (manyR (tR lim) n s1).2 = (sk.t lim).2 := by
  rw [h.all]
  obtain ⟨m, hm⟩ : ∃ m, n - k = m + 1 := ⟨n - k - 1, by omega⟩
  rw [hm]
  show (manyR (tR lim) (m + 1) sk).2 = _
  unfold manyR
  rw [if_pos (show (tR lim sk).2.e ≠ 0 from he)]
  rfl
theorem Behind.next {lim n k : Nat} {s1 sk : RdS} {ks : List ByteArray} (h : Behind lim n s1 k ks sk) (hk : k < n) (he : (sk.t lim).2.e = 0) : Behind lim n s1 (k + 1) (ks ++ [str (sk.t lim).1]) (sk.t lim).2 := by
  refine ⟨by rw [List.length_append, h.len]; rfl, .inl he, ?_, ?_, ?_⟩
  · rw [h.all]
    obtain ⟨m, hm⟩ : ∃ m, n - k = m + 1 := ⟨n - k - 1, by omega⟩
    have hm2 : n - (k + 1) = m := by omega
    rw [hm, hm2]
    have e : manyR (tR lim) (m + 1) sk = ((tR lim sk).1 :: (manyR (tR lim) m (tR lim sk).2).1, (manyR (tR lim) m (tR lim sk).2).2) := by
      show (if (tR lim sk).2.e ≠ 0 then _ else _) = _
      rw [if_neg (show ¬ (tR lim sk).2.e ≠ 0 from fun h => h he)]
    rw [e, List.append_assoc]
    rfl
  · have := t_left he
    have := h.left
    omega
  · intro x hx
    rcases List.mem_append.1 hx with h1 | h1
    · exact h.each x h1
    · rw [List.mem_singleton.1 h1]; exact t_size
theorem Behind.end {lim n : Nat} {s1 sk : RdS} {ks : List ByteArray} (h : Behind lim n s1 n ks sk) : manyR (tR lim) n s1 = (ks, sk) := by
  rw [h.all, Nat.sub_self]
  show (ks ++ [], sk) = _
  rw [List.append_nil]
end Go.Proofs.YtfaplmpenlbajaaDoor

-- CqRb
namespace Go.Proofs.YtfaplmpenlbajaaDoor
open Go.RowKit

theorem boxed0 {w W0 : World} {cs : Array Value} {t : TypeId} (h : W0 = w.alloc (.cells cs t)) : Below w.heap.size w W0 ∧ W0.heap[w.heap.size]? = some (.cells cs t (0, 0)) := by
  subst h
  exact ⟨(Below.refl _ w).alloc (Nat.le_refl _) _, World.alloc_heap_new w _⟩
/-- What takeKeys comes to. -/
structure KeysQ (w W' : World) (R lim : Nat) (s : RdS) (A : Option Addr) (L c : Nat) (ks : List ByteArray) : Prop where
  len : L = ks.length
  cap : L ≤ c
  max : L ≤ 100000
  own : OwnS w.heap.size W' (.slice A L c) ks
  each : ∀ k ∈ ks, k.size ≤ lim
  rd : RdQ W' R lim (keysR lim s).2
  ok : (keysR lim s).2.e = 0 → ks = (keysR lim s).1
  grown : w.grownBy W' (some R)
/-- Behind k keys. -/
structure KeysI (w W : World) (R lim n : Nat) (s1 : RdS) (k : Nat) (v : Value) : Prop where
  ex : ∃ ks sk, Behind lim n s1 k ks sk ∧ RdQ W R lim sk ∧ OwnS w.heap.size W v ks
  grown : w.grownBy W (some R)
set_option maxRecDepth 100000 in
set_option maxHeartbeats 4000000 in
theorem takeKeys_q {w : World} {R lim : Nat} {s : RdS} (h : RdQ w R lim s) (hlim : lim ≤ 1000000) (hb : s.bs.length ≤ 100000) :
    Calls Tryd.prog 37 #[.pointer (some ⟨R, 0, none⟩)] w fun x W' => ∃ A L c ks, x = .returned (.slice A L c) ∧ KeysQ w W' R lim s A L c ks := by
  have hRlt := h.lt
  have hun := s.u_lt
  have hul := u_left s
  obtain ⟨n, hn⟩ : ∃ n, n = s.u.1 := ⟨_, rfl⟩
  obtain ⟨s1, hs1⟩ : ∃ x, x = s.u.2 := ⟨_, rfl⟩
  have hst : Behind lim n s1 0 [] s1 := by rw [hn, hs1]; exact Behind.start lim s
  have hkr : keysR lim s = manyR (tR lim) n s1 := by rw [hn, hs1]; rfl
  have hU : Calls Tryd.prog 36 #[.pointer (some ⟨R, 0, none⟩)] w fun x W' => x = .returned (.int .u64 (n : Int)) ∧ RdQ W' R lim s1 ∧ w.grownBy W' (some R) := by
    rw [hn, hs1]; exact UintR_q h
  rw [← hn] at hun
  rw [← hs1] at hul
  have HU := Lib.hid hU
  have HST := Lib.hid hst
  have HKR := Lib.hid hkr
  have HLIM := Lib.hid (And.intro hlim (And.intro hb hul))
  have HRL := Lib.hid hRlt
  have hni : (n : Int) < 18446744073709551616 := by omega
  clear hU hst hkr hlim hb hul hn hs1 h hRlt hun
  go_enter Tryd.func37, Tryd.ntmps37
  go_wp2_with fail
  refine HU.out.mono ?_
  rintro e W1 ⟨rfl, hr1, hg1⟩
  have S1 : Hid (KeysI w W1 R lim n s1 0 (.slice none 0 0)) := Lib.hid ⟨⟨[], s1, HST.out, hr1, OwnS.nil _ _⟩, hg1⟩
  clear hr1 hg1
  go_wp2
  go_loopw [3, 4, 7] (fun v3 v4 i wr => ∃ k : Nat, k ≤ n ∧ i = .int .u64 (k : Int) ∧ Hid (KeysI w wr R lim n s1 k v3)) (fun _ _ i _ => n - (intOf i).toNat)
  case atStart => exact ⟨0, Nat.zero_le _, rfl, S1⟩
  case round =>
    obtain ⟨k, hk, rfl, hI⟩ := hrel
    obtain ⟨⟨ks, sk, hbe, hrd, hown⟩, hgr⟩ := hI.out
    have HBE := Lib.hid hbe
    have HGR := Lib.hid hgr
    have HOW := Lib.hid hown
    by_cases hlt : k < n
    · have hki : (k : Int) < n := by omega
      have hT := TextR_q hrd HLIM.out.1
      obtain ⟨t, ht⟩ : ∃ t, t = str (sk.t lim).1 := ⟨_, rfl⟩
      obtain ⟨s2, hs2⟩ : ∃ x, x = (sk.t lim).2 := ⟨_, rfl⟩
      rw [← ht, ← hs2] at hT
      have HT := Lib.hid hT
      have HTS := Lib.hid (And.intro ht hs2)
      have HRD := Lib.hid hrd
      clear hT ht hs2 hbe hrd hown hgr
      go_wp2_with fail
      refine HT.out.mono ?_
      rintro e W2 ⟨rfl, hr2, hg2⟩
      have O2 : Hid (OwnS w.heap.size W2 u3 ks) := Lib.hid (HOW.out.same (HRD.out.stays hg2) (by decide))
      have G2 : Hid (w.grownBy W2 (some R)) := Lib.hid (grownBy_trans HGR.out hg2)
      have hE := ErrR_q hr2
      obtain ⟨e2, he2⟩ : ∃ x, x = s2.e := ⟨_, rfl⟩
      rw [← he2] at hE
      have HE := Lib.hid hE
      have HEE := Lib.hid he2
      have R2 := Lib.hid hr2
      clear hr2 hg2 hE he2
      by_cases h0 : e2 = 0
      · subst h0
        have hbn := HBE.out.next hlt (by rw [← HTS.out.2, ← HEE.out])
        rw [← HTS.out.1, ← HTS.out.2] at hbn
        have HBN := Lib.hid hbn
        have hkl : ks.length + 1 ≤ 1000000 := by have := hbn.left; have := hbn.len; have := HLIM.out; simp at *; omega
        have HKL := Lib.hid hkl
        clear hbn hkl
        go_wp2_with fail
        refine HE.out.mono ?_
        rintro e W3 ⟨rfl, rfl⟩
        obtain ⟨W4, hW4⟩ : ∃ W4, W4 = W2.alloc (Obj.cells #[.string t] 9) := ⟨_, rfl⟩
        obtain ⟨hB4, k4⟩ := boxed0 hW4
        have O4 : Hid (OwnS w.heap.size W4 u3 ks) := Lib.hid (O2.out.below hB4)
        have R4 : Hid (RdQ W4 R lim s2) := Lib.hid (R2.out.below hB4)
        have G4 : Hid (w.grownBy W4 (some R)) := Lib.hid (grownBy_below G2.out hB4)
        have c4 : W4.cell? ⟨W2.heap.size, 0, none⟩ = some (.string t) := by simpa using blk_cell k4 0
        have C4 := Lib.hid c4
        have HW4 := Lib.hid hW4
        clear hB4 k4 c4 hW4
        go_wp2_with (at_builtin; rw [← HW4.out]; refine wpList_append_S rfl (.tmp 14) (.tmp 16) rfl w.heap.size _ ks rfl O4.out W2.heap.size 1 t rfl C4.out HKL.out G4.out.size ?_; intro v' W5 hown hg; have O5 := Lib.hid hown; have R5 : Hid (RdQ W5 R lim s2) := Lib.hid (R4.out.same (SameT.grown hg (own_typedN O4.out)) (by decide) (by decide)); have G5 : Hid (w.grownBy W5 (some R)) := Lib.hid (grownBy_new G4.out hg (fun x e => (O4.out.lt x e).1)); clear hown hg)
        exact ⟨⟨k + 1, by omega, by congr 1, Lib.hid ⟨⟨_, _, HBN.out, R5.out, O5.out⟩, G5.out⟩⟩, by simp only [intOf]; omega⟩
      · have q0 : ((e2 : Int) != 0) = true := by simp; exact h0
        have hbad := HBE.out.bad hlt (by rw [← HTS.out.2, ← HEE.out]; exact h0)
        rw [← HTS.out.2, ← HKR.out] at hbad
        have HBAD := Lib.hid hbad
        have HN := Lib.hid h0
        clear hbad
        go_wp2_with fail
        refine HE.out.mono ?_
        rintro e W3 ⟨rfl, rfl⟩
        go_wp2
        go_ret
        exact ⟨none, 0, 0, [], rfl, rfl, Nat.le_refl _, Nat.zero_le _, OwnS.nil _ _, fun k hk => (by cases hk), by rw [HBAD.out]; exact R2.out, fun h => absurd (HEE.out.trans (by rw [HBAD.out] at h; exact h)) HN.out, G2.out⟩
    · obtain rfl : k = n := by omega
      have hki : ¬ (k : Int) < k := by omega
      have hend := hbe.end
      rw [← HKR.out] at hend
      have hll : ks.length ≤ 100000 := by have := hbe.left; have := hbe.len; have := HLIM.out; omega
      obtain ⟨A, c, rfl, hcap⟩ := hown.form
      have HH := Lib.hid (And.intro hend (And.intro hll hcap))
      have HRD := Lib.hid hrd
      clear hend hll hcap hbe hrd hown hgr hlt
      go_wp2
      go_ret
      exact ⟨A, ks.length, c, rfl, ks, rfl, HH.out.2.2, HH.out.2.1, HOW.out, HBE.out.each, by rw [HH.out.1]; exact HRD.out, fun _ => by rw [HH.out.1], HGR.out⟩
end Go.Proofs.YtfaplmpenlbajaaDoor

-- CqRc
namespace Go.Proofs.YtfaplmpenlbajaaDoor
open Go.RowKit

theorem bindR_eq {α β : Type} (f : RdS → α × RdS) (g : α → RdS → β × RdS) (s : RdS) : bindR f g s = g (f s).1 (f s).2 := rfl
/-- The steps of reading a command. -/
structure Steps (lim : Nat) (s s1 s2 s3 s4 s5 s6 s7 : RdS) (cl sq kd : Nat) (o x : ByteArray) (i : Int) : Prop where
  a1 : s1 = s.u.2
  a2 : s2 = s1.u.2
  a3 : s3 = s2.u.2
  a4 : s4 = (keysR lim s3).2
  a5 : s5 = (s4.t lim).2
  a6 : s6 = (s5.t lim).2
  a7 : s7 = s6.i.2
  cl : cl = s.u.1
  sq : sq = s1.u.1
  kd : kd = s2.u.1
  o : o = str (s4.t lim).1
  x : x = str (s5.t lim).1
  i : i = s6.i.1
theorem Steps.cmdR {lim : Nat} {s s1 s2 s3 s4 s5 s6 s7 : RdS} {cl sq kd : Nat} {o x : ByteArray} {i : Int} (h : Steps lim s s1 s2 s3 s4 s5 s6 s7 cl sq kd o x i) : cmdR lim s = (⟨cl, sq, kd, (keysR lim s3).1, o, x, i⟩, s7) := by
  have e1 : uR s = (cl, s1) := by rw [h.cl, h.a1]; rfl
  have e2 : uR s1 = (sq, s2) := by rw [h.sq, h.a2]; rfl
  have e3 : uR s2 = (kd, s3) := by rw [h.kd, h.a3]; rfl
  have e4 : manyR (tR lim) (uR s3).1 (uR s3).2 = ((keysR lim s3).1, s4) := by rw [h.a4]; rfl
  have e5 : tR lim s4 = (o, s5) := by rw [h.o, h.a5]; rfl
  have e6 : tR lim s5 = (x, s6) := by rw [h.x, h.a6]; rfl
  have e7 : iR s6 = (i, s7) := by rw [h.i, h.a7]; rfl
  unfold Go.Proofs.YtfaplmpenlbajaaDoor.cmdR
  rw [bindR_eq, e1]; dsimp only
  rw [bindR_eq, e2]; dsimp only
  rw [bindR_eq, e3]; dsimp only
  rw [bindR_eq, bindR_eq, e4]; dsimp only
  rw [bindR_eq, e5]; dsimp only
  rw [bindR_eq, e6]; dsimp only
  rw [bindR_eq, e7]; rfl
theorem t_e {lim : Nat} {s : RdS} (h : s.e ≠ 0) : (s.t lim).2.e ≠ 0 := by
  unfold RdS.t
  have e : s.u.2.e = s.e := by rw [RdS.u_err h]
  rw [if_neg (by rw [e]; exact h)]
  show s.u.2.e ≠ 0
  rw [e]; exact h
theorem i_e {s : RdS} (h : s.e ≠ 0) : s.i.2.e ≠ 0 := by
  show s.u.2.e ≠ 0
  rw [RdS.u_err h]; exact h
/-- Where the steps end with no error, the keys were read with none. -/
theorem Steps.ks {lim : Nat} {s s1 s2 s3 s4 s5 s6 s7 : RdS} {cl sq kd : Nat} {o x : ByteArray} {i : Int} (h : Steps lim s s1 s2 s3 s4 s5 s6 s7 cl sq kd o x i) (h7 : s7.e = 0) : s4.e = 0 := by
  refine Decidable.byContradiction fun h4 => ?_
  have h5 := t_e (lim := lim) h4
  rw [← h.a5] at h5
  have h6 := t_e (lim := lim) h5
  rw [← h.a6] at h6
  have := i_e h6
  rw [← h.a7] at this
  exact this h7
theorem Steps.left {lim : Nat} {s s1 s2 s3 s4 s5 s6 s7 : RdS} {cl sq kd : Nat} {o x : ByteArray} {i : Int} (h : Steps lim s s1 s2 s3 s4 s5 s6 s7 cl sq kd o x i) : s3.bs.length ≤ s.bs.length := by
  have h1 := u_left s
  have h2 := u_left s1
  have h3 := u_left s2
  rw [← h.a1] at h1
  rw [← h.a2] at h2
  rw [← h.a3] at h3
  omega
/-- No command. -/
def zeroM : CM := ⟨0, 0, 0, [], ⟨#[]⟩, ⟨#[]⟩, 0⟩
/-- What Take comes to. -/
structure TakeQ (w W' : World) (R lim : Nat) (s : RdS) (a : CmdV) : Prop where
  cl : a.cl < 4294967296
  sq : a.sq < 4294967296
  kd : a.kd < 256
  n : -9223372036854775808 ≤ a.n ∧ a.n ≤ 9223372036854775807
  len : a.L = a.ks.length
  cap : a.L ≤ a.c
  max : a.L ≤ 100000
  own : OwnS w.heap.size W' (.slice a.A a.L a.c) a.ks
  each : ∀ k ∈ a.ks, k.size ≤ maxLen
  old : a.old.size ≤ maxLen
  new : a.new.size ≤ maxLen
  rd : RdQ W' R lim (Go.Proofs.YtfaplmpenlbajaaDoor.cmdR lim s).2
  good : (Go.Proofs.YtfaplmpenlbajaaDoor.cmdR lim s).2.e = 0 → (Go.Proofs.YtfaplmpenlbajaaDoor.cmdR lim s).1.Wf → a.m = (Go.Proofs.YtfaplmpenlbajaaDoor.cmdR lim s).1
  bad : ¬ ((Go.Proofs.YtfaplmpenlbajaaDoor.cmdR lim s).2.e = 0 ∧ (Go.Proofs.YtfaplmpenlbajaaDoor.cmdR lim s).1.Wf) → a.m = zeroM
  grown : w.grownBy W' (some R)
theorem i_range (s : RdS) : -9223372036854775808 ≤ s.i.1 ∧ s.i.1 ≤ 9223372036854775807 := by
  have h := s.u_lt
  show -9223372036854775808 ≤ unfoldN s.u.1 ∧ unfoldN s.u.1 ≤ 9223372036854775807
  unfold unfoldN
  split <;> omega
def cells0 : Array Value := #[.int .u32 0, .int .u32 0, .int .u8 0, .slice none 0 0, .string ⟨#[]⟩, .string ⟨#[]⟩, .int .i64 0]
/-- A command in the making, and the result's block. -/
structure HoldQ (w W : World) (R lim : Nat) (s : RdS) (p q : Nat) (cs : Array Value) (v : Value) (ks : List ByteArray) : Prop where
  rd : RdQ W R lim s
  res : W.heap[p]? = some (.cells cells0 26 (0, 0))
  blk : W.heap[q]? = some (.cells cs 26 (0, 0))
  own : OwnS w.heap.size W v ks
  grown : w.grownBy W (some R)
  ps : w.heap.size ≤ p ∧ p < q
/-- Before the command's block. -/
structure ResQ (w W : World) (R lim : Nat) (s : RdS) (p : Nat) : Prop where
  rd : RdQ W R lim s
  res : W.heap[p]? = some (.cells cells0 26 (0, 0))
  grown : w.grownBy W (some R)
  ps : w.heap.size ≤ p
/-- With the result. -/
structure EndQ (w W : World) (R lim : Nat) (s : RdS) (p : Nat) (cz : Array Value) (v : Value) (ks : List ByteArray) : Prop where
  rd : RdQ W R lim s
  res : W.heap[p]? = some (.cells cz 26 (0, 0))
  own : OwnS w.heap.size W v ks
  grown : w.grownBy W (some R)
  ps : w.heap.size ≤ p
section
variable {w W W' : World} {R lim p q : Nat} {s s' : RdS} {cs : Array Value} {v : Value} {ks : List ByteArray}
theorem ResQ.call (h : ResQ w W R lim s p) (hr : RdQ W' R lim s') (hg : W.grownBy W' (some R)) : ResQ w W' R lim s' p :=
  ⟨hr, h.rd.stays hg _ _ _ (by decide) h.res, grownBy_trans h.grown hg, h.ps⟩
theorem ResQ.lt (h : ResQ w W R lim s p) : p < W.heap.size := (Array.getElem?_eq_some_iff.1 h.res).1
theorem ResQ.box (h : ResQ w W R lim s p) (e : W' = W.alloc (.cells cs 26)) : HoldQ w W' R lim s p W.heap.size cs (.slice none 0 0) [] := by
  obtain ⟨hB, k⟩ := boxed0 e
  exact ⟨h.rd.below hB, (hB.block p h.lt).trans h.res, k, OwnS.nil _ _, grownBy_below h.grown hB, h.ps, h.lt⟩
theorem HoldQ.set (h : HoldQ w W R lim s p q cs v ks) (i : Nat) (u : Value) : HoldQ w (W.setCell ⟨q, i, none⟩ u) R lim s p q (cs.setIfInBounds i u) v ks := by
  have hs : SameT [26] W (W.setCell ⟨q, i, none⟩ u) := SameT.set h.blk u
  have hne : p ≠ q := by have := h.ps; omega
  refine ⟨h.rd.same hs (by decide) (by decide), (Below.heap_setCell _ _ _ _ hne).trans h.res, blk_set h.blk i u, h.own.same hs (by decide), ?_, h.ps⟩
  exact grownBy_new h.grown (grownBy_set W q i u) (fun x e => by cases e; have := h.ps; omega)
theorem HoldQ.call (h : HoldQ w W R lim s p q cs v ks) (hr : RdQ W' R lim s') (hg : W.grownBy W' (some R)) : HoldQ w W' R lim s' p q cs v ks := by
  have hs := h.rd.stays hg
  exact ⟨hr, hs _ _ _ (by decide) h.res, hs _ _ _ (by decide) h.blk, h.own.same hs (by decide), grownBy_trans h.grown hg, h.ps⟩
theorem HoldQ.keys (h : HoldQ w W R lim s p q cs v ks) {A : Option Addr} {L c : Nat} {l : List ByteArray} (k : KeysQ W W' R lim s A L c l) : HoldQ w W' R lim (keysR lim s).2 p q cs (.slice A L c) l := by
  have h1 := h.call k.rd k.grown
  exact ⟨h1.rd, h1.res, h1.blk, k.own.mono h.grown.size, h1.grown, h1.ps⟩
theorem HoldQ.fin (h : HoldQ w W R lim s p q cs v ks) : EndQ w W R lim s p cells0 v ks := ⟨h.rd, h.res, h.own, h.grown, h.ps.1⟩
theorem EndQ.set {cz : Array Value} (h : EndQ w W R lim s p cz v ks) (i : Nat) (u : Value) : EndQ w (W.setCell ⟨p, i, none⟩ u) R lim s p (cz.setIfInBounds i u) v ks := by
  have hs : SameT [26] W (W.setCell ⟨p, i, none⟩ u) := SameT.set h.res u
  refine ⟨h.rd.same hs (by decide) (by decide), blk_set h.res i u, h.own.same hs (by decide), ?_, h.ps⟩
  exact grownBy_new h.grown (grownBy_set W p i u) (fun x e => by cases e; exact h.ps)
theorem EndQ.cell {cz : Array Value} (h : EndQ w W R lim s p cz v ks) (i : Nat) : W.cell? ⟨p, i, none⟩ = cz[i]? := by simpa using blk_cell h.res i
theorem EndQ.zero {cz : Array Value} (h : EndQ w W R lim (Go.Proofs.YtfaplmpenlbajaaDoor.cmdR lim s).2 p cz v ks) (hn : ¬ ((Go.Proofs.YtfaplmpenlbajaaDoor.cmdR lim s).2.e = 0 ∧ (Go.Proofs.YtfaplmpenlbajaaDoor.cmdR lim s).1.Wf)) : TakeQ w W R lim s ⟨0, 0, 0, none, 0, 0, [], ⟨#[]⟩, ⟨#[]⟩, 0⟩ :=
  ⟨by decide, by decide, by decide, by decide, rfl, Nat.le_refl _, by decide, OwnS.nil _ _, fun k hk => (by cases hk), by decide, by decide, h.rd, fun h1 h2 => absurd ⟨h1, h2⟩ hn, fun _ => rfl, h.grown⟩
theorem HoldQ.cellP (h : HoldQ w W R lim s p q cs v ks) (i : Nat) : W.cell? ⟨p, i, none⟩ = cells0[i]? := by simpa using blk_cell h.res i
theorem HoldQ.cell (h : HoldQ w W R lim s p q cs v ks) (i : Nat) : W.cell? ⟨q, i, none⟩ = cs[i]? := by simpa using blk_cell h.blk i
end
set_option maxRecDepth 100000 in
set_option maxHeartbeats 4000000 in
theorem Take_q {w : World} {R lim : Nat} {s : RdS} (h : RdQ w R lim s) (hlim : lim ≤ 1000000) (hb : s.bs.length ≤ 100000) :
    Calls Tryd.prog 17 #[.pointer (some ⟨R, 0, none⟩)] w fun x W' => ∃ a : CmdV, x = .returned a.val ∧ TakeQ w W' R lim s a := by
  obtain ⟨s1, h1⟩ : ∃ x, x = s.u.2 := ⟨_, rfl⟩
  obtain ⟨s2, h2⟩ : ∃ x, x = s1.u.2 := ⟨_, rfl⟩
  obtain ⟨s3, h3⟩ : ∃ x, x = s2.u.2 := ⟨_, rfl⟩
  obtain ⟨s4, h4⟩ : ∃ x, x = (keysR lim s3).2 := ⟨_, rfl⟩
  obtain ⟨s5, h5⟩ : ∃ x, x = (s4.t lim).2 := ⟨_, rfl⟩
  obtain ⟨s6, h6⟩ : ∃ x, x = (s5.t lim).2 := ⟨_, rfl⟩
  obtain ⟨s7, h7⟩ : ∃ x, x = s6.i.2 := ⟨_, rfl⟩
  obtain ⟨cl, hcl⟩ : ∃ x, x = s.u.1 := ⟨_, rfl⟩
  obtain ⟨sq, hsq⟩ : ∃ x, x = s1.u.1 := ⟨_, rfl⟩
  obtain ⟨kd, hkd⟩ : ∃ x, x = s2.u.1 := ⟨_, rfl⟩
  obtain ⟨o, ho⟩ : ∃ x, x = str (s4.t lim).1 := ⟨_, rfl⟩
  obtain ⟨x, hx⟩ : ∃ x, x = str (s5.t lim).1 := ⟨_, rfl⟩
  obtain ⟨i, hi⟩ : ∃ x, x = s6.i.1 := ⟨_, rfl⟩
  have ST : Hid (Steps lim s s1 s2 s3 s4 s5 s6 s7 cl sq kd o x i) := Lib.hid ⟨h1, h2, h3, h4, h5, h6, h7, hcl, hsq, hkd, ho, hx, hi⟩
  have bcl := s.u_lt
  have bsq := s1.u_lt
  have bkd := s2.u_lt
  rw [← hcl] at bcl
  rw [← hsq] at bsq
  rw [← hkd] at bkd
  have U1 := UintR_q h
  rw [← hcl, ← h1] at U1
  have HU1 := Lib.hid U1
  have HLIM := Lib.hid hlim
  have HL3 : Hid (s3.bs.length ≤ 100000) := Lib.hid (Nat.le_trans ST.out.left hb)
  have HR := Lib.hid h
  have HX := Lib.hid (And.intro h1 (And.intro h2 (And.intro h3 (And.intro h4 (And.intro h5 (And.intro h6 h7))))))
  have HY := Lib.hid (And.intro hcl (And.intro hsq (And.intro hkd (And.intro ho (And.intro hx hi)))))
  clear U1 h hlim hb h1 h2 h3 h4 h5 h6 h7 hcl hsq hkd ho hx hi
  go_enter Tryd.func17, Tryd.ntmps17
  go_upto_region 1 with (fail)
  obtain ⟨W0, hW0⟩ : ∃ W0, W0 = w.alloc (Obj.cells cells0 26) := ⟨_, rfl⟩
  have hW0' := hW0
  simp only [cells0] at hW0'
  rw [← hW0']
  clear hW0'
  obtain ⟨hB0, k0⟩ := boxed0 hW0
  obtain ⟨p, hp⟩ : ∃ p, p = w.heap.size := ⟨_, rfl⟩
  rw [← hp] at k0 ⊢
  have Q0 : Hid (ResQ w W0 R lim s p) := Lib.hid ⟨HR.out.below hB0, k0, grownBy_of_below hB0, by omega⟩
  have V1 : Hid (Calls Tryd.prog 36 #[.pointer (some ⟨R, 0, none⟩)] W0 fun x W' => x = .returned (.int .u64 (cl : Int)) ∧ RdQ W' R lim s1 ∧ W0.grownBy W' (some R)) := Lib.hid (by rw [HY.out.1, HX.out.1]; exact UintR_q Q0.out.rd)
  clear hW0 hp hB0 k0 HU1
  go_wp2_with fail
  refine V1.out.mono ?_
  rintro e W1 ⟨rfl, r1, g1⟩
  have Q1 : Hid (ResQ w W1 R lim s1 p) := Lib.hid (Q0.out.call r1 g1)
  have V2 : Hid (Calls Tryd.prog 36 #[.pointer (some ⟨R, 0, none⟩)] W1 fun x W' => x = .returned (.int .u64 (sq : Int)) ∧ RdQ W' R lim s2 ∧ W1.grownBy W' (some R)) := Lib.hid (by rw [HY.out.2.1, HX.out.2.1]; exact UintR_q r1)
  clear r1 g1
  go_wp2_with fail
  refine V2.out.mono ?_
  rintro e W2 ⟨rfl, r1, g1⟩
  have Q2 : Hid (ResQ w W2 R lim s2 p) := Lib.hid (Q1.out.call r1 g1)
  have V3 : Hid (Calls Tryd.prog 36 #[.pointer (some ⟨R, 0, none⟩)] W2 fun x W' => x = .returned (.int .u64 (kd : Int)) ∧ RdQ W' R lim s3 ∧ W2.grownBy W' (some R)) := Lib.hid (by rw [HY.out.2.2.1, HX.out.2.2.1]; exact UintR_q r1)
  clear r1 g1
  go_wp2_with fail
  refine V3.out.mono ?_
  rintro e W3 ⟨rfl, r1, g1⟩
  have Q3 : Hid (ResQ w W3 R lim s3 p) := Lib.hid (Q2.out.call r1 g1)
  clear r1 g1
  obtain ⟨c1, hc1⟩ : ∃ y : Int, y = (cl : Int) % 4294967296 := ⟨_, rfl⟩
  obtain ⟨c2, hc2⟩ : ∃ y : Int, y = (sq : Int) % 4294967296 := ⟨_, rfl⟩
  obtain ⟨c3, hc3⟩ : ∃ y : Int, y = (kd : Int) % 256 := ⟨_, rfl⟩
  go_upto_region 3 with (fail)
  rw [← hc1, ← hc2, ← hc3]
  obtain ⟨W4, hW4⟩ : ∃ W4, W4 = W3.alloc (Obj.cells #[.int .u32 c1, .int .u32 c2, .int .u8 c3, .slice none 0 0, .string ⟨#[]⟩, .string ⟨#[]⟩, .int .i64 0] 26) := ⟨_, rfl⟩
  rw [← hW4]
  have q4 := Q3.out.box hW4
  obtain ⟨q, hq⟩ : ∃ q, q = W3.heap.size := ⟨_, rfl⟩
  rw [← hq] at q4 ⊢
  have Q4 := Lib.hid q4
  have HC := Lib.hid (And.intro hc1 (And.intro hc2 hc3))
  have V4 := Lib.hid (takeKeys_q q4.rd HLIM.out HL3.out)
  clear q4 hq hW4 hc1 hc2 hc3
  go_wp2_with fail
  refine V4.out.mono ?_
  rintro e W5 ⟨A, L, c, ks, rfl, hk⟩
  have KQ := Lib.hid hk
  have q5 := Q4.out.keys hk
  rw [← HX.out.2.2.2.1] at q5
  have Q5 := Lib.hid q5
  have z3 : W5.cell? ⟨q, 3, none⟩ = some (.slice none 0 0) := q5.cell 3
  have y3 := blk_frozen q5.blk 3
  clear hk q5
  go_wp2_with fail
  obtain ⟨W6, hW6⟩ : ∃ W6, W6 = W5.setCell ⟨q, 3, none⟩ (.slice A L c) := ⟨_, rfl⟩
  rw [← hW6]
  have q6 : HoldQ w W6 R lim s4 p q #[.int .u32 c1, .int .u32 c2, .int .u8 c3, .slice A L c, .string ⟨#[]⟩, .string ⟨#[]⟩, .int .i64 0] (.slice A L c) ks := by rw [hW6]; exact Q5.out.set 3 _
  have Q6 := Lib.hid q6
  have V6 : Hid (Calls Tryd.prog 38 #[.pointer (some ⟨R, 0, none⟩)] W6 fun e W' => e = .returned (.string o) ∧ RdQ W' R lim s5 ∧ W6.grownBy W' (some R)) := Lib.hid (by rw [HY.out.2.2.2.1, HX.out.2.2.2.2.1]; exact TextR_q q6.rd HLIM.out)
  clear q6 hW6 z3 y3
  refine V6.out.mono ?_
  rintro e W7 ⟨rfl, r1, g1⟩
  have Q7 := Lib.hid (Q6.out.call r1 g1)
  have V7 : Hid (Calls Tryd.prog 38 #[.pointer (some ⟨R, 0, none⟩)] W7 fun e W' => e = .returned (.string x) ∧ RdQ W' R lim s6 ∧ W7.grownBy W' (some R)) := Lib.hid (by rw [HY.out.2.2.2.2.1, HX.out.2.2.2.2.2.1]; exact TextR_q r1 HLIM.out)
  clear r1 g1
  go_wp2_with fail
  refine V7.out.mono ?_
  rintro e W8 ⟨rfl, r1, g1⟩
  have Q8 := Lib.hid (Q7.out.call r1 g1)
  have V8 : Hid (Calls Tryd.prog 39 #[.pointer (some ⟨R, 0, none⟩)] W8 fun e W' => e = .returned (.int .i64 i) ∧ RdQ W' R lim s7 ∧ W8.grownBy W' (some R)) := Lib.hid (by rw [HY.out.2.2.2.2.2, HX.out.2.2.2.2.2.2]; exact IntR_q r1)
  clear r1 g1
  go_wp2_with fail
  refine V8.out.mono ?_
  rintro e W9 ⟨rfl, r1, g1⟩
  have q9 := Q8.out.call r1 g1
  have Q9 := Lib.hid q9
  have z4 : W9.cell? ⟨q, 4, none⟩ = some (.string ⟨#[]⟩) := q9.cell 4
  have z5 : W9.cell? ⟨q, 5, none⟩ = some (.string ⟨#[]⟩) := q9.cell 5
  have z6 : W9.cell? ⟨q, 6, none⟩ = some (.int .i64 0) := q9.cell 6
  have y4 := blk_frozen q9.blk 4
  have y5 := blk_frozen q9.blk 5
  have y6 := blk_frozen q9.blk 6
  clear q9 r1 g1
  go_upto_region 5 with (fail)
  obtain ⟨W10, hW10⟩ : ∃ W10, W10 = ((W9.setCell ⟨q, 4, none⟩ (.string o)).setCell ⟨q, 5, none⟩ (.string x)).setCell ⟨q, 6, none⟩ (.int .i64 i) := ⟨_, rfl⟩
  rw [← hW10]
  have q10 : HoldQ w W10 R lim s7 p q #[.int .u32 c1, .int .u32 c2, .int .u8 c3, .slice A L c, .string o, .string x, .int .i64 i] (.slice A L c) ks := by rw [hW10]; exact ((Q9.out.set 4 _).set 5 _).set 6 _
  have Q10 := Lib.hid q10
  clear hW10 z4 z5 z6 y4 y5 y6
  obtain ⟨e7, he7⟩ : ∃ y, y = s7.e := ⟨_, rfl⟩
  have V10 := ErrR_q q10.rd
  rw [← he7] at V10
  have HV := Lib.hid V10
  have HE7 := Lib.hid he7
  have z0 : W10.cell? ⟨q, 0, none⟩ = some (.int .u32 c1) := q10.cell 0
  have z1 : W10.cell? ⟨q, 1, none⟩ = some (.int .u32 c2) := q10.cell 1
  have z2 : W10.cell? ⟨q, 2, none⟩ = some (.int .u8 c3) := q10.cell 2
  have z3 : W10.cell? ⟨q, 3, none⟩ = some (.slice A L c) := q10.cell 3
  have z4 : W10.cell? ⟨q, 4, none⟩ = some (.string o) := q10.cell 4
  have z5 : W10.cell? ⟨q, 5, none⟩ = some (.string x) := q10.cell 5
  have z6 : W10.cell? ⟨q, 6, none⟩ = some (.int .i64 i) := q10.cell 6
  have x0 : W10.cell? ⟨p, 0, none⟩ = some (.int .u32 0) := q10.cellP 0
  have x1 : W10.cell? ⟨p, 1, none⟩ = some (.int .u32 0) := q10.cellP 1
  have x2 : W10.cell? ⟨p, 2, none⟩ = some (.int .u8 0) := q10.cellP 2
  have x3 : W10.cell? ⟨p, 3, none⟩ = some (.slice none 0 0) := q10.cellP 3
  have x4 : W10.cell? ⟨p, 4, none⟩ = some (.string ⟨#[]⟩) := q10.cellP 4
  have x5 : W10.cell? ⟨p, 5, none⟩ = some (.string ⟨#[]⟩) := q10.cellP 5
  have x6 : W10.cell? ⟨p, 6, none⟩ = some (.int .i64 0) := q10.cellP 6
  have w0 := blk_frozen q10.res 0
  have w1 := blk_frozen q10.res 1
  have w2 := blk_frozen q10.res 2
  have w3 := blk_frozen q10.res 3
  have w4 := blk_frozen q10.res 4
  have w5 := blk_frozen q10.res 5
  have w6 := blk_frozen q10.res 6
  clear q10 V10 he7
  by_cases h0 : e7 = 0
  · subst h0
    by_cases g_cl : cl < 4294967296
    case neg =>
      have t_cl : decide ((4294967295 : Int) < cl) = true := by simp; omega
      have HA := Lib.hid g_cl
      clear z0 z1 z2 z3 z4 z5 z6 g_cl
      go_wp2_with fail
      refine HV.out.mono ?_
      rintro e W11 ⟨rfl, rfl⟩
      go_wp2
      obtain ⟨W12, hW12⟩ : ∃ W12, W12 = ((((((W10.setCell ⟨p, 0, none⟩ (.int .u32 0)).setCell ⟨p, 1, none⟩ (.int .u32 0)).setCell ⟨p, 2, none⟩ (.int .u8 0)).setCell ⟨p, 3, none⟩ (.slice none 0 0)).setCell ⟨p, 4, none⟩ (.string ⟨#[]⟩)).setCell ⟨p, 5, none⟩ (.string ⟨#[]⟩)).setCell ⟨p, 6, none⟩ (.int .i64 0) := ⟨_, rfl⟩
      rw [← hW12]
      have q12 : EndQ w W12 R lim s7 p cells0 (.slice A L c) ks := by rw [hW12]; exact (((((((Q10.out.fin).set 0 _).set 1 _).set 2 _).set 3 _).set 4 _).set 5 _).set 6 _
      have d0 : W12.cell? ⟨p, 0, none⟩ = some (.int .u32 0) := q12.cell 0
      have d1 : W12.cell? ⟨p, 1, none⟩ = some (.int .u32 0) := q12.cell 1
      have d2 : W12.cell? ⟨p, 2, none⟩ = some (.int .u8 0) := q12.cell 2
      have d3 : W12.cell? ⟨p, 3, none⟩ = some (.slice none 0 0) := q12.cell 3
      have d4 : W12.cell? ⟨p, 4, none⟩ = some (.string ⟨#[]⟩) := q12.cell 4
      have d5 : W12.cell? ⟨p, 5, none⟩ = some (.string ⟨#[]⟩) := q12.cell 5
      have d6 : W12.cell? ⟨p, 6, none⟩ = some (.int .i64 0) := q12.cell 6
      have hst := ST.out.cmdR
      refine bodyPost_ret (v := (⟨0, 0, 0, none, 0, 0, [], ⟨#[]⟩, ⟨#[]⟩, 0⟩ : CmdV).val) (by simp [results, Tryd.results17, go_sem, d0, d1, d2, d3, d4, d5, d6, CmdV.val, CmdV.cells]) rfl ⟨_, rfl, EndQ.zero (by rw [hst]; exact q12) (fun h => HA.out (by have := h.2.cl; rw [hst] at this; exact this))⟩
    have t_cl : decide ((4294967295 : Int) < cl) = false := by simp; omega
    by_cases g_sq : sq < 4294967296
    case neg =>
      have t_sq : decide ((4294967295 : Int) < sq) = true := by simp; omega
      have HB := Lib.hid g_sq
      clear z0 z1 z2 z3 z4 z5 z6 g_cl g_sq
      go_wp2_with fail
      refine HV.out.mono ?_
      rintro e W11 ⟨rfl, rfl⟩
      go_wp2
      obtain ⟨W12, hW12⟩ : ∃ W12, W12 = ((((((W10.setCell ⟨p, 0, none⟩ (.int .u32 0)).setCell ⟨p, 1, none⟩ (.int .u32 0)).setCell ⟨p, 2, none⟩ (.int .u8 0)).setCell ⟨p, 3, none⟩ (.slice none 0 0)).setCell ⟨p, 4, none⟩ (.string ⟨#[]⟩)).setCell ⟨p, 5, none⟩ (.string ⟨#[]⟩)).setCell ⟨p, 6, none⟩ (.int .i64 0) := ⟨_, rfl⟩
      rw [← hW12]
      have q12 : EndQ w W12 R lim s7 p cells0 (.slice A L c) ks := by rw [hW12]; exact (((((((Q10.out.fin).set 0 _).set 1 _).set 2 _).set 3 _).set 4 _).set 5 _).set 6 _
      have d0 : W12.cell? ⟨p, 0, none⟩ = some (.int .u32 0) := q12.cell 0
      have d1 : W12.cell? ⟨p, 1, none⟩ = some (.int .u32 0) := q12.cell 1
      have d2 : W12.cell? ⟨p, 2, none⟩ = some (.int .u8 0) := q12.cell 2
      have d3 : W12.cell? ⟨p, 3, none⟩ = some (.slice none 0 0) := q12.cell 3
      have d4 : W12.cell? ⟨p, 4, none⟩ = some (.string ⟨#[]⟩) := q12.cell 4
      have d5 : W12.cell? ⟨p, 5, none⟩ = some (.string ⟨#[]⟩) := q12.cell 5
      have d6 : W12.cell? ⟨p, 6, none⟩ = some (.int .i64 0) := q12.cell 6
      have hst := ST.out.cmdR
      refine bodyPost_ret (v := (⟨0, 0, 0, none, 0, 0, [], ⟨#[]⟩, ⟨#[]⟩, 0⟩ : CmdV).val) (by simp [results, Tryd.results17, go_sem, d0, d1, d2, d3, d4, d5, d6, CmdV.val, CmdV.cells]) rfl ⟨_, rfl, EndQ.zero (by rw [hst]; exact q12) (fun h => HB.out (by have := h.2.sq; rw [hst] at this; exact this))⟩
    have t_sq : decide ((4294967295 : Int) < sq) = false := by simp; omega
    by_cases g_kd : kd < 256
    case neg =>
      have t_kd : decide ((255 : Int) < kd) = true := by simp; omega
      have HC2 := Lib.hid g_kd
      clear z0 z1 z2 z3 z4 z5 z6 g_cl g_sq g_kd
      go_wp2_with fail
      refine HV.out.mono ?_
      rintro e W11 ⟨rfl, rfl⟩
      go_wp2
      obtain ⟨W12, hW12⟩ : ∃ W12, W12 = ((((((W10.setCell ⟨p, 0, none⟩ (.int .u32 0)).setCell ⟨p, 1, none⟩ (.int .u32 0)).setCell ⟨p, 2, none⟩ (.int .u8 0)).setCell ⟨p, 3, none⟩ (.slice none 0 0)).setCell ⟨p, 4, none⟩ (.string ⟨#[]⟩)).setCell ⟨p, 5, none⟩ (.string ⟨#[]⟩)).setCell ⟨p, 6, none⟩ (.int .i64 0) := ⟨_, rfl⟩
      rw [← hW12]
      have q12 : EndQ w W12 R lim s7 p cells0 (.slice A L c) ks := by rw [hW12]; exact (((((((Q10.out.fin).set 0 _).set 1 _).set 2 _).set 3 _).set 4 _).set 5 _).set 6 _
      have d0 : W12.cell? ⟨p, 0, none⟩ = some (.int .u32 0) := q12.cell 0
      have d1 : W12.cell? ⟨p, 1, none⟩ = some (.int .u32 0) := q12.cell 1
      have d2 : W12.cell? ⟨p, 2, none⟩ = some (.int .u8 0) := q12.cell 2
      have d3 : W12.cell? ⟨p, 3, none⟩ = some (.slice none 0 0) := q12.cell 3
      have d4 : W12.cell? ⟨p, 4, none⟩ = some (.string ⟨#[]⟩) := q12.cell 4
      have d5 : W12.cell? ⟨p, 5, none⟩ = some (.string ⟨#[]⟩) := q12.cell 5
      have d6 : W12.cell? ⟨p, 6, none⟩ = some (.int .i64 0) := q12.cell 6
      have hst := ST.out.cmdR
      refine bodyPost_ret (v := (⟨0, 0, 0, none, 0, 0, [], ⟨#[]⟩, ⟨#[]⟩, 0⟩ : CmdV).val) (by simp [results, Tryd.results17, go_sem, d0, d1, d2, d3, d4, d5, d6, CmdV.val, CmdV.cells]) rfl ⟨_, rfl, EndQ.zero (by rw [hst]; exact q12) (fun h => HC2.out (by have := h.2.kd; rw [hst] at this; exact this))⟩
    have t_kd : decide ((255 : Int) < kd) = false := by simp; omega
    have HG := Lib.hid (And.intro g_cl (And.intro g_sq g_kd))
    obtain rfl : c1 = (cl : Int) := by rw [HC.out.1]; omega
    obtain rfl : c2 = (sq : Int) := by rw [HC.out.2.1]; omega
    obtain rfl : c3 = (kd : Int) := by rw [HC.out.2.2]; omega
    clear g_cl g_sq g_kd
    go_wp2_with fail
    refine HV.out.mono ?_
    rintro e W11 ⟨rfl, rfl⟩
    go_wp2
    obtain ⟨W12, hW12⟩ : ∃ W12, W12 = ((((((W10.setCell ⟨p, 0, none⟩ (.int .u32 (cl : Int))).setCell ⟨p, 1, none⟩ (.int .u32 (sq : Int))).setCell ⟨p, 2, none⟩ (.int .u8 (kd : Int))).setCell ⟨p, 3, none⟩ (.slice A L c)).setCell ⟨p, 4, none⟩ (.string o)).setCell ⟨p, 5, none⟩ (.string x)).setCell ⟨p, 6, none⟩ (.int .i64 i) := ⟨_, rfl⟩
    rw [← hW12]
    have q12 : EndQ w W12 R lim s7 p #[.int .u32 (cl : Int), .int .u32 (sq : Int), .int .u8 (kd : Int), .slice A L c, .string o, .string x, .int .i64 i] (.slice A L c) ks := by rw [hW12]; exact (((((((Q10.out.fin).set 0 _).set 1 _).set 2 _).set 3 _).set 4 _).set 5 _).set 6 _
    have d0 : W12.cell? ⟨p, 0, none⟩ = some (.int .u32 (cl : Int)) := q12.cell 0
    have d1 : W12.cell? ⟨p, 1, none⟩ = some (.int .u32 (sq : Int)) := q12.cell 1
    have d2 : W12.cell? ⟨p, 2, none⟩ = some (.int .u8 (kd : Int)) := q12.cell 2
    have d3 : W12.cell? ⟨p, 3, none⟩ = some (.slice A L c) := q12.cell 3
    have d4 : W12.cell? ⟨p, 4, none⟩ = some (.string o) := q12.cell 4
    have d5 : W12.cell? ⟨p, 5, none⟩ = some (.string x) := q12.cell 5
    have d6 : W12.cell? ⟨p, 6, none⟩ = some (.int .i64 i) := q12.cell 6
    have hst := ST.out.cmdR
    have hir : -9223372036854775808 ≤ i ∧ i ≤ 9223372036854775807 := by rw [HY.out.2.2.2.2.2]; exact i_range _
    have ho : o.size ≤ maxLen := by
      rw [HY.out.2.2.2.1]
      have := t_size (lim := lim) (s := s4)
      have := HLIM.out
      simp only [maxLen]
      omega
    have hx : x.size ≤ maxLen := by
      rw [HY.out.2.2.2.2.1]
      have := t_size (lim := lim) (s := s5)
      have := HLIM.out
      simp only [maxLen]
      omega
    have hks : ks = (keysR lim s3).1 := KQ.out.ok (by rw [← HX.out.2.2.2.1]; exact ST.out.ks HE7.out.symm)
    have hwf : (⟨cl, sq, kd, (keysR lim s3).1, o, x, i⟩ : CM).Wf := ⟨HG.out.1, HG.out.2.1, HG.out.2.2, hir⟩
    refine bodyPost_ret (v := (⟨cl, sq, kd, A, L, c, ks, o, x, i⟩ : CmdV).val) (by simp [results, Tryd.results17, go_sem, d0, d1, d2, d3, d4, d5, d6, CmdV.val, CmdV.cells]) rfl ⟨_, rfl, ?_⟩
    exact ⟨HG.out.1, HG.out.2.1, HG.out.2.2, hir, KQ.out.len, KQ.out.cap, KQ.out.max, q12.own, fun k hk => by
      have := KQ.out.each k hk
      have := HLIM.out
      simp only [maxLen]
      omega, ho, hx, by rw [hst]; exact q12.rd, fun _ _ => by rw [hst, ← hks]; rfl, fun hn => absurd ⟨by rw [hst]; exact HE7.out.symm, by rw [hst]; exact hwf⟩ hn, q12.grown⟩
  · have q0 : ((e7 : Int) != 0) = true := by simp; exact h0
    have HN := Lib.hid h0
    clear h0 z0 z1 z2 z3 z4 z5 z6
    go_wp2_with fail
    refine HV.out.mono ?_
    rintro e W11 ⟨rfl, rfl⟩
    go_wp2
    obtain ⟨W12, hW12⟩ : ∃ W12, W12 = ((((((W10.setCell ⟨p, 0, none⟩ (.int .u32 0)).setCell ⟨p, 1, none⟩ (.int .u32 0)).setCell ⟨p, 2, none⟩ (.int .u8 0)).setCell ⟨p, 3, none⟩ (.slice none 0 0)).setCell ⟨p, 4, none⟩ (.string ⟨#[]⟩)).setCell ⟨p, 5, none⟩ (.string ⟨#[]⟩)).setCell ⟨p, 6, none⟩ (.int .i64 0) := ⟨_, rfl⟩
    rw [← hW12]
    have q12 : EndQ w W12 R lim s7 p cells0 (.slice A L c) ks := by rw [hW12]; exact (((((((Q10.out.fin).set 0 _).set 1 _).set 2 _).set 3 _).set 4 _).set 5 _).set 6 _
    have d0 : W12.cell? ⟨p, 0, none⟩ = some (.int .u32 0) := q12.cell 0
    have d1 : W12.cell? ⟨p, 1, none⟩ = some (.int .u32 0) := q12.cell 1
    have d2 : W12.cell? ⟨p, 2, none⟩ = some (.int .u8 0) := q12.cell 2
    have d3 : W12.cell? ⟨p, 3, none⟩ = some (.slice none 0 0) := q12.cell 3
    have d4 : W12.cell? ⟨p, 4, none⟩ = some (.string ⟨#[]⟩) := q12.cell 4
    have d5 : W12.cell? ⟨p, 5, none⟩ = some (.string ⟨#[]⟩) := q12.cell 5
    have d6 : W12.cell? ⟨p, 6, none⟩ = some (.int .i64 0) := q12.cell 6
    have hst := ST.out.cmdR
    refine bodyPost_ret (v := (⟨0, 0, 0, none, 0, 0, [], ⟨#[]⟩, ⟨#[]⟩, 0⟩ : CmdV).val) (by simp [results, Tryd.results17, go_sem, d0, d1, d2, d3, d4, d5, d6, CmdV.val, CmdV.cells]) rfl ⟨_, rfl, EndQ.zero (by rw [hst]; exact q12) (fun h => HN.out (by rw [HE7.out]; have := h.1; rw [hst] at this; exact this))⟩
end Go.Proofs.YtfaplmpenlbajaaDoor

-- CqRd
namespace Go.Proofs.YtfaplmpenlbajaaDoor
open Go.RowKit

theorem infoC : (Tryd.prog.info? 26).map (fun i => (i.zero, i.size, i.bytes)) = some (some (.agg #[.int .u32 0, .int .u32 0, .int .u8 0, .slice none 0 0, .string ⟨#[]⟩, .string ⟨#[]⟩, .int .i64 0]), 7, 80) := by kernel_rfl
theorem infoC_parts : ∃ i, Tryd.prog.info? 26 = some i ∧ i.zero = some (.agg #[.int .u32 0, .int .u32 0, .int .u8 0, .slice none 0 0, .string ⟨#[]⟩, .string ⟨#[]⟩, .int .i64 0]) ∧ i.size = 7 ∧ i.bytes = 80 := by
  have h := infoC
  cases hi : Tryd.prog.info? 26 with
  | none => rw [hi] at h; cases h
  | some i => rw [hi] at h; simp at h; exact ⟨i, rfl, h.1, h.2.1, h.2.2⟩
/-- The cells of commands. -/
def cellsC (l : List CmdV) : List Value := l.flatMap fun a => a.cells.toList
theorem cells_len (a : CmdV) : a.cells.toList.length = 7 := rfl
theorem cellsC_len : ∀ (l : List CmdV), (cellsC l).length = l.length * 7
  | [] => rfl
  | a :: l => by rw [cellsC, List.flatMap_cons, List.length_append, cells_len]; have := cellsC_len l; rw [cellsC] at this; rw [this, List.length_cons]; omega
theorem cellsC_append (l m : List CmdV) : cellsC (l ++ m) = cellsC l ++ cellsC m := by simp [cellsC]
theorem cellsC_one (l : List CmdV) : ∀ u ∈ cellsC l, u.oneCell' = true := by
  intro u hu
  obtain ⟨a, _, ha⟩ := List.mem_flatMap.1 hu
  simp [CmdV.cells] at ha
  rcases ha with rfl | rfl | rfl | rfl | rfl | rfl | rfl <;> rfl
theorem cellsC_get : ∀ (l : List CmdV) (j i : Nat) (u : Value) (h : j < l.length), l[j].cells[i]? = some u → (cellsC l)[j * 7 + i]? = some u
  | a :: l, 0, i, u, _, hu => by
    rw [cellsC, List.flatMap_cons, Nat.zero_mul, Nat.zero_add, List.getElem?_append_left (by
      have := (Array.getElem?_eq_some_iff.1 hu).1
      simpa using this)]
    simpa using hu
  | a :: l, j + 1, i, u, h, hu => by
    have := cellsC_get l j i u (by simpa using h) (by simpa using hu)
    rw [cellsC, List.flatMap_cons, List.getElem?_append_right (by rw [cells_len]; omega), cells_len, show (j + 1) * 7 + i - 7 = j * 7 + i by omega]
    exact this
/-- Commands that a call owns, but for their keys. -/
def OwnC (base : Nat) (w : World) (v : Value) (l : List CmdV) : Prop := w.ownsRow base 26 7 v l.length (cellsC l)
theorem OwnC.form {base : Nat} {w : World} {v : Value} {l : List CmdV} (h : OwnC base w v l) : ∃ A c, v = .slice A l.length c ∧ l.length ≤ c := by
  rcases h.2 with ⟨rfl, h0⟩ | ⟨g, cap, cur, rfl, _, _, hn, _⟩
  · exact ⟨none, 0, by rw [h0], by omega⟩
  · exact ⟨_, _, rfl, hn⟩
theorem OwnC.below {base : Nat} {w w' : World} {v : Value} {l : List CmdV} (h : OwnC base w v l) (hb : Below w.heap.size w w') : OwnC base w' v l := by
  refine World.ownsRow.kept h (grownBy_of_below (r := none) hb) ?_
  cases v.ownBlock with
  | none => exact .inl rfl
  | some x => exact .inr (by simp)
theorem OwnC.nil (base : Nat) (w : World) : OwnC base w (.slice none 0 0) [] := World.ownsRow_nil _ _ _ _
theorem OwnC.same {T : List TypeId} {W W' : World} {base : Nat} {v : Value} {l : List CmdV} (h : OwnC base W v l) (hs : SameT T W W') (he : 26 ∉ T) : OwnC base W' v l := hs.ownN h he
/-- A command whose keys a call owns. -/
structure CmdO (base : Nat) (W : World) (a : CmdV) : Prop where
  cl : a.cl < 4294967296
  sq : a.sq < 4294967296
  kd : a.kd < 256
  n : -9223372036854775808 ≤ a.n ∧ a.n ≤ 9223372036854775807
  len : a.L = a.ks.length
  max : a.L ≤ 100000
  own : OwnS base W (.slice a.A a.L a.c) a.ks
  each : ∀ k ∈ a.ks, k.size ≤ maxLen
  old : a.old.size ≤ maxLen
  new : a.new.size ≤ maxLen
theorem CmdO.ok {base : Nat} {W : World} {a : CmdV} (h : CmdO base W a) : a.ok W :=
  ⟨h.cl, h.sq, h.kd, h.n, h.len, Nat.le_trans h.max (by decide), h.own.has, h.each, h.old, h.new⟩
theorem CmdO.below {base : Nat} {W W' : World} {a : CmdV} (h : CmdO base W a) (hb : Below W.heap.size W W') : CmdO base W' a :=
  ⟨h.cl, h.sq, h.kd, h.n, h.len, h.max, h.own.below hb, h.each, h.old, h.new⟩
theorem CmdO.same {T : List TypeId} {base : Nat} {W W' : World} {a : CmdV} (h : CmdO base W a) (hs : SameT T W W') (he : 9 ∉ T) : CmdO base W' a :=
  ⟨h.cl, h.sq, h.kd, h.n, h.len, h.max, h.own.same hs he, h.each, h.old, h.new⟩
theorem TakeQ.cmdO {base : Nat} {w W' : World} {R lim : Nat} {s : RdS} {a : CmdV} (h : TakeQ w W' R lim s a) (hb : base ≤ w.heap.size) : CmdO base W' a :=
  ⟨h.cl, h.sq, h.kd, h.n, h.len, h.max, h.own.mono hb, h.each, h.old, h.new⟩
theorem OwnC.has {base : Nat} {w : World} {A : Option Addr} {n c : Nat} {l : List CmdV} (h : OwnC base w (.slice A n c) l) (ho : ∀ a ∈ l, CmdO base w a) : HasC w A l := fun hl => by
  have hl' : 0 < l.length := List.length_pos_iff.2 hl
  rcases h.2 with ⟨e, h0⟩ | ⟨g, cap, cur, e, _, hg, hn, _⟩
  · omega
  · cases e
    refine ⟨g, 0, rfl, (Array.getElem?_eq_some_iff.1 hg).1, fun j hj => ⟨fun i u hu => ?_, (ho _ (List.getElem_mem hj)).ok⟩⟩
    have c0 := World.ownsRow.cells h (g := g) rfl (j * 7 + i) u (cellsC_get l j i u hj hu)
    rw [addr_add] at c0
    rw [Nat.add_assoc]
    exact c0
/-- An append of one command to commands that the call owns. -/
theorem wpList_append_C {ops : Array Oper} {rest : List Oper} {o : Oper} {a : Act} {w : World} {Q : Exit → Act → World → Prop} (hgd : o.guard = none) (s x : Operand)
    (ho : o.op = .call { callee := .builtin .append, args := #[s, x], argTypes := #[22, 22] }) (base : Nat) (v : Value) (l : List CmdV) (hs : a.eval s = v) (hown : OwnC base w v l)
    (b : Nat) (c : Nat) (t : CmdV) (hx : a.eval x = .slice (some ⟨b, 0, none⟩) 1 c) (hA : w.heap[b]? = some (.cells t.cells 26 (0, 0))) (hlen : l.length + 1 ≤ 1000000) (hbase : base ≤ w.heap.size)
    (h : ∀ v' w', OwnC base w' v' (l ++ [t]) → w.grownBy w' v.ownBlock → wpList Tryd.prog ops Q rest (a.put o.dst v') w') : wpList Tryd.prog ops Q (o :: rest) a w := by
  obtain ⟨i, hi, hz, hsz, hby⟩ := infoC_parts
  refine wpList_append_own_at w hgd s x 22 ho base 26 i _ 7 80 Tryd.underlying22 hi hz hsz hby rfl (by omega) v l.length (cellsC l) hs hown ⟨b, 0, none⟩ 1 c (cellsC [t]) hx rfl (fun j u hj => ?_) (cellsC_one [t]) (by simp only [maxLen]; omega) (by omega) hbase ?_
  · rw [addr_add]
    have : t.cells[j]? = some u := by simpa [cellsC] using hj
    rw [blk_cell hA]
    simpa using this
  · intro v' w' h1 h2 _ _
    refine h v' w' ?_ h2
    unfold OwnC
    rw [cellsC_append, List.length_append]
    exact h1

open Classical in
/-- A number that is too great for its field leaves no command. -/
noncomputable def fixM (m : CM) : CM := if m.Wf then m else zeroM
theorem TakeQ.fix {w W' : World} {R lim : Nat} {s : RdS} {a : CmdV} (h : TakeQ w W' R lim s a) (he : (cmdR lim s).2.e = 0) : a.m = fixM (cmdR lim s).1 := by
  unfold fixM
  split
  · rename_i hw; exact h.good he hw
  · rename_i hw; exact h.bad (fun h => hw h.2)
theorem one_pos (m : CM) : 0 < m.one.length := by
  have hv : 0 < (vb m.cl).length := List.length_pos_iff.2 (vb_ne _)
  simp only [CM.one, List.length_append]
  omega
theorem cmd_left {lim : Nat} {s : RdS} (h : (cmdR lim s).2.e = 0) : (cmdR lim s).2.bs.length + 1 ≤ s.bs.length := by
  have h1 := (cmdR_puts lim s h).2
  obtain ⟨r, hr⟩ : ∃ r, r = cmdR lim s := ⟨_, rfl⟩
  rw [← hr] at h1 ⊢
  have h2 := one_pos r.1
  rw [h1, List.length_append]
  omega
/-- Behind k commands of n. -/
structure BehindC (lim n : Nat) (s1 : RdS) (k : Nat) (ms : List CM) (sk : RdS) : Prop where
  len : ms.length = k
  all : manyR (cmdR lim) n s1 = (ms ++ (manyR (cmdR lim) (n - k) sk).1, (manyR (cmdR lim) (n - k) sk).2)
  left : k + sk.bs.length ≤ s1.bs.length
theorem BehindC.start (lim n : Nat) (s : RdS) : BehindC lim n s 0 [] s := ⟨rfl, by rw [Nat.sub_zero, List.nil_append], by omega⟩
theorem manyR_err {α : Type} {f : RdS → α × RdS} {n : Nat} {s : RdS} (h : (f s).2.e ≠ 0) : (manyR f (n + 1) s).2 = (f s).2 := by
  unfold manyR
  rw [if_pos h]
theorem manyR_ok {α : Type} {f : RdS → α × RdS} {n : Nat} {s : RdS} (h : (f s).2.e = 0) : manyR f (n + 1) s = ((f s).1 :: (manyR f n (f s).2).1, (manyR f n (f s).2).2) := by
  conv => lhs; unfold manyR
  rw [if_neg (fun h' => h' h)]
theorem BehindC.bad {lim n k : Nat} {s1 sk : RdS} {ms : List CM} (h : BehindC lim n s1 k ms sk) (hk : k < n) (he : (cmdR lim sk).2.e ≠ 0) : (manyR (cmdR lim) n s1).2 = (cmdR lim sk).2 := by
  rw [h.all]
  obtain ⟨m, hm⟩ : ∃ m, n - k = m + 1 := ⟨n - k - 1, by omega⟩
  rw [hm]
  dsimp only
  exact manyR_err (f := cmdR lim) (s := sk) he
theorem BehindC.next {lim n k : Nat} {s1 sk : RdS} {ms : List CM} (h : BehindC lim n s1 k ms sk) (hk : k < n) (he : (cmdR lim sk).2.e = 0) : BehindC lim n s1 (k + 1) (ms ++ [(cmdR lim sk).1]) (cmdR lim sk).2 := by
  refine ⟨by rw [List.length_append, h.len]; rfl, ?_, ?_⟩
  · rw [h.all]
    obtain ⟨m, hm⟩ : ∃ m, n - k = m + 1 := ⟨n - k - 1, by omega⟩
    have hm2 : n - (k + 1) = m := by omega
    rw [hm, hm2]
    rw [manyR_ok (f := cmdR lim) (s := sk) he, List.append_assoc]
    rfl
  · have := cmd_left he
    have := h.left
    omega
theorem BehindC.end {lim n : Nat} {s1 sk : RdS} {ms : List CM} (h : BehindC lim n s1 n ms sk) : manyR (cmdR lim) n s1 = (ms, sk) := by
  rw [h.all, Nat.sub_self]
  show (ms ++ [], sk) = _
  rw [List.append_nil]
/-- The commands so far. -/
structure CmdsO (base : Nat) (W : World) (v : Value) (l : List CmdV) : Prop where
  own : OwnC base W v l
  each : ∀ a ∈ l, CmdO base W a
theorem CmdsO.below {base : Nat} {W W' : World} {v : Value} {l : List CmdV} (h : CmdsO base W v l) (hb : Below W.heap.size W W') : CmdsO base W' v l := ⟨h.own.below hb, fun a ha => (h.each a ha).below hb⟩
theorem CmdsO.same {T : List TypeId} {base : Nat} {W W' : World} {v : Value} {l : List CmdV} (h : CmdsO base W v l) (hs : SameT T W W') (h1 : 26 ∉ T) (h2 : 9 ∉ T) : CmdsO base W' v l := ⟨h.own.same hs h1, fun a ha => (h.each a ha).same hs h2⟩
theorem CmdsO.has {base : Nat} {W : World} {A : Option Addr} {n c : Nat} {l : List CmdV} (h : CmdsO base W (.slice A n c) l) : HasC W A l := h.own.has h.each
theorem CmdsO.nil (base : Nat) (W : World) : CmdsO base W (.slice none 0 0) [] := ⟨OwnC.nil _ _, fun a ha => (by cases ha)⟩
/-- What takeAll comes to. -/
structure AllQ (w W' : World) (R lim : Nat) (s : RdS) (A : Option Addr) (L c : Nat) (l : List CmdV) : Prop where
  len : L = l.length
  cap : L ≤ c
  max : L ≤ 100000
  own : CmdsO w.heap.size W' (.slice A L c) l
  rd : RdQ W' R lim (batR lim s).2
  ok : (batR lim s).2.e = 0 → l.map CmdV.m = (batR lim s).1.map fixM
  grown : w.grownBy W' (some R)
/-- Behind k commands. -/
structure AllI (w W : World) (R lim n : Nat) (s1 : RdS) (k : Nat) (v : Value) : Prop where
  ex : ∃ ms sk l, BehindC lim n s1 k ms sk ∧ RdQ W R lim sk ∧ CmdsO w.heap.size W v l ∧ l.map CmdV.m = ms.map fixM
  grown : w.grownBy W (some R)
set_option maxRecDepth 100000 in
set_option maxHeartbeats 4000000 in
theorem takeAll_q {w : World} {R lim : Nat} {s : RdS} (h : RdQ w R lim s) (hlim : lim ≤ 1000000) (hb : s.bs.length ≤ 100000) :
    Calls Tryd.prog 42 #[.pointer (some ⟨R, 0, none⟩)] w fun x W' => ∃ A L c l, x = .returned (.slice A L c) ∧ AllQ w W' R lim s A L c l := by
  have hun := s.u_lt
  have hul := u_left s
  obtain ⟨n, hn⟩ : ∃ n, n = s.u.1 := ⟨_, rfl⟩
  obtain ⟨s1, hs1⟩ : ∃ x, x = s.u.2 := ⟨_, rfl⟩
  have hkr : batR lim s = manyR (cmdR lim) n s1 := by rw [hn, hs1]; rfl
  have hU : Calls Tryd.prog 36 #[.pointer (some ⟨R, 0, none⟩)] w fun x W' => x = .returned (.int .u64 (n : Int)) ∧ RdQ W' R lim s1 ∧ w.grownBy W' (some R) := by
    rw [hn, hs1]; exact UintR_q h
  rw [← hn] at hun
  rw [← hs1] at hul
  have HU := Lib.hid hU
  have HKR := Lib.hid hkr
  have HLIM := Lib.hid (And.intro hlim (And.intro hb hul))
  have hni : (n : Int) < 18446744073709551616 := by omega
  clear hU hkr hlim hb hul hn hs1 h hun
  go_enter Tryd.func42, Tryd.ntmps42
  go_wp2_with fail
  refine HU.out.mono ?_
  rintro e W1 ⟨rfl, hr1, hg1⟩
  have S1 : Hid (AllI w W1 R lim n s1 0 (.slice none 0 0)) := Lib.hid ⟨⟨[], s1, [], BehindC.start lim n s1, hr1, ⟨OwnC.nil _ _, fun a ha => (by cases ha)⟩, rfl⟩, hg1⟩
  clear hr1 hg1
  go_wp2
  go_loopw [3, 4, 7] (fun v3 v4 i wr => ∃ k : Nat, k ≤ n ∧ i = .int .u64 (k : Int) ∧ Hid (AllI w wr R lim n s1 k v3)) (fun _ _ i _ => n - (intOf i).toNat)
  case atStart => exact ⟨0, Nat.zero_le _, rfl, S1⟩
  case round =>
    obtain ⟨k, hk, rfl, hI⟩ := hrel
    obtain ⟨⟨ms, sk, l, hbe, hrd, hown, hmm⟩, hgr⟩ := hI.out
    have HBE := Lib.hid hbe
    have HGR := Lib.hid hgr
    have HOW := Lib.hid hown
    have HMM := Lib.hid hmm
    have hsl : sk.bs.length ≤ 100000 := by have := hbe.left; have := HLIM.out; omega
    have hll : l.length ≤ 100000 ∧ l.length = k := by
      have h1 := congrArg List.length hmm
      simp only [List.length_map] at h1
      have := hbe.left; have := hbe.len; have := HLIM.out; omega
    have HLL := Lib.hid hll
    by_cases hlt : k < n
    · have hki : (k : Int) < n := by omega
      have hT := Take_q hrd HLIM.out.1 hsl
      have HT := Lib.hid hT
      have HRD := Lib.hid hrd
      clear hT hbe hrd hown hgr hmm hsl hll
      go_wp2_with fail
      refine HT.out.mono ?_
      rintro e W2 ⟨a, rfl, htk⟩
      obtain ⟨s2, hs2⟩ : ∃ x, x = (cmdR lim sk).2 := ⟨_, rfl⟩
      obtain ⟨m2, hm2⟩ : ∃ x, x = (cmdR lim sk).1 := ⟨_, rfl⟩
      have HTS := Lib.hid (And.intro hm2 hs2)
      have O2 : Hid (CmdsO w.heap.size W2 u3 l) := Lib.hid (HOW.out.same (HRD.out.stays htk.grown) (by decide) (by decide))
      have G2 : Hid (w.grownBy W2 (some R)) := Lib.hid (grownBy_trans HGR.out htk.grown)
      have A2 : Hid (CmdO w.heap.size W2 a) := Lib.hid (htk.cmdO HGR.out.size)
      have R2 : Hid (RdQ W2 R lim s2) := Lib.hid (by rw [hs2]; exact htk.rd)
      have F2 : Hid (s2.e = 0 → a.m = fixM m2) := Lib.hid (by rw [hs2, hm2]; exact htk.fix)
      clear htk hs2 hm2
      obtain ⟨acl, asq, akd, A, M, c, ks, old, new, nn⟩ := a
      simp only [CmdV.val, CmdV.cells]
      go_upto_region 5 with (fail)
      obtain ⟨W3, hW3⟩ : ∃ W3, W3 = W2.alloc (Obj.cells #[.int .u32 (acl : Int), .int .u32 (asq : Int), .int .u8 (akd : Int), .slice A M c, .string old, .string new, .int .i64 nn] 26) := ⟨_, rfl⟩
      rw [← hW3]
      obtain ⟨hB3, k3⟩ := boxed0 hW3
      obtain ⟨q, hq⟩ : ∃ q, q = W2.heap.size := ⟨_, rfl⟩
      rw [← hq] at k3 ⊢
      have O3 : Hid (CmdsO w.heap.size W3 u3 l) := Lib.hid (O2.out.below hB3)
      have G3 : Hid (w.grownBy W3 (some R)) := Lib.hid (grownBy_below G2.out hB3)
      have A3 := Lib.hid (A2.out.below hB3)
      have r3 : RdQ W3 R lim s2 := R2.out.below hB3
      have R3 := Lib.hid r3
      have hE := ErrR_q r3
      obtain ⟨e2, he2⟩ : ∃ x, x = s2.e := ⟨_, rfl⟩
      rw [← he2] at hE
      have HE := Lib.hid hE
      have HEE := Lib.hid he2
      have z0 : W3.cell? ⟨q, 0, none⟩ = some (.int .u32 (acl : Int)) := by simpa using blk_cell k3 0
      have z1 : W3.cell? ⟨q, 1, none⟩ = some (.int .u32 (asq : Int)) := by simpa using blk_cell k3 1
      have z2 : W3.cell? ⟨q, 2, none⟩ = some (.int .u8 (akd : Int)) := by simpa using blk_cell k3 2
      have z3 : W3.cell? ⟨q, 3, none⟩ = some (.slice A M c) := by simpa using blk_cell k3 3
      have z4 : W3.cell? ⟨q, 4, none⟩ = some (.string old) := by simpa using blk_cell k3 4
      have z5 : W3.cell? ⟨q, 5, none⟩ = some (.string new) := by simpa using blk_cell k3 5
      have z6 : W3.cell? ⟨q, 6, none⟩ = some (.int .i64 nn) := by simpa using blk_cell k3 6
      clear hW3 hB3 k3 hq r3 hE he2
      by_cases h0 : e2 = 0
      · subst h0
        have hbn := HBE.out.next hlt (by rw [← HTS.out.2, ← HEE.out])
        rw [← HTS.out.1, ← HTS.out.2] at hbn
        have HBN := Lib.hid hbn
        have HM3 : Hid ((l ++ [(⟨acl, asq, akd, A, M, c, ks, old, new, nn⟩ : CmdV)]).map CmdV.m = (ms ++ [m2]).map fixM) := Lib.hid (by
          rw [List.map_append, List.map_append, HMM.out]
          congr 1
          simp only [List.map_cons, List.map_nil]
          rw [F2.out HEE.out.symm])
        clear hbn
        go_wp2_with fail
        refine HE.out.mono ?_
        rintro e W4 ⟨rfl, rfl⟩
        obtain ⟨W5, hW5⟩ : ∃ W5, W5 = W3.alloc (Obj.cells (⟨acl, asq, akd, A, M, c, ks, old, new, nn⟩ : CmdV).cells 26) := ⟨_, rfl⟩
        obtain ⟨hB5, k5⟩ := boxed0 hW5
        have hW5' := hW5
        simp only [CmdV.cells] at hW5'
        have O5 : Hid (CmdsO w.heap.size W5 u3 l) := Lib.hid (O3.out.below hB5)
        have G5 : Hid (w.grownBy W5 (some R)) := Lib.hid (grownBy_below G3.out hB5)
        have A5 := Lib.hid (A3.out.below hB5)
        have R5 : Hid (RdQ W5 R lim s2) := Lib.hid (R3.out.below hB5)
        have K5 := Lib.hid k5
        have HW5 := Lib.hid hW5'
        clear hW5 hW5' hB5 k5
        go_wp2_with (at_builtin; rw [← HW5.out]; refine wpList_append_C rfl (.tmp 14) (.tmp 16) rfl w.heap.size _ l rfl O5.out.own W3.heap.size 1 _ rfl K5.out (by have := HLL.out; omega) G5.out.size ?_; intro v' W6 hown hg; have O6 : Hid (CmdsO w.heap.size W6 v' (l ++ [(⟨acl, asq, akd, A, M, c, ks, old, new, nn⟩ : CmdV)])) := Lib.hid ⟨hown, fun x hx => (by rcases List.mem_append.1 hx with h1 | h1; exact (O5.out.each x h1).same (SameT.grown hg (own_typedN O5.out.own)) (by decide); rw [List.mem_singleton.1 h1]; exact A5.out.same (SameT.grown hg (own_typedN O5.out.own)) (by decide))⟩; have R6 : Hid (RdQ W6 R lim s2) := Lib.hid (R5.out.same (SameT.grown hg (own_typedN O5.out.own)) (by decide) (by decide)); have G6 : Hid (w.grownBy W6 (some R)) := Lib.hid (grownBy_new G5.out hg (fun x e => (O5.out.own.lt x e).1)); clear hown hg)
        exact ⟨⟨k + 1, by omega, by congr 1, Lib.hid ⟨⟨_, _, _, HBN.out, R6.out, O6.out, HM3.out⟩, G6.out⟩⟩, by simp only [intOf]; omega⟩
      · have q0 : ((e2 : Int) != 0) = true := by simp; exact h0
        have hbad := HBE.out.bad hlt (by rw [← HTS.out.2, ← HEE.out]; exact h0)
        rw [← HTS.out.2, ← HKR.out] at hbad
        have HBAD := Lib.hid hbad
        have HN := Lib.hid h0
        clear hbad h0
        go_wp2_with fail
        refine HE.out.mono ?_
        rintro e W4 ⟨rfl, rfl⟩
        go_wp2
        go_ret
        exact ⟨none, 0, 0, [], rfl, rfl, Nat.le_refl _, Nat.zero_le _, CmdsO.nil _ _, by rw [HBAD.out]; exact R3.out, fun h => absurd (HEE.out.trans (by rw [HBAD.out] at h; exact h)) HN.out, G3.out⟩
    · obtain rfl : k = n := by omega
      have hki : ¬ (k : Int) < k := by omega
      have hend := hbe.end
      rw [← HKR.out] at hend
      obtain ⟨A, c, rfl, hcap⟩ := hown.own.form
      have HH := Lib.hid (And.intro hend (And.intro hll.1 hcap))
      have HRD := Lib.hid hrd
      clear hend hll hcap hbe hrd hown hgr hlt hmm hsl
      go_wp2
      go_ret
      exact ⟨A, l.length, c, rfl, l, rfl, HH.out.2.2, HH.out.2.1, HOW.out, by rw [HH.out.1]; exact HRD.out, fun _ => by rw [HH.out.1]; exact HMM.out, HGR.out⟩
end Go.Proofs.YtfaplmpenlbajaaDoor

-- CqRe
namespace Go.Proofs.YtfaplmpenlbajaaDoor
open Go.RowKit

theorem below_row {lo : Nat} {a b c : World} {row : Option Nat} (h : Below lo a b) (g : b.grownBy c row) (hr : ∀ x, row = some x → lo ≤ x) (hlo : lo ≤ b.heap.size) : Below lo a c :=
  ⟨g.os.trans h.os, g.tape.trans h.tape, g.output.trans h.output, Nat.le_trans h.size g.size, fun k hk => (g.block k (Nat.lt_of_lt_of_le hk hlo) (fun e => by have := hr k e.symm; omega)).trans (h.block k hk)⟩
theorem zeroM_no : ¬ zeroM.May := fun h => absurd h.kd.1 (by decide)
theorem fixM_may {m : CM} : (fixM m).May ↔ m.May ∧ m.Wf := by
  unfold fixM
  split
  · rename_i h; exact ⟨fun k => ⟨k, h⟩, fun k => k.1⟩
  · rename_i h; exact ⟨fun k => absurd k zeroM_no, fun k => absurd k.2 h⟩
theorem fixM_wf {m : CM} (h : m.Wf) : fixM m = m := if_pos h
theorem fix_mayB {ms : List CM} : MayB (ms.map fixM) ↔ MayB ms ∧ ∀ m ∈ ms, m.Wf := by
  constructor
  · intro h
    refine ⟨⟨by have := h.len; rwa [List.length_map] at this, fun m hm => (fixM_may.1 (h.each _ (List.mem_map.2 ⟨m, hm, rfl⟩))).1⟩, fun m hm => (fixM_may.1 (h.each _ (List.mem_map.2 ⟨m, hm, rfl⟩))).2⟩
  · rintro ⟨h, hw⟩
    refine ⟨by rw [List.length_map]; exact h.len, fun m hm => ?_⟩
    obtain ⟨x, hx, rfl⟩ := List.mem_map.1 hm
    exact fixM_may.2 ⟨h.each x hx, hw x hx⟩
theorem fix_map {ms : List CM} (h : ∀ m ∈ ms, m.Wf) : ms.map fixM = ms := by
  conv => rhs; rw [← List.map_id ms]
  exact List.map_congr_left fun m hm => fixM_wf (h m hm)
open Classical in
/-- What Parse answers, off what the reader tells. -/
theorem prs_err {bs : List UInt8} (h : (batR 64 ⟨0, bs⟩).2.done ≠ 0) : prsN bs = (batR 64 ⟨0, bs⟩).2.done := by
  unfold prsN
  rw [if_pos h]
theorem prs_form {bs : List UInt8} (h : (batR 64 ⟨0, bs⟩).2.done = 0) (hn : ¬ MayB ((batR 64 ⟨0, bs⟩).1.map fixM)) : prsN bs = 11 := by
  unfold prsN
  rw [if_neg (fun h' => h' h), if_neg (fun h' => hn (fix_mayB.2 h'))]
theorem prs_ok {bs : List UInt8} (h : (batR 64 ⟨0, bs⟩).2.done = 0) (hn : MayB ((batR 64 ⟨0, bs⟩).1.map fixM)) : prsN bs = 0 := by
  unfold prsN
  rw [if_neg (fun h' => h' h), if_pos (fix_mayB.1 hn)]
open Classical in
set_option maxRecDepth 100000 in
set_option maxHeartbeats 4000000 in
theorem Parse_any (A : Option Addr) (L c : Nat) (bs : List UInt8) (w : World) (hT : TabQ w) (hL : L = bs.length) (hm : L ≤ 10000) (hA : HasA w w.heap.size A bs) :
    Calls Tryd.prog 21 #[.slice A L c] w fun e W' => ∃ v l, ∃ n : Nat, e = .returned (.tuple #[v, .int .i64 (n : Int)]) ∧ TellsC W' v l ∧ ParseR bs l n ∧ Below w.heap.size w W' := by
  have HN : Hid (Calls Tryd.prog 16 #[.slice A L c, .int .i64 64] w fun x W' => ∃ R, x = .returned (.pointer (some ⟨R, 0, none⟩)) ∧ RdQ W' R 64 ⟨0, bs⟩ ∧ w.heap.size ≤ R ∧ Below w.heap.size w W') := Lib.hid (NewR_q (lim := 64) A L c bs hL (by omega) hA)
  have HL := Lib.hid (And.intro hL hm)
  have HT := Lib.hid hT
  clear hT hL hm hA
  go_enter Tryd.func21, Tryd.ntmps21
  go_wp2_with fail
  refine HN.out.mono ?_
  rintro e W1 ⟨R, rfl, r1, hR, b1⟩
  have HT1 := Lib.hid (takeAll_q r1 (by decide) (by have := HL.out; simp only; omega))
  have HR := Lib.hid (And.intro hR b1)
  clear r1 hR b1
  go_wp2_with fail
  refine HT1.out.mono ?_
  rintro e W2 ⟨A2, L2, c2, l, rfl, q⟩
  have HD := DoneR_q q.rd
  have HQ := Lib.hid q
  obtain ⟨d, hd⟩ : ∃ d, d = (batR 64 ⟨0, bs⟩).2.done := ⟨_, rfl⟩
  rw [← hd] at HD
  have HDD := Lib.hid hd
  have HD1 := Lib.hid HD
  clear q HD hd
  go_wp2_with fail
  refine HD1.out.mono ?_
  rintro e W3 ⟨rfl, g3⟩
  have B3 : Hid (Below w.heap.size w W3) := Lib.hid (below_row (below_row HR.out.2 HQ.out.grown (fun x e => by cases e; exact HR.out.1) HR.out.2.size) g3 (fun x e => by cases e; exact HR.out.1) (Nat.le_trans HR.out.2.size HQ.out.grown.size))
  have C3 : Hid (HasC W3 A2 l) := Lib.hid (HQ.out.own.same (HQ.out.rd.stays g3) (by decide) (by decide)).has
  have T3 := Lib.hid (HT.out.grew B3.out)
  clear g3
  by_cases h0 : d = 0
  · subst h0
    have he0 := (done_zero HDD.out.symm).1
    have hl := HQ.out.ok he0
    have HF := batchFits_any A2 L2 c2 l HQ.out.len (by have := HQ.out.max; omega) W3 T3.out C3.out
    obtain ⟨b, hb⟩ : ∃ b, b = decide (MayB (l.map CmdV.m)) := ⟨_, rfl⟩
    rw [← hb] at HF
    have HF1 := Lib.hid HF
    have HB := Lib.hid hb
    have HLL := Lib.hid hl
    clear HF hb hl he0
    go_wp2_with fail
    refine HF1.out.mono ?_
    rintro e W4 ⟨rfl, b4⟩
    have B4 := Lib.hid b4
    clear b4
    cases b
    case true =>
      have hmb : MayB (l.map CmdV.m) := of_decide_eq_true HB.out.symm
      rw [HLL.out] at hmb
      have hw := (fix_mayB.1 hmb).2
      have hp := prs_ok HDD.out.symm hmb
      have HP : Hid (ParseR bs l 0) := Lib.hid (parse_spec hp.symm (fun _ => by rw [HLL.out, fix_map hw]) (fun h => absurd rfl h))
      clear hmb hw hp
      go_wp2
      go_ret2
      exact ⟨_, l, 0, rfl, ⟨A2, L2, c2, rfl, HQ.out.len, HQ.out.cap, C3.out.below B4.out⟩, HP.out, B3.out.trans (Below.mono B4.out B3.out.size)⟩
    case false =>
      have hmb : ¬ MayB (l.map CmdV.m) := of_decide_eq_false HB.out.symm
      rw [HLL.out] at hmb
      have hp := prs_form HDD.out.symm hmb
      have HP : Hid (ParseR bs [] 11) := Lib.hid (parse_spec hp.symm (fun h => absurd h (by decide)) (fun _ => rfl))
      clear hmb hp
      go_wp2
      go_ret2
      exact ⟨_, [], 11, rfl, ⟨none, 0, 0, rfl, rfl, Nat.le_refl _, fun h => absurd rfl h⟩, HP.out, B3.out.trans (Below.mono B4.out B3.out.size)⟩
  · have q0 : ((d : Int) != 0) = true := by simp; exact h0
    have hp := prs_err (bs := bs) (by rw [← HDD.out]; exact h0)
    rw [← HDD.out] at hp
    have HP : Hid (ParseR bs [] d) := Lib.hid (parse_spec hp.symm (fun h => absurd h h0) (fun _ => rfl))
    clear hp h0
    go_wp2
    go_ret2
    exact ⟨_, [], d, rfl, ⟨none, 0, 0, rfl, rfl, Nat.le_refl _, fun h => absurd rfl h⟩, HP.out, B3.out⟩
end Go.Proofs.YtfaplmpenlbajaaDoor
