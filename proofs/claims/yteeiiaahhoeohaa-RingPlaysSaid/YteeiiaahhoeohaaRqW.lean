/- The contract of a ring's All, of texts. -/
import Derived.Test.YteeiiaahhoeohaaRqSS
import Derived.Test.YteeiiaahhoeohaaRqL
import Derived.Test.YteeiiaahhoeohaaRgTold
namespace Go.Proofs.Yteeiiaahhoeohaa
open Go.RowKit Go.Shelf
attribute [local go_sem] Oper.semAt_some

/-- So many of the slots that have values were told: those up to e. -/
structure Upto (ls : List (Nat × ByteArray)) (e j : Nat) : Prop where
  le : j ≤ ls.length
  lo : ∀ q (h : q < ls.length), q < j → (ls[q]).1 ≤ e
  hi : ∀ q (h : q < ls.length), j ≤ q → e < (ls[q]).1
theorem Upto.step {s : RS ByteArray} {ls : List (Nat × ByteArray)} (hL : Listed s ls) {e j : Nat} (h : Upto ls e j) :
    (s.t (e + 1) = none ∧ Upto ls (e + 1) j) ∨ (∃ (hj : j < ls.length), (ls[j]).1 = e + 1 ∧ s.t (e + 1) = some (ls[j]).2 ∧ Upto ls (e + 1) (j + 1)) := by
  have up := List.pairwise_iff_getElem.1 hL.up
  cases ht : s.t (e + 1) with
  | none =>
    refine .inl ⟨rfl, h.le, fun q hq hqj => Nat.le_succ_of_le (h.lo q hq hqj), fun q hq hjq => ?_⟩
    have h1 := h.hi q hq hjq
    rcases Nat.lt_or_ge (e + 1) (ls[q]).1 with h2 | h2
    · exact h2
    · have h3 : (ls[q]).1 = e + 1 := by omega
      have := hL.at_ (ls[q]) (List.getElem_mem hq)
      rw [h3, ht] at this
      cases this
  | some v =>
    obtain ⟨q, hq, hqe⟩ := List.mem_iff_getElem.1 (hL.all (e + 1) v ht)
    have q1 : (ls[q]).1 = e + 1 := by rw [hqe]
    have q2 : (ls[q]).2 = v := by rw [hqe]
    have hjq : j ≤ q := by
      rcases Nat.lt_or_ge q j with h1 | h1
      · have := h.lo q hq h1; omega
      · exact h1
    have hqj : q = j := by
      rcases Nat.lt_or_ge j q with h1 | h1
      · have h2 := up j q (by omega) hq h1
        have h3 := h.hi j (by omega) (Nat.le_refl _)
        omega
      · omega
    subst hqj
    refine .inr ⟨hq, q1, by rw [q2], hq, fun i hi hiq => ?_, fun i hi hiq => ?_⟩
    · rcases Nat.lt_or_ge i q with h1 | h1
      · exact Nat.le_succ_of_le (h.lo i hi h1)
      · have : i = q := by omega
        subst this; omega
    · have := up q i hq hi (by omega)
      omega
theorem Upto.zero {s : RS ByteArray} {ls : List (Nat × ByteArray)} (hL : Listed s ls) {b : Nat} (hb : ∀ j, s.t j ≠ none → b < j) : Upto ls b 0 :=
  ⟨Nat.zero_le _, fun q _ h => by omega, fun q hq _ => hb _ (by rw [hL.at_ _ (List.getElem_mem hq)]; simp)⟩
theorem Upto.last {s : RS ByteArray} {ls : List (Nat × ByteArray)} (hL : Listed s ls) {e j : Nat} (h : Upto ls e j) (hb : ∀ j, s.t j ≠ none → j ≤ e) : j = ls.length := by
  rcases Nat.lt_or_ge j ls.length with h1 | h1
  · have := h.hi j h1 (Nat.le_refl _)
    have h2 := hb (ls[j]).1 (by rw [hL.at_ _ (List.getElem_mem h1)]; simp)
    omega
  · have := h.le; omega

/-- What the rounds of All keep. -/
structure WJ (w : World) (R P b : Nat) (f : FuncId) (cs : Array Value) (ls : List (Nat × ByteArray)) (I : Nat → World → Prop) (i : Nat) (W : World) : Prop where
  r : W.heap[P]? = some (.cells #[.pointer (some ⟨R, 0, none⟩)] 23 (0, 0))
  y : W.heap[P + 1]? = some (.cells #[.func (.func f) #[] cs] 85 (0, 0))
  st : ∃ j, I j W ∧ Hid (Upto ls (b + i) j)
theorem WJ.abides {w : World} {R P b : Nat} {f : FuncId} {cs : Array Value} {ls : List (Nat × ByteArray)} {I : Nat → World → Prop} {i B : Nat} (hI : ∀ j, Abides B (I j)) : Abides B (WJ w R P b f cs ls I i) := by
  rintro W W' row ⟨h1, h2, j, h3, h4⟩ hg hr
  exact ⟨Abides.block W W' row h1 hg hr, Abides.block W W' row h2 hg hr, j, hI j W W' row h3 hg hr, h4⟩

theorem func_not_nil (f : FuncId) (cs : Array Value) (w : World) : (binOp BinOp.eql 85 (.func (.func f) #[] cs) .nilFunc).run Try.prog w = .ok (.bool false) w := by kernel_rfl

set_option maxRecDepth 100000 in
set_option maxHeartbeats 4000000 in
theorem all_in_S (n : Nat) (hn : 4 ≤ n) {w : World} {R G m : Nat} {cc : Array Value} {s : RS ByteArray} (h : RQS w R G m cc s) (ls : List (Nat × ByteArray)) (hL : Listed s ls) (f : FuncId) (cs : Array Value) (Y : Nat → Prop) (I : Nat → World → Prop) (J : World → Prop)
    (hen : ∀ args w, (callFunc f args).run Try.prog w = .ok (.enter f args) w) (hY : ∀ k, Y k → ¬ FR R G k) (hI0 : I 0 w) (hI : ∀ j, Abides w.heap.size (I j)) (hJ : Abides w.heap.size J) (hO : ∀ j W, I j W → Only Y w W)
    (hf : ∀ j (hj : j < ls.length) W, I j W → Calls Try.prog f (#[.int .u64 ((ls[j]).1 : Int), .string (ls[j]).2] ++ cs) W fun e W' => Mild W W' ∧ ((e = .returned (.bool true) ∧ I (j + 1) W') ∨ (e = .returned (.bool false) ∧ J W'))) :
    CallsIn Fence.wide n Try.prog 28 #[.pointer (some ⟨R, 0, none⟩), .func (.func f) #[] cs] w fun e w' => e = .returned (.tuple #[]) ∧ (I ls.length w' ∨ J w') := by
  have h1 : 1 ≤ n := by omega
  obtain ⟨b, hb⟩ : ∃ b, b = s.b := ⟨_, rfl⟩
  obtain ⟨P, hP⟩ : ∃ P, P = w.heap.size := ⟨_, rfl⟩
  obtain ⟨W0, hW0⟩ : ∃ W0, W0 = (w.alloc (.cells #[.pointer (some ⟨R, 0, none⟩)] 23)).alloc (.cells #[.func (.func f) #[] cs] 85) := ⟨_, rfl⟩
  have hga : Below w.heap.size w W0 := by rw [hW0]; exact ((Below.refl _ _).alloc (Nat.le_refl _) _).alloc (by simp) _
  have hle : w.heap.size ≤ W0.heap.size := hga.size
  have hj0 : WJ w R P b f cs ls I 0 W0 := by
    refine ⟨?_, ?_, 0, hI 0 _ _ none hI0 (grownBy_of_below hga) (fun r e => by cases e), Upto.zero hL (fun j hj => by rw [hb]; exact (h.out j hj).1)⟩
    · rw [hW0, hP]; exact (Below.heap_alloc _ _ _ (by simp)).trans (World.alloc_heap_new w _)
    · rw [hW0, hP]
      have := World.alloc_heap_new (w.alloc (.cells #[.pointer (some ⟨R, 0, none⟩)] 23)) (.cells #[.func (.func f) #[] cs] 85)
      rwa [World.size_alloc] at this
  have hII : ∀ j, Abides W0.heap.size (I j) := fun j W W' row hi hg hr => hI j W W' row hi hg (fun r e => ⟨Nat.le_trans hle (hr r e).1, (hr r e).2⟩)
  have hJJ : Abides W0.heap.size J := fun W W' row hi hg hr => hJ W W' row hi hg (fun r e => ⟨Nat.le_trans hle (hr r e).1, (hr r e).2⟩)
  have HJ0 := Lib.hid hj0
  have H := Lib.hid h
  have HL := Lib.hid hL
  have HB := Lib.hid hb
  have HPP := Lib.hid hP
  have HEN := Lib.hid hen
  have HY := Lib.hid hY
  have HO := Lib.hid hO
  have HF := Lib.hid hf
  have HII := Lib.hid hII
  have HJJ := Lib.hid hJJ
  have c0 := blk_cell hj0.r 0
  have c1 := blk_cell hj0.y 0
  simp at c0 c1
  obtain ⟨E, hE⟩ : ∃ E, E = min s.n (18446744073709551615 - b) := ⟨_, rfl⟩
  have hE1 : b + E ≤ 18446744073709551615 := by have := h.b64; omega
  have HE := Lib.hid hE
  clear h hb hj0 hga hE hL hen hY hI0 hI hJ hO hf hII hJJ
  have hnn := func_not_nil f cs W0
  refine callsIn_of_wp_marks Try.func28 rfl trivial ?_ rfl
  simp only [Try.ntmps28, List.size_toArray, List.length_cons, List.length_nil, Nat.reduceAdd, Nat.reduceSub, Array.replicate_succ, Array.replicate_zero, List.push_toArray, List.append_toArray, List.nil_append, List.cons_append]
  refine wpIn_wide.2 ?_
  go_upto_region 1 with (fail)
  rw [← hW0, ← hP]
  clear hW0 hP
  go_wp2
  refine (wpIn_wide (n := n)).1 ?_
  refine wpIn_rangeFunc_tied rfl h1 (gf := 20) (fb := #[.pointer (some ⟨R, 0, none⟩)]) (lb := #[]) rfl trivial (enters_of Try.func20 (by kernel_rfl) rfl) (encs := slotVS b) (fun _ => rfl)
    (WJ.abides HII.out) (WJ.abides HII.out) (fun i => (WJ.abides HII.out).and (Abides.pure _)) (fun i => WJ.abides HII.out) (Ix := fun c W => Hid (c = .ret) ∧ J W) (Ixd := fun c W => Hid (c = .ret) ∧ J W) (fun c => (Abides.pure _).and HJJ.out) (fun c => (Abides.pure _).and HJJ.out)
    (slots_S (n - 1) (by omega) R G b s.n E (by have := H.out.b64; rw [HB.out]; exact this) H.out.n2 HE.out (WJ w R P b f cs ls I) _ (fun W ⟨_, _, j, hj, _⟩ => ⟨_, by rw [HB.out]; exact (H.out.only (HO.out j W hj) (fun k hk hy => HY.out k hy hk)).blk⟩) W0.heap.size) HJ0.out
    (fun i => { tmps := #[.pointer (some ⟨R, 0, none⟩), .func (.func f) #[] cs, .pointer (some ⟨P, 0, none⟩), .pointer (some ⟨P + 1, 0, none⟩), .int .u64 ((b : Int) + 1 + (i : Int)), undef, undef, .func (.func f) #[] cs, .bool false, .pointer (some ⟨R, 0, none⟩), .func (.func 20) #[.pointer (some ⟨R, 0, none⟩)] #[], .int .u64 ((b : Int) + 1 + (i : Int)), undef, undef, undef, undef, undef, undef, undef, undef, undef, undef, undef, undef, undef, undef], defers := [] }) ?assign ?body ?done ?stop
  case assign =>
    intro l i W K hK
    simp only [slotVS]
    gi_wp2
    exact hK
  case body =>
    rintro l i W ⟨⟨hr, hy, j, hij, hup⟩, hiE⟩ hlt
    have c0 := blk_cell hr 0
    simp at c0
    have hq := H.out.only (HO.out j W hij) (fun k hk hy => HY.out k hy hk)
    have hsl : (b : Int) + 1 + (i : Int) = ((b + i + 1 : Nat) : Int) := by omega
    have hg := get_S hq (b + i + 1) (by omega)
    rw [← hsl] at hg
    have HG := Lib.hid hg
    have HR := Lib.hid hr
    have HYY := Lib.hid hy
    have HIJ := Lib.hid hij
    clear hg hq hr hy hij hsl
    rcases hup.out.step HL.out with ⟨ht, hu⟩ | ⟨hj, hj1, ht, hu⟩
    · rw [ht] at HG
      have HU := Lib.hid hu
      clear ht hu hup
      gi_wp2_with (refine ⟨trivial, fun _ => by omega, ?_⟩; gi_at_call 6; refine (CallsIn.inRound l (callsIn_wide.2 HG.out)).mono ?_; rintro y w' ⟨rfl, hb'⟩; have HB' := Lib.hid hb'; clear hb')
      refine ⟨fun f hf => absurd hf (by simp), ?_⟩
      gi_wp2
      have hg' := grownBy_of_below (r := none) HB'.out
      refine ⟨KeepsFrom.of_grownBy hg' (fun j e => by cases e), ?_, ?_, j, HII.out j _ _ none HIJ.out hg' (fun r e => by cases e), HU.out⟩
      · exact (HB'.out.block _ (Array.getElem?_eq_some_iff.1 HR.out).1).trans HR.out
      · exact (HB'.out.block _ (Array.getElem?_eq_some_iff.1 HYY.out).1).trans HYY.out
    · rw [ht] at HG
      obtain ⟨tx, htx⟩ : ∃ tx, tx = (ls[j]).2 := ⟨_, rfl⟩
      rw [← htx] at HG
      have hsl2 : (((ls[j]).1 : Nat) : Int) = (b : Int) + 1 + (i : Int) := by omega
      have hff := HF.out j hj
      rw [← htx, hsl2] at hff
      have HFF := Lib.hid hff
      have HU := Lib.hid hu
      clear ht hu hup htx hsl2 hff hj1
      gi_wp2_with (first | (refine ⟨trivial, fun _ => by omega, ?_⟩; gi_at_call 6; refine (CallsIn.inRound l (callsIn_wide.2 HG.out)).mono ?_; rintro y w' ⟨rfl, hb'⟩; have hr' := (hb'.block _ (Array.getElem?_eq_some_iff.1 HR.out).1).trans HR.out; have hy' := (hb'.block _ (Array.getElem?_eq_some_iff.1 HYY.out).1).trans HYY.out; have hg' := grownBy_of_below (r := none) hb'; have hi' := HII.out j _ _ none HIJ.out hg' (fun r e => by cases e); have c1 := blk_cell hy' 0; simp at c1; have HR' := Lib.hid hr'; have HY' := Lib.hid hy'; have HG' := Lib.hid hg'; have HI' := Lib.hid hi'; clear hb' hr' hy' hg' hi') | (refine ⟨trivial, ?_⟩; rw [HEN.out]))
      refine ⟨fun _ => by omega, (CallsIn.inRound l (callsIn_wide.2 (HFF.out _ HI'.out))).mono ?_⟩
      rintro y w2 ⟨hm, hcase⟩
      have hkf : KeepsFrom W0.heap.size W w2 := (KeepsFrom.of_grownBy HG'.out (fun j e => by cases e)).trans (hm.1.from _)
      have hr2 := hm.2 _ _ _ (.inl rfl) HR'.out
      have hy2 := hm.2 _ _ _ (.inr rfl) HY'.out
      have HM := Lib.hid (And.intro hkf (And.intro hr2 hy2))
      clear hm hkf hr2 hy2
      rcases hcase with ⟨rfl, hi2⟩ | ⟨rfl, hj2⟩
      · have HI2 := Lib.hid hi2
        clear hi2
        gi_wp2
        exact ⟨HM.out.1, HM.out.2.1, HM.out.2.2, j + 1, HI2.out, HU.out⟩
      · have HJ2 := Lib.hid hj2
        clear hj2
        gi_wp2
        exact ⟨HM.out.1, rfl, HJ2.out⟩
  case done =>
    rintro D W hD ⟨_, _, j, hij, hup⟩ hK
    have hjl := hup.out.last HL.out (fun j hj => by
      have h1 := (H.out.out j hj).2
      have h2 := HE.out
      have h3 := HB.out
      omega)
    subst hjl
    have HK := Lib.hid hK
    have HI := Lib.hid hij
    clear hK hij hup
    have hfn : I ls.length (W.putObj D (.deferred none)) := HII.out _ _ _ (some D) HI.out (grownBy_putObj' W D _) (fun r e => by cases e; exact ⟨hD, _, HK.out, rfl⟩)
    go_wp2
    refine ⟨by simp, .inl ⟨_, _, rfl, run_takeDeferred HK.out, ?_⟩⟩
    exact ⟨_, results_none rfl _ _ _, rfl, .inl hfn⟩
  case stop =>
    rintro D c W hD ⟨hc, hj⟩ hK
    obtain rfl : c = .ret := hc
    have HK := Lib.hid hK
    have HJ := Lib.hid hj
    clear hK hj
    refine wpIn_wide.2 ?_
    go_wp2
    refine ⟨by simp, .inl ⟨_, _, rfl, run_takeDeferred HK.out, ?_⟩⟩
    exact ⟨_, results_none rfl _ _ _, rfl, .inr (HJJ.out _ _ (some D) HJ.out (grownBy_putObj' W D _) (fun r e => by cases e; exact ⟨hD, _, HK.out, rfl⟩))⟩
end Go.Proofs.Yteeiiaahhoeohaa
