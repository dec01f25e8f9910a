/- KvTakes' walk. -/
import Derived.Test.YtfkdlmokigeemaaGreatDoorKvTkR
import Derived.Test.YtfkdlmokigeemaaGreatDoorMRdE
import Derived.Test.YtfkdlmokigeemaaGreatDoorKvKZ
import Derived.Test.YtfkdlmokigeemaaGreatDoorKvDoZ
import Derived.Test.YtfkdlmokigeemaaGreatDoorMKvZ
namespace Go.Proofs.YtfkdlmokigeemaaGreatDoor
open Go.RowKit

abbrev kNo : ByteArray := ⟨#[110, 111, 32, 115, 117, 99, 104, 32, 107, 101, 121]⟩
abbrev kX : ByteArray := ⟨#[120]⟩
def wmNo : CM := ⟨1, 0, 1, [kNo], kE, kX, 0⟩
theorem eachNo : ∀ k ∈ [kNo], 1 ≤ k.size ∧ k.size ≤ 32 := fun k hk => by
  have : k = kNo := by simpa using hk
  subst this; decide
theorem smNo : ∀ k ∈ [kNo], k.size ≤ 64 := fun k hk => by have := eachNo k hk; omega
theorem mayNo : wmNo.may = true := CM.may_iff.2 ⟨by decide, eachNo, by decide, by decide, by decide, by decide, by decide, by decide, by decide⟩
theorem doNo (l : List PV) : doP l wmNo = (withP l kNo kX, 0, kE) := doP_put mayNo rfl (show keyP wmNo.ks 0 = kNo from rfl)
theorem blkNo (V : World) : ∃ cs, (V.alloc (.cells #[.string kNo] 9)).heap[V.heap.size]? = some (.cells cs 9 (0, 0)) ∧ ∀ j (hj : j < [kNo].length), cs[j]? = some (.string ([kNo][j])) :=
  ⟨_, World.alloc_heap_new V _, fun j hj => by
    have : j = 0 := by simp at hj; omega
    subst this
    rfl⟩
theorem bytesP_len (l : List PV) : l.length * 2 ≤ (bytesP l).length := by
  have : ∀ l : List PV, l.length * 2 ≤ (l.flatMap pairB).length := by
    intro l
    induction l with
    | nil => simp
    | cons p l ih =>
      rw [List.flatMap_cons, List.length_append, List.length_cons]
      have h1 : 2 ≤ (pairB p).length := by
        have a1 := List.length_pos_iff.2 (vb_ne p.1.size)
        have a2 := List.length_pos_iff.2 (vb_ne p.2.size)
        unfold pairB txt
        simp only [List.length_append]
        omega
      omega
  have h := this l
  unfold bytesP
  rw [List.length_append]
  omega
theorem LimP.with_ {l : List PV} (h : LimP l) (hl : l.length ≤ 4999) {k v : ByteArray} (hk : k.size ≤ 1000) (hv : v.size ≤ 1000) : LimP (withP l k v) := by
  refine ⟨by have := withP_len l k v; omega, fun p hp => ?_⟩
  unfold withP at hp
  rcases List.mem_append.1 hp with hp | hp
  · exact h.each p (List.mem_filter.1 (List.mem_of_mem_take hp)).1
  · rcases List.mem_cons.1 hp with rfl | hp
    · exact ⟨hk, hv⟩
    · exact h.each p (List.mem_filter.1 (List.mem_of_mem_drop hp)).1
theorem KW.of {T : World → Prop} (K : KvK T) {w W : World} {S : Nat} {l : List PV} {F : Nat → Prop} (h : K.Pl F W S l) (hF : ∀ k, F k → w.heap.size ≤ k) (hb : Below w.heap.size w W) : KW K w 1 (fun _ => S) (fun _ => l) (fun _ => False) W :=
  ⟨⟨fun _ => F, fun _ _ => h, fun _ _ k hk => ⟨hF k hk, id⟩, fun i j hi hj hij => absurd (by omega) hij⟩, hb, fun k hk => hk.elim⟩
set_option maxRecDepth 100000 in
set_option maxHeartbeats 4000000 in
theorem KvTakes_any {T : World → Prop} (K : KvK T) (KP : KvKP K) (A : Option Addr) (L c : Nat) (bs : List UInt8) (w : World) (hT : T w) (hL : L = bs.length) (hLm : L ≤ maxLen) (hA : HasA w w.heap.size A bs) :
    Calls Tryz.prog 4 #[.slice A L c] w fun e W' => e = .returned (.bool true) ∧ Below w.heap.size w W' := by
  have HT := Lib.hid hT
  have HL := Lib.hid hL
  have HA := Lib.hid hA
  have hLi : (L : Int) ≤ 9223372036854775807 := by simp only [maxLen] at hLm; omega
  clear hT hL hA hLm
  go_enter Tryz.func4, Tryz.ntmps4
  by_cases h3 : 3000 < L
  · have h3i : (3000 : Int) < L := by omega
    go_wp2_with fail
    refine (wakes9_any K w HT.out).mono ?_
    rintro e W1 ⟨rfl, hb1⟩
    have B1 := Lib.hid hb1
    clear hb1
    go_wp2
    go_ret
    exact ⟨rfl, B1.out⟩
  · have h3i : ¬ (3000 : Int) < L := by omega
    go_wp2_with fail
    refine (NewR_q (lim := 64) A L c bs HL.out (by have := HL.out; omega) HA.out).mono ?_
    rintro e W1 ⟨R, rfl, hr1, hRw, hb1⟩
    have B1 := Lib.hid hb1
    have HR := Lib.hid hRw
    have hT1 := K.grew HT.out hb1
    have HRL := Lib.hid (show R < W1.heap.size by obtain ⟨bs', h, _⟩ := hr1; exact h.lt)
    have HTk := Lib.hid (KP.take R bs W1 hT1 (by have := HL.out; omega) hr1)
    clear hb1 hr1 hRw hT1
    go_wp2_with fail
    refine HTk.out.mono ?_
    rintro e W2 ⟨n, l, rest, htr, hg2, hcase⟩
    have TR := Lib.hid htr
    have B2 := Lib.hid (B1.out.grown hg2 B1.out.size (fun k e => by cases e; exact HR.out))
    have G2 := Lib.hid hg2
    clear htr hg2 HTk
    rcases hcase with ⟨hn, F, S, rfl, hpl, hF, hr2⟩ | ⟨hn, rfl⟩
    · have hn0 := hn
      subst hn
      have PL := Lib.hid (And.intro hpl hF)
      have R2 := Lib.hid hr2
      clear hpl hF hr2 hn0
      by_cases hrest : rest = []
      · subst hrest
        have hdn : RdS.done ⟨0, []⟩ = 0 := rfl
        have HD := Lib.hid (DoneR_q R2.out)
        go_wp2_with fail
        refine HD.out.mono ?_
        rintro e W3 ⟨rfl, hg3⟩
        rw [hdn]
        have B3 := Lib.hid (B2.out.grown hg3 B2.out.size (fun k e => by cases e; exact HR.out))
        have hpl3 : K.Pl F W3 S l := K.keep PL.out.1 (Only.of_grown (F := fun k => k = R) hg3 (fun k e => by cases e; rfl)) (fun k hk e => by
          have h1 := PL.out.2 k hk
          have h2 := HRL.out
          have e' : k = R := e
          omega)
        obtain ⟨hsrt, hlim0, hbytes⟩ := TR.out.ok rfl
        have hlim := hlim0 (by have := HL.out; omega)
        clear hlim0
        rw [List.append_nil] at hbytes
        have hlen : l.length ≤ 1500 := by
          have h1 := bytesP_len l
          rw [← hbytes] at h1
          have h2 := HL.out
          omega
        have W3K := Lib.hid (KW.of K (w := w) hpl3 (fun k hk => Nat.le_trans B1.out.size (PL.out.2 k hk)) B3.out)
        have LM := Lib.hid (And.intro hlim (And.intro hlen (And.intro hbytes hsrt)))
        clear hpl3 hg3 HD hsrt hlim hlen hbytes
        go_wp2_with fail
        refine (W3K.out.copy HT.out 0 (by omega) LM.out.1).mono ?_
        rintro e W4 ⟨S2, rfl, h4, hb4⟩
        have W4K := Lib.hid h4
        have B4 := Lib.hid (B3.out.trans (Below.mono hb4 B3.out.size))
        clear h4 hb4
        have hg4 : Below W4.heap.size W4 (W4.alloc (.cells #[.string kNo] 9)) := (Below.refl _ _).alloc (Nat.le_refl _) _
        have HG4 := Lib.hid hg4
        have HD4 := Lib.hid ((W4K.out.grew hg4).do_ HT.out 1 (by omega) LM.out.1 (wv W4.heap.size 1 1 [kNo] kX 0) (wv_ok (by decide) (by decide) (by decide) (by decide) (by decide) smNo (blkNo W4)) (wv_small (by decide) (by decide) smNo))
        clear hg4
        go_wp2_with fail
        refine HD4.out.mono ?_
        rintro e W5 ⟨he, h5, -⟩
        have he2 : e = .returned (ReplyV (0, kE)) := he.trans (congrArg (fun z : List PV × Nat × ByteArray => Ending.returned (ReplyV z.2)) (doNo l))
        subst he2
        clear he HD4
        simp only [ReplyV]
        have W5K : Hid (∃ l' : Nat → List PV, l' 0 = l ∧ l' 1 = withP l kNo kX ∧ KW K w 2 (upd (fun _ => S) 1 S2) l' (fun _ => False) W5) := Lib.hid ⟨_, rfl, congrArg Prod.fst (doNo l), h5⟩
        clear h5
        obtain ⟨l', hl0, hl1, h5⟩ := W5K.out
        have E5 := Lib.hid (And.intro hl0 hl1)
        have H5 := Lib.hid h5
        clear hl0 hl1 h5 W5K
        go_wp2_with fail
        refine (H5.out.get 0 (by omega) kNo (by simp only [maxLen]; decide)).mono ?_
        rintro e W6 ⟨rfl, h6, hb6⟩
        have H6 := Lib.hid h6
        clear h6 hb6
        rw [E5.out.1]
        have hPut : ∀ w' : World, Below W6.heap.size W6 w' → Calls Tryz.prog 12 #[.pointer (some ⟨S, 0, none⟩), .slice none 0 0] w' fun e W' => ∃ v m, e = .returned v ∧ W'.ownsRow w'.heap.size 5 1 v m (bs.map enc) ∧ Below w'.heap.size w' W' := fun w' hb => by
          obtain ⟨F', f1, _⟩ := (H6.out.grew hb).ex
          have f0 := f1 0 (by omega)
          rw [E5.out.1] at f0
          have h := KP.put none 0 0 [] f0 ((H6.out.grew hb).t HT.out) LM.out.1 (by rw [← LM.out.2.2.1]; have := HL.out; omega) rfl (Nat.le_refl _) (by omega) (HasA.nil _ _ _)
          rw [List.nil_append, ← LM.out.2.2.1] at h
          exact h
        have hWk : ∀ w' : World, Below W6.heap.size W6 w' → Calls Tryz.prog 6 #[] w' fun e W' => e = .returned (.bool true) ∧ Below w'.heap.size w' W' := fun w' hb => wakes9_any K w' ((H6.out.grew hb).t HT.out)
        have HP := Lib.hid hPut
        have HW := Lib.hid hWk
        have HA6 := Lib.hid (HA.out.below' H6.out.below)
        clear hPut hWk
        cases hlk : lookP l kNo with
        | some u =>
          simp only [Option.getD_some, Option.isSome_some]
          go_upto_region 12 with (fail)
          refine takes_region_had S S2 A L c bs HL.out _ W6 _ rfl rfl rfl rfl rfl HA6.out HP.out HW.out ?_
          intro v51 w7 _ hg7
          simp only [puts, List.foldl_cons, List.foldl_nil, Act.put, List.setIfInBounds_toArray, List.set_cons_succ, List.set_cons_zero]
          go_wp2
          go_ret
          exact ⟨rfl, H6.out.below.trans (Below.mono hg7 H6.out.below.size)⟩
        | none =>
          have hne : l ≠ withP l kNo kX := fun e => by
            have h1 := lookP_with l kNo kX kNo
            rw [← e, hlk, if_pos rfl] at h1
            cases h1
          have hSm : ∀ w' : World, Below W6.heap.size W6 w' → Calls Tryz.prog 18 #[.pointer (some ⟨S, 0, none⟩), .pointer (some ⟨S2, 0, none⟩)] w' fun e W' => e = .returned (.bool false) ∧ Below w'.heap.size w' W' := fun w' hb => by
            obtain ⟨b, hbb, hc⟩ := (H6.out.grew hb).same HT.out 0 1 (by omega) (by omega) (by rw [E5.out.1]; exact LM.out.1) (by rw [E5.out.2]; exact LM.out.1.with_ (by have := LM.out.2.1; omega) (by decide) (by decide))
            have hf : b = false := by
              cases b with
              | false => rfl
              | true => exact absurd (by have := hbb.1 rfl; rw [E5.out.1, E5.out.2] at this; exact this) hne
            subst hf
            exact hc.mono fun _ _ ⟨a, _, d⟩ => ⟨a, d⟩
          have HS := Lib.hid hSm
          clear hSm hne hlk
          simp only [Option.getD_none, Option.isSome_none]
          go_upto_region 12 with (fail)
          refine takes_region_no S S2 A L c bs HL.out _ W6 _ rfl rfl rfl rfl rfl HA6.out HP.out HS.out HW.out ?_
          intro v51 w7 _ hg7
          simp only [puts, List.foldl_cons, List.foldl_nil, Act.put, List.setIfInBounds_toArray, List.set_cons_succ, List.set_cons_zero]
          go_wp2
          go_ret
          exact ⟨rfl, H6.out.below.trans (Below.mono hg7 H6.out.below.size)⟩
      · have hdn : RdS.done ⟨0, rest⟩ = 11 := by unfold RdS.done; rw [if_pos rfl, if_neg hrest]
        have HD := Lib.hid (DoneR_q R2.out)
        go_wp2_with fail
        refine HD.out.mono ?_
        rintro e W3 ⟨rfl, hg3⟩
        rw [hdn]
        have B3 := Lib.hid (B2.out.grown hg3 B2.out.size (fun k e => by cases e; exact HR.out))
        clear hg3 HD
        go_wp2_with fail
        refine (wakes9_any K W3 (K.grew HT.out B3.out)).mono ?_
        rintro e W4 ⟨rfl, hb4⟩
        have B4 := Lib.hid (B3.out.trans (Below.mono hb4 B3.out.size))
        clear hb4
        go_wp2
        go_ret
        exact ⟨rfl, B4.out⟩
    · have hc := TR.out.no hn
      rcases hc with rfl | rfl
      all_goals
        clear hn
        go_wp2_with fail
        refine (wakes9_any K W2 (K.grew HT.out B2.out)).mono ?_
        rintro e W3 ⟨rfl, hb3⟩
        have B3 := Lib.hid (B2.out.trans (Below.mono hb3 B2.out.size))
        clear hb3
        go_wp2
        go_ret
        exact ⟨rfl, B3.out⟩
end Go.Proofs.YtfkdlmokigeemaaGreatDoor
