/- The numbers of a set up to one are removed. -/
import Derived.Test.YtnpkaljmncehhaaVqU
import Derived.Test.YtnpkaljmncehhaaVqD
import Derived.Test.YtnpkaljmncehhaaVqX
namespace Go.Proofs.Ytnpkaljmncehhaa
open Go.RowKit

theorem filter_drop {p : Nat × Nat → Bool} : ∀ (l : List (Nat × Nat)) (i : Nat), (∀ j (h : j < l.length), j < i → p l[j] = false) → (∀ j (h : j < l.length), i ≤ j → p l[j] = true) → l.filter p = l.drop i
  | [], i, _, _ => by simp
  | a :: l, 0, _, h2 => by
    rw [List.drop_zero, List.filter_eq_self]
    intro q hq
    obtain ⟨j, hj, rfl⟩ := List.getElem_of_mem hq
    exact h2 j hj (Nat.zero_le _)
  | a :: l, i + 1, h1, h2 => by
    have ha : p a = false := h1 0 (by simp) (by omega)
    rw [List.filter_cons_of_neg (by rw [ha]; decide), List.drop_succ_cons]
    exact filter_drop l i (fun j hj hji => h1 (j + 1) (by simpa using hj) (by omega)) (fun j hj hji => h2 (j + 1) (by simpa using hj) (by omega))
/-- The first one's begin is set. -/
def headR (x : Nat) : List (Nat × Nat) → List (Nat × Nat)
  | [] => []
  | p :: r => (max p.1 (x + 1), p.2) :: r
theorem headR_len (x : Nat) (l : List (Nat × Nat)) : (headR x l).length = l.length := by cases l <;> rfl
theorem cut_drop {l : List (Nat × Nat)} {x i : Nat} (hc : Canon l) (hi : FirstP (abP l x) l.length i) : cutSp x l = headR x (l.drop i) := by
  have h1 : l.filter (fun p => decide (x < p.2)) = l.drop i := filter_drop l i (fun j hj hji => by
    have := hi.below (abP_mono hc) j hji
    rw [abP_at hj] at this
    exact this) (fun j hj hji => by
    have := hi.above (abP_mono hc) j hji hj
    rw [abP_at hj] at this
    exact this)
  unfold cutSp
  rw [h1]
  have h2 : Canon (l.drop i) := (canon_append.1 (by rw [List.take_append_drop]; exact hc : Canon (l.take i ++ l.drop i))).2.1
  have h3 : ∀ q ∈ l.drop i, x < q.2 := by
    intro q hq
    rw [← h1, List.mem_filter] at hq
    exact of_decide_eq_true hq.2
  cases hd : l.drop i with
  | nil => rfl
  | cons p r =>
    rw [hd] at h2 h3
    show (max p.1 (x + 1), p.2) :: r.map _ = (max p.1 (x + 1), p.2) :: r
    congr 1
    conv => rhs; rw [← List.map_id r]
    apply List.map_congr_left
    intro q hq
    have := h2.2.1 q hq
    have := h3 p List.mem_cons_self
    show (max q.1 (x + 1), q.2) = q
    rw [Nat.max_eq_left (by omega)]
/-- The first one's begin is stored. -/
theorem OwnR.head {w : World} {g c n : Nat} {p : Nat × Nat} {r : List (Nat × Nat)} (h : OwnR w (.slice (some ⟨g, 0, none⟩) n c) (p :: r)) (x : Nat) : OwnR (w.setCell ⟨g, 0, none⟩ (.int .u64 (x : Int))) (.slice (some ⟨g, 0, none⟩) n c) ((x, p.2) :: r) := by
  have hn : n = (p :: r).length := by
    obtain ⟨A, d, e⟩ := h.form
    cases e
    rfl
  subst hn
  exact (World.ownsRow.stored h 0 (.int .u64 (x : Int))).1
set_option maxRecDepth 100000 in
set_option maxHeartbeats 4000000 in
theorem srel_any (R k : Nat) (v : Value) (l : List (Nat × Nat)) (P : Nat → Bool) (x : Nat) (cs : Array Value) (TR : TypeId) (w : World) (hl : l.length ≤ 100000) (hR : w.heap[R]? = some (.cells cs TR (0, 0))) (hk : cs[k]? = some v) (hO : OwnR w v l) (hRv : v.ownBlock ≠ some R)
    (hP : SpansOf l P) (h1 : ∀ s, P s = true → 1 ≤ s ∧ s < 18446744073709551616) :
    Calls Try.prog 20 #[.pointer (some ⟨R, k, none⟩), .int .u64 (x : Int)] w fun e W' => e = .returned (.tuple #[]) ∧ ∃ v' l', W'.heap[R]? = some (.cells (cs.setIfInBounds k v') TR (0, 0)) ∧ OwnR W' v' l' ∧ SpansOf l' (fun s => P s && decide (x < s)) ∧ l'.length ≤ l.length ∧ v'.ownBlock = v.ownBlock ∧ Only (fun x => x = R ∨ v.ownBlock = some x) w W' := by
  have hkl := (Array.getElem?_eq_some_iff.1 hR).1
  have hS : SetQ w R k v l := ⟨(blk_cell hR k).trans hk, hkl, hO⟩
  have hcell := hS.cell
  have HAB := Lib.hid (above_any R k v l x w.drew (by omega) (hS.grew (Below.refl _ w).drew))
  have HDEL : Hid (∀ (j : Nat) (W : World), j ≤ l.length → Below w.heap.size w W → Calls Try.prog 31 #[v, .int .i64 0, .int .i64 (j : Int)] W fun e W' => ∃ v', e = .returned v' ∧ OwnR W' v' (l.drop j) ∧ W.grownBy W' v.ownBlock ∧ v'.ownBlock = v.ownBlock) := Lib.hid fun j W hj hW => delete_any v l j W (by omega) hj (hO.grew hW)
  have HOR : Hid (∀ W1 W, Below w.heap.size w W1 → W1.grownBy W v.ownBlock → W.heap[R]? = some (.cells cs TR (0, 0))) := Lib.hid fun W1 W hb hg => by
    have h1 := (hb.block R hkl).trans hR
    exact (hg.block R (Array.getElem?_eq_some_iff.1 h1).1 (fun e => hRv e.symm)).trans h1
  have HK := Lib.hid (And.intro hk (And.intro hRv (And.intro hkl hR)))
  have HP := Lib.hid (And.intro hP (And.intro h1 hl))
  clear hS hk hRv hP h1 hl hR hO
  go_enter Try.func20, Try.ntmps20
  go_upto_region 0 with (fail)
  go_region_with (first
    | (go_at_call 32; refine HAB.out.mono ?_; rintro e W1 ⟨i, rfl, hi, hw1⟩; have HI := Lib.hid hi; have HW1 := Lib.hid hw1; have hc1 := (hw1.cell (p := ⟨R, k, none⟩) hkl).trans hcell; clear hi hw1)
    | (go_at_call 31; refine (HDEL.out _ W1 HI.out.le ((Below.refl _ w).drew.trans HW1.out)).mono ?_; rintro e W5 ⟨v', rfl, h5, g5, o5⟩; obtain ⟨A5, d5, rfl⟩ := h5.form; have k5 := HOR.out W1 W5 ((Below.refl _ w).drew.trans HW1.out) g5; have c5 := (blk_cell k5 k).trans HK.out.1; have f5 := blk_frozen k5 k; have H5 := Lib.hid (And.intro h5 (And.intro g5 (And.intro o5 k5))); clear h5 g5 o5 k5))
  all_goals (
    have hO5 : OwnR W5 (.slice A5 (l.length - i) d5) (l.drop i) := by
      have h := H5.out.1
      rw [List.length_drop] at h
      exact h
    have ho5 : (Value.slice A5 (l.length - i) d5).ownBlock = v.ownBlock := by
      have h := H5.out.2.2.1
      rw [List.length_drop] at h
      exact h
    have hspan := HP.out.1.cut x
    rw [cut_drop HP.out.1.canon HI.out] at hspan
    have hlen : (headR x (l.drop i)).length ≤ l.length := by
      rw [headR_len, List.length_drop]
      omega
    obtain ⟨n, hn⟩ : ∃ n, n = l.length - i := ⟨_, rfl⟩
    rw [← hn] at hO5 ho5 ⊢
    obtain ⟨W6, hW6⟩ : ∃ W6, W6 = W5.setCell ⟨R, k, none⟩ (.slice A5 n d5) := ⟨_, rfl⟩
    rw [← hW6]
    have hR6 : W6.heap[R]? = some (.cells (cs.setIfInBounds k (.slice A5 n d5)) TR (0, 0)) := by
      rw [hW6]
      exact blk_set H5.out.2.2.2 _ _
    have hO6 : OwnR W6 (.slice A5 n d5) (l.drop i) := by
      refine hO5.same fun y hy => ?_
      rw [hW6]
      exact Below.heap_setCell _ _ _ _ (by rintro rfl; exact HK.out.2.1 (by rw [← ho5, hy]))
    have hon : Only (fun x => x = R ∨ v.ownBlock = some x) w W6 := by
      rw [hW6]
      exact (((Only.of_grew (F := fun x => x = R ∨ v.ownBlock = some x) ((Below.refl _ w).drew.trans HW1.out)).grown H5.out.2.1 (fun y hy => .inl (.inr hy))).setCell (.inl (.inl rfl)) _)
    have hkc : k < cs.size := (Array.getElem?_eq_some_iff.1 HK.out.1).1
    have hcR : W6.cell? ⟨R, k, none⟩ = some (.slice A5 n d5) := (blk_cell hR6 k).trans (by rw [Array.getElem?_setIfInBounds]; simp [hkc])
    have HFIN := Lib.hid (And.intro hR6 (And.intro hO6 (And.intro hspan (And.intro hlen (And.intro ho5 hon)))))
    have HX : Hid (∀ p r, l.drop i = p :: r → x < p.2 ∧ p.1 ≤ p.2 ∧ p.2 < 18446744073709551616) := Lib.hid (fun p r e => by
      have hil : i < l.length := by
        rcases Nat.lt_or_ge i l.length with h | h
        · exact h
        · rw [List.drop_of_length_le h] at e
          cases e
      have e1 : p = l[i] := by
        have := List.drop_eq_getElem_cons hil
        rw [e] at this
        exact (List.cons.inj this).1
      have h1 := HI.out.yes hil
      rw [abP_at hil, ← e1] at h1
      have h2 := (canon_get HP.out.1.canon i hil).1
      rw [← e1] at h2
      refine ⟨of_decide_eq_true h1, h2, (HP.out.2.1 _ ((HP.out.1.mem p.2).1 ⟨p, by rw [e1]; exact List.getElem_mem hil, h2, Nat.le_refl _⟩)).2⟩)
    have hRl6 := (Array.getElem?_eq_some_iff.1 hR6).1
    clear c5 f5 H5 hO5 hspan hlen hon hW6 hR6 HDEL HAB HOR hkc hcell hc1 hkl
    cases hm : l.drop i with
    | nil =>
      have hn0 : n = 0 := by
        have : (l.drop i).length = 0 := by rw [hm]; rfl
        rw [List.length_drop] at this
        omega
      subst hn0
      clear hn ho5 hO6
      go_wp2
      go_end0
      exact ⟨rfl, _, _, HFIN.out.1, HFIN.out.2.1, by have := HFIN.out.2.2.1; rw [hm] at this ⊢; exact this, by rw [List.length_drop]; omega, HFIN.out.2.2.2.2.1, HFIN.out.2.2.2.2.2⟩
    | cons p r =>
      have hnp : 0 < n := by
        have : (l.drop i).length = r.length + 1 := by rw [hm]; rfl
        rw [List.length_drop] at this
        omega
      rw [hm] at hO6
      obtain ⟨g, c, cur, he, hRow⟩ := hO6.row (by simp)
      cases he
      obtain ⟨hxp, hpp, hp2⟩ := HX.out p r hm
      rw [hm] at HFIN
      obtain ⟨n, hn'⟩ : ∃ n, n = (p :: r).length := ⟨_, rfl⟩
      rw [← hn'] at HFIN hO6 hcR ho5 hnp ⊢
      have c0 : W6.cell? ⟨g, 0, none⟩ = some (.int .u64 (p.1 : Int)) := by
        have := (hO6.cells 0 (by simp)).1
        simpa using this
      have f0 : W6.frozen? ⟨g, 0, none⟩ = false := blk_frozen hRow.blk 0
      have hgR : g ≠ R := fun e => HK.out.2.1 (by rw [← ho5, e]; rfl)
      have HGR := Lib.hid hgR
      have hgl := (Array.getElem?_eq_some_iff.1 hRow.blk).1
      obtain ⟨a, ha⟩ : ∃ a, a = p.1 := ⟨_, rfl⟩
      rw [← ha] at c0
      obtain ⟨z, hz⟩ : ∃ z, z = max a (x + 1) := ⟨_, rfl⟩
      have hmx : max (a : Int) ((x : Int) + 1) = (z : Int) := by omega
      have hw : IntKind.u64.wrap ((x : Int) + 1) = (x : Int) + 1 := by rw [IntKind.wrap_u64]; omega
      have hni : (0 : Int) < (n : Int) := by omega
      have HOO := Lib.hid hO6
      have HOB := Lib.hid ho5
      have HZ : Hid (headR x (p :: r) = (z, p.2) :: r) := Lib.hid (by rw [hz, ha]; rfl)
      clear hn hnp hRow hn' hxp hpp hp2 hO6 ho5 hgR ha hz HX
      go_wp2
      go_region
      all_goals go_end0
      all_goals (
        refine ⟨rfl, .slice (some ⟨g, 0, none⟩) n d5, (z, p.2) :: r, ?_, ?_, ?_, ?_, HOB.out, ?_⟩
        · exact (Below.heap_setCell _ _ _ _ (Ne.symm HGR.out)).trans HFIN.out.1
        · exact OwnR.head (HOO.out.same fun _ _ => rfl) z
        · rw [← HZ.out]
          exact HFIN.out.2.2.1
        · rw [← HZ.out]
          exact HFIN.out.2.2.2.1
        · exact HFIN.out.2.2.2.2.2.drew.setCell (.inl (.inr HOB.out.symm)) _))
end Go.Proofs.Ytnpkaljmncehhaa
