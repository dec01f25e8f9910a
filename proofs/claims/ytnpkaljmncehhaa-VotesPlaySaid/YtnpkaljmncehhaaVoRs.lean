/- The document's own tally: Add, and Spans. -/
import Derived.Test.YtnpkaljmncehhaaVoRf
import Derived.Maps.AppendAt
namespace Go.Proofs.Ytnpkaljmncehhaa
open Go.RowKit

section
variable {w W W' : World} {q g cap : Nat} {rb : Nat → Nat} {n F : Nat} {S : Nat → Nat → Bool}
theorem RefV.set (h : RefV w q g cap rb n F S W) {r s : Nat} (hr : r < n) (hs : s < 202) : RefV w q g cap rb n F (fun x y => if x = r ∧ y = s then true else S x y) (W.setCell ⟨rb r, s, none⟩ (.bool true)) := by
  have hne : ∀ k, k ≠ rb r → (W.setCell ⟨rb r, s, none⟩ (.bool true)).heap[k]? = W.heap[k]? := fun k hk => Below.heap_setCell _ _ _ _ hk
  have hqr := (h.apart.2.1 r hr)
  refine ⟨(hne q (Ne.symm hqr.1)).trans h.kq, fun i hi => (show (W.setCell ⟨rb r, s, none⟩ (.bool true)).cell? ⟨g, i, none⟩ = W.cell? ⟨g, i, none⟩ from World.cell?_of_block (hne g (Ne.symm hqr.2))).trans (h.row i hi), fun i hi => ?_, by simpa [World.setCell] using h.gl, h.new, h.apart⟩
  by_cases e : i = r
  · subst e
    rw [blk_set (h.rows i hi) s, boR_set _ hs]
    congr 3
    funext x
    by_cases hx : x = s
    · simp [hx]
    · simp [hx]
  · rw [hne (rb i) (fun he => e (h.apart.2.2 i r hi hr he)), h.rows i hi]
    congr 3
    funext x
    rw [if_neg (fun hx => e hx.1)]
set_option maxRecDepth 100000 in
set_option maxHeartbeats 1000000 in
theorem refAdd_any (h : RefV w q g cap rb n F S W) (hn : n ≤ 7) (r a b : Nat) (hr : r < n) (hb : b ≤ 200) (hab : a ≤ b) : Calls Try.prog 11 #[.pointer (some ⟨q, 0, none⟩), .int .i64 (r : Int), .int .i64 (a : Int), .int .i64 (b : Int)] W fun e W' => e = .returned (.tuple #[]) ∧ RefV w q g cap rb n F (fun x y => if x = r ∧ a ≤ y ∧ y ≤ b then true else S x y) W' ∧ Only (fun k => k = rb r) W W' := by
  obtain ⟨S2, hS2⟩ : ∃ f, f = fun x y => if x = r ∧ a ≤ y ∧ y ≤ b then true else S x y := ⟨_, rfl⟩
  rw [← hS2]
  have HS2 := Lib.hid hS2
  have HH := Lib.hid h
  have hri : (r : Int) < n := by omega
  have hni : (n : Int) ≤ 7 := by omega
  have HP := Lib.hid (And.intro hr (And.intro hb hab))
  have hbi : (b : Int) ≤ 200 := by omega
  clear h hn hS2
  go_enter Try.func11, Try.ntmps11
  go_wp2
  go_loopw [8] (fun v8 wr => ∃ i : Nat, a ≤ i ∧ i ≤ b + 1 ∧ v8 = .int .i64 (i : Int) ∧ Hid (RefV w q g cap rb n F (fun x y => if x = r ∧ a ≤ y ∧ y < i then true else S x y) wr) ∧ Hid (Only (fun k => k = rb r) W wr)) (fun v _ => b + 1 - (intOf v).toNat)
  case atStart => exact ⟨a, Nat.le_refl _, by omega, rfl, Lib.hid (by
      have e : (fun x y => if x = r ∧ a ≤ y ∧ y < a then true else S x y) = S := by
        funext x y
        rw [if_neg (fun hx => by omega)]
      rw [e]
      exact HH.out), Lib.hid (Only.refl _ _)⟩
  case round =>
    obtain ⟨i, hai, hi, rfl, HV, HO⟩ := hrel
    by_cases hlt : i ≤ b
    · have hii : (i : Int) ≤ b := by omega
      have hii2 : (i : Int) < 202 := by omega
      have x0 := blk_cell HV.out.kq 0
      simp at x0
      have y0 := HV.out.row r HP.out.1
      have kr := HV.out.rows r HP.out.1
      have z0 := (blk_cell kr i).trans (boR_get _ (show i < 202 by have := HP.out.2.1; omega))
      have u0 := blk_frozen kr i
      obtain ⟨V, hV⟩ : ∃ V, V = wr.setCell ⟨rb r, i, none⟩ (.bool true) := ⟨_, rfl⟩
      have H2 : Hid (RefV w q g cap rb n F (fun x y => if x = r ∧ a ≤ y ∧ y < i + 1 then true else S x y) V) := Lib.hid (by
        have hs := HV.out.set HP.out.1 (show i < 202 by have := HP.out.2.1; omega)
        rw [← hV] at hs
        have e : (fun x y => if x = r ∧ y = i then true else if x = r ∧ a ≤ y ∧ y < i then true else S x y) = (fun x y => if x = r ∧ a ≤ y ∧ y < i + 1 then true else S x y) := by
          funext x y
          by_cases h1 : x = r ∧ y = i
          · rw [if_pos h1, if_pos ⟨h1.1, by omega, by omega⟩]
          · rw [if_neg h1]
            by_cases h2 : x = r ∧ a ≤ y ∧ y < i
            · rw [if_pos h2, if_pos ⟨h2.1, h2.2.1, by omega⟩]
            · rw [if_neg h2, if_neg (fun h3 => ?_)]
              by_cases h4 : y = i
              · exact h1 ⟨h3.1, h4⟩
              · exact h2 ⟨h3.1, h3.2.1, by omega⟩
        rw [← e]
        exact hs)
      have HO2 : Hid (Only (fun k => k = rb r) W V) := Lib.hid (by rw [hV]; exact HO.out.setCell (p := ⟨rb r, i, none⟩) (.inl rfl) _)
      clear kr HV HO
      go_wp2
      rw [← hV]
      exact ⟨⟨i + 1, by omega, by omega, by congr 1, H2, HO2⟩, by simp only [intOf]; omega⟩
    · have hii : ¬ (i : Int) ≤ b := by omega
      have hib : i = b + 1 := by omega
      have H2 : Hid (RefV w q g cap rb n F S2 wr) := Lib.hid (by
        rw [HS2.out]
        have e : (fun x y => if x = r ∧ a ≤ y ∧ y < i then true else S x y) = (fun x y => if x = r ∧ a ≤ y ∧ y ≤ b then true else S x y) := by
          funext x y
          rw [hib]
          by_cases h2 : x = r ∧ a ≤ y ∧ y ≤ b
          · rw [if_pos h2, if_pos ⟨h2.1, h2.2.1, by omega⟩]
          · rw [if_neg h2, if_neg (fun h3 => h2 ⟨h3.1, h3.2.1, by omega⟩)]
        rw [← e]
        exact HV.out)
      clear HV hib
      go_wp2
      go_end0
      exact ⟨rfl, H2.out, HO.out⟩
end
/-- Spans of ints. -/
def cellsI2 (l : List (Nat × Nat)) : List Value := l.flatMap fun p => [.int .i64 (p.1 : Int), .int .i64 (p.2 : Int)]
theorem cellsI2_len : ∀ (l : List (Nat × Nat)), (cellsI2 l).length = l.length * 2
  | [] => rfl
  | a :: l => by
    have := cellsI2_len l
    unfold cellsI2 at this ⊢
    rw [List.flatMap_cons, List.length_append, this, List.length_cons]
    simp
    omega
theorem cellsI2_one (l : List (Nat × Nat)) : ∀ u ∈ cellsI2 l, u.oneCell' = true := by
  intro u hu
  obtain ⟨a, _, ha⟩ := List.mem_flatMap.1 hu
  simp at ha
  rcases ha with rfl | rfl <;> rfl
theorem cellsI2_get {l : List (Nat × Nat)} {j : Nat} (h : j < l.length) : (cellsI2 l)[j * 2]? = some (.int .i64 (l[j].1 : Int)) ∧ (cellsI2 l)[j * 2 + 1]? = some (.int .i64 (l[j].2 : Int)) := by
  induction l generalizing j with
  | nil => simp at h
  | cons a l ih =>
    cases j with
    | zero => exact ⟨rfl, rfl⟩
    | succ j =>
      have := ih (j := j) (by simpa using h)
      rw [show (j + 1) * 2 = j * 2 + 2 by omega]
      exact this
def OwnI2 (base : Nat) (w : World) (v : Value) (l : List (Nat × Nat)) : Prop := w.ownsRow base 68 2 v l.length (cellsI2 l)
def HasI2 (w : World) (A : Option Addr) (l : List (Nat × Nat)) : Prop := l ≠ [] → ∃ b o, A = some ⟨b, o, none⟩ ∧ b < w.heap.size ∧ ∀ j (h : j < l.length), w.cell? ⟨b, o + j * 2, none⟩ = some (.int .i64 (l[j].1 : Int)) ∧ w.cell? ⟨b, o + j * 2 + 1, none⟩ = some (.int .i64 (l[j].2 : Int))
theorem HasI2.below {w W : World} {A : Option Addr} {l : List (Nat × Nat)} (h : HasI2 w A l) (hb : Below w.heap.size w W) : HasI2 W A l := fun hl => by
  obtain ⟨b, o, e, h1, h2⟩ := h hl
  refine ⟨b, o, e, Nat.lt_of_lt_of_le h1 hb.size, fun j hj => ?_⟩
  have k : ∀ i, W.cell? ⟨b, i, none⟩ = w.cell? ⟨b, i, none⟩ := fun i => hb.cell (p := ⟨b, i, none⟩) h1
  rw [k, k]
  exact h2 j hj
theorem OwnI2.form {base : Nat} {w : World} {v : Value} {l : List (Nat × Nat)} (h : OwnI2 base w v l) : ∃ A c, v = .slice A l.length c := by
  rcases h.2 with ⟨rfl, h0⟩ | ⟨g, cap, cur, rfl, _⟩
  · exact ⟨none, 0, by rw [h0]⟩
  · exact ⟨_, _, rfl⟩
theorem OwnI2.has {base : Nat} {w : World} {A : Option Addr} {n c : Nat} {l : List (Nat × Nat)} (h : OwnI2 base w (.slice A n c) l) : HasI2 w A l := fun hl => by
  have hl' : 0 < l.length := List.length_pos_iff.2 hl
  rcases h.2 with ⟨e, h0⟩ | ⟨g, cap, cur, e, _, hg, hn, _⟩
  · omega
  · cases e
    refine ⟨g, 0, rfl, (Array.getElem?_eq_some_iff.1 hg).1, fun j hj => ?_⟩
    have c0 := World.ownsRow.cells h (g := g) rfl (j * 2) _ (cellsI2_get hj).1
    have c1 := World.ownsRow.cells h (g := g) rfl (j * 2 + 1) _ (cellsI2_get hj).2
    rw [addr_add] at c0 c1
    exact ⟨c0, by rw [Nat.add_assoc]; exact c1⟩
theorem OwnI2.below {base : Nat} {w w' : World} {v : Value} {l : List (Nat × Nat)} (h : OwnI2 base w v l) (hb : Below w.heap.size w w') : OwnI2 base w' v l := by
  refine World.ownsRow.kept h (grownBy_of_below (r := none) hb) ?_
  cases v.ownBlock with
  | none => exact .inl rfl
  | some x => exact .inr (by simp)
theorem cellsI2_append (l m : List (Nat × Nat)) : cellsI2 (l ++ m) = cellsI2 l ++ cellsI2 m := by simp [cellsI2]
/-- The last span's end is set. -/
theorem OwnI2.setLast {base : Nat} {w : World} {g c : Nat} {l : List (Nat × Nat)} {p : Nat × Nat} {m n : Nat} (hn : n = l.length) (h : OwnI2 base w (.slice (some ⟨g, 0, none⟩) m c) (l ++ [p])) (x : Nat) : OwnI2 base (w.setCell ⟨g, n * 2 + 1, none⟩ (.int .i64 (x : Int))) (.slice (some ⟨g, 0, none⟩) m c) (l ++ [(p.1, x)]) ∧ base ≤ g ∧ ∃ cur, w.heap[g]? = some (.cells cur 68 (0, 0)) := by
  subst hn
  rcases h.2 with ⟨e, h0⟩ | ⟨g', cap, cur, e, hb, hg, hnc, hcap, hsz, htake⟩
  · cases e
  · cases e
    have hlen : (l ++ [p]).length = l.length + 1 := by simp
    refine ⟨⟨by rw [cellsI2_len], .inr ⟨g, c, cur.setIfInBounds (l.length * 2 + 1) (.int .i64 (x : Int)), by simp, hb, blk_set hg _ _, by simpa using hnc, hcap, by simpa using hsz, ?_⟩⟩, hb, cur, hg⟩
    have e2 : (l ++ [(p.1, x)]).length = (l ++ [p]).length := by simp
    rw [e2, Array.toList_setIfInBounds, List.take_set, htake, cellsI2_append, cellsI2_append]
    rw [List.set_append_right _ _ (by rw [cellsI2_len]; omega), cellsI2_len]
    congr 1
    rw [show l.length * 2 + 1 - l.length * 2 = 1 by omega]
    rfl
end Go.Proofs.Ytnpkaljmncehhaa
