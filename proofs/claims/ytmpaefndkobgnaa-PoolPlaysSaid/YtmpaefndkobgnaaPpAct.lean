/- What the round of the law on acts goes by. -/
import Derived.Test.YtmpaefndkobgnaaPpWalk
namespace Go.Proofs.Ytmpaefndkobgnaa
open Go.RowKit

theorem nodup_len : ∀ (n : Nat) (l : List Nat), l.Nodup → (∀ x ∈ l, x < n) → l.length ≤ n
  | 0, l, _, h => by
    cases l with
    | nil => simp
    | cons x l => exact absurd (h x (by simp)) (by omega)
  | n + 1, l, hd, h => by
    have h1 := nodup_len n (l.erase n) (hd.erase n) (fun x hx => by
      have := (hd.mem_erase_iff).1 hx
      have := h x this.2
      omega)
    have := List.length_erase (a := n) (l := l)
    split at this <;> omega
/-- What is lent is not among the free ones. -/
structure QOk (s : QS) : Prop where
  nd : s.N.Nodup
  fr : ∀ i ∈ s.N, s.L.getD i false = false
  lt : ∀ i ∈ s.N, i < s.n
  ll : s.L.length = s.n
theorem QOk.room {s : QS} {i : Int} {g : Nat} (h : QOk s) (hg : s.good i g = true) : s.N.length < s.n := by
  obtain ⟨k, rfl, hk, hl, _⟩ := QS.good_lt hg
  have hn : k ∉ s.N := fun hm => by rw [h.fr k hm] at hl; cases hl
  have := nodup_len s.n (k :: s.N) (List.nodup_cons.2 ⟨hn, h.nd⟩) (fun x hx => by
    rcases List.mem_cons.1 hx with rfl | hx
    · exact hk
    · exact h.lt x hx)
  simp only [List.length_cons] at this
  omega
theorem QOk.new (n sz : Nat) : QOk (QS.new n sz) :=
  ⟨List.nodup_range, fun i hi => by simp [QS.new, List.getD, List.getElem?_replicate]; split <;> rfl, fun i hi => by simpa [QS.new] using hi, by simp [QS.new]⟩
theorem getD_set_ne {l : List Bool} {i j : Nat} (b : Bool) (h : j ≠ i) : (l.set i b).getD j false = l.getD j false := by
  simp [List.getD, List.getElem?_set, Ne.symm h]
theorem QOk.get {s : QS} {i : Nat} {N' : List Nat} (h : QOk s) (hN : s.N = i :: N') : QOk (s.getS i N') := by
  have hnd := h.nd
  rw [hN, List.nodup_cons] at hnd
  refine ⟨hnd.2, fun j hj => ?_, fun j hj => h.lt j (by rw [hN]; exact List.mem_cons_of_mem _ hj), by simpa [QS.getS] using h.ll⟩
  show (s.L.set i true).getD j false = false
  rw [getD_set_ne _ (fun e => by subst e; exact hnd.1 hj)]
  exact h.fr j (by rw [hN]; exact List.mem_cons_of_mem _ hj)
theorem QOk.back {s : QS} (h : QOk s) (i : Int) (g : Nat) : QOk (s.backS i g) := by
  unfold QS.backS
  split
  · rename_i hg
    obtain ⟨k, rfl, hk, hl, _⟩ := QS.good_lt hg
    have hn : k ∉ s.N := fun hm => by rw [h.fr k hm] at hl; cases hl
    refine ⟨List.nodup_cons.2 ⟨hn, h.nd⟩, fun j hj => ?_, fun j hj => ?_, by simpa using h.ll⟩
    · show (s.L.set k false).getD j false = false
      by_cases hjk : j = k
      · subst hjk; simp [List.getD, List.getElem?_set, h.ll, hk]
      · rw [getD_set_ne _ hjk]
        rcases List.mem_cons.1 hj with e | hj
        · exact absurd e hjk
        · exact h.fr j hj
    · rcases List.mem_cons.1 hj with rfl | hj
      · exact hk
      · exact h.lt j hj
  · exact h
theorem QOk.set {s : QS} (h : QOk s) (i : Int) (g : Nat) (x : List UInt8) : QOk (s.setS i g x) := by
  unfold QS.setS
  split
  · split
    · exact h
    · exact ⟨h.nd, h.fr, h.lt, h.ll⟩
  · exact h

/-- Bytes' answer is the law's own. -/
theorem PS.bytes {P : PoolK} {w W W' : World} {R Rq gB cB gG cG gL cL : Nat} {sp sq : QS} {v vN u : Value} {hs : List (Int × Nat)} {X : Nat → Prop} {n : Nat} {e : TypeId} {xs : List Value} (h : PS P w R Rq sp sq v hs X gB cB gG cG gL cL vN W)
    (hl : Live P w R sp (fun k => (FQ Rq gB gG gL vN k ∨ v.ownBlock = some k ∨ X k) ∨ u.ownBlock = some k) W') (hm : Mv (fun k => FQ Rq gB gG gL vN k ∨ v.ownBlock = some k ∨ X k) W W') (ho : W'.ownsRow W.heap.size e 1 u n xs) :
    PS P w R Rq sp sq v hs (fun k => X k ∨ u.ownBlock = some k) gB cB gG cG gL cL vN W' ∧ Kp X W W' := by
  have hM := h.live.mine
  refine ⟨⟨hl.own (Only.refl _ _) (fun k hk => ?_), h.rq.same (fun k hk => hm.same k (.inl hk)), own_keep h.row (fun x hx => hm.same x (.inr (.inl hx))), fun k hk => ⟨(h.apart k hk).1, fun hx => hx.elim (h.apart k hk).2 (fun e => absurd (ho.lt k e).1 (Nat.not_le.2 (hM k (.inl hk)).2))⟩, fun k hk e' => hk.elim (fun hx => h.apart2 k hx e') (fun e => absurd (ho.lt k e).1 (Nat.not_le.2 (hM k (.inr (.inl e'))).2)), h.ok⟩, hm.size, fun k hk => hm.same k (.inr (.inr hk))⟩
  have hlt := fun j hj => (hl.mine j hj).2
  rcases hk with hk | hk | hk | hk
  · exact ⟨.inl (.inl (.inl hk)), hlt k (.inl (.inl hk))⟩
  · exact ⟨.inl (.inl (.inr (.inl hk))), hlt k (.inl (.inr (.inl hk)))⟩
  · exact ⟨.inl (.inl (.inr (.inr hk))), hlt k (.inl (.inr (.inr hk)))⟩
  · exact ⟨.inl (.inr hk), hlt k (.inr hk)⟩
/-- A slice of the law's own whose bytes are counted up. -/
structure Up (P : PoolK) (w : World) (R Rq : Nat) (s : QS) (v : Value) (hs : List (Int × Nat)) (X : Nat → Prop) (gB cB gG cG gL cL : Nat) (vN u : Value) (n : Nat) (W : World) : Prop where
  ps : PS P w R Rq s s v hs X gB cB gG cG gL cL vN W
  row : 0 < n → ∃ ys : List UInt8, W.ownsRow w.heap.size 5 1 u n (ys.map enc)
  mine : 0 < n → ∀ k, u.ownBlock = some k → X k
theorem Up.step {P : PoolK} {w : World} {R Rq : Nat} {s : QS} {v : Value} {hs : List (Int × Nat)} {X : Nat → Prop} {gB cB gG cG gL cL : Nat} {vN : Value} {g n c : Nat} {W : World} (h : Up P w R Rq s v hs X gB cB gG cG gL cL vN (.slice (some ⟨g, 0, none⟩) n c) n W) (j : Nat) (hj : j < n) (b : UInt8) :
    Up P w R Rq s v hs X gB cB gG cG gL cL vN (.slice (some ⟨g, 0, none⟩) n c) n (W.setCell ⟨g, j, none⟩ (enc b)) := by
  obtain ⟨ys, hy⟩ := h.row (by omega)
  have hg : X g := h.mine (by omega) g rfl
  refine ⟨h.ps.own ((Only.refl _ _).setCell (.inl hg) _) (fun k hk => ⟨.inl hk, by have := h.ps.xlt hk; simpa [World.setCell] using this⟩), fun _ => ⟨ys.set j b, ?_⟩, h.mine⟩
  rw [List.map_set]
  exact (hy.stored j (enc b)).1
theorem Up.cell {P : PoolK} {w : World} {R Rq : Nat} {s : QS} {v : Value} {hs : List (Int × Nat)} {X : Nat → Prop} {gB cB gG cG gL cL : Nat} {vN : Value} {A : Option Addr} {n c : Nat} {W : World} (h : Up P w R Rq s v hs X gB cB gG cG gL cL vN (.slice A n c) n W) (j : Nat) (hj : j < n) :
    ∃ (g : Nat) (b : UInt8), A = some ⟨g, 0, none⟩ ∧ W.cell? ⟨g, j, none⟩ = some (.int .u8 (b.toNat : Int)) ∧ W.frozen? ⟨g, j, none⟩ = false := by
  obtain ⟨ys, hy⟩ := h.row (by omega)
  obtain ⟨g, cap, hv, _, _⟩ := hy.form (by omega)
  cases hv
  have hl : ys.length = n := by have := hy.1; simpa using this
  refine ⟨g, ys[j]'(by omega), rfl, ?_, hy.frozenAt j⟩
  rw [hy.cellAt j (by omega)]
  simp [show j < ys.length by omega, enc]
theorem own_le {w : World} {base n : Nat} {e : TypeId} {v : Value} {xs : List Value} (h : w.ownsRow base e 1 v n xs) : n ≤ 9223372036854775807 := by
  rcases h.2 with ⟨_, h0⟩ | ⟨g, cap, cur, _, _, _, h1, h2, _⟩
  · omega
  · simp only [maxLen] at h2; omega
theorem enc_up (b : UInt8) : Value.int .u8 (((b.toNat : Int) + 1) % 256) = enc (UInt8.ofNat ((b.toNat + 1) % 256)) := by
  rw [enc_ofNat (Nat.mod_lt _ (by omega))]
  congr 1

/-- At the loop's head. -/
def PL (P : PoolK) (w : World) (R Rq gB cB gG cG gL cL k : Nat) (v : Value) (W : World) : Prop := ∃ s hs vN, PS P w R Rq s s v hs (fun _ => False) gB cB gG cG gL cL vN W ∧ QOk s ∧ hs.length ≤ k


/-- Does the code begin with this statement? -/
def headIs (n : Nat) : Code → Bool
  | .region i _ _ => i == n
  | .seq a _ => headIs n a
  | _ => false
/-- The code from a statement on. -/
def tailAt (n : Nat) : Code → Option Code
  | .seq a b => if headIs n a then some (.seq a b) else match tailAt n a with
    | some c => some c
    | none => tailAt n b
  | .cond _ a b => match tailAt n a with
    | some c => some c
    | none => tailAt n b
  | .block _ c => tailAt n c
  | .loop c => tailAt n c
  | .scope c => tailAt n c
  | _ => none
end Go.Proofs.Ytmpaefndkobgnaa
