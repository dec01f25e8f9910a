/- How many votes a store has behind an update. What is left of a store behind an end of the power; how long stores become. -/
import Derived.Test.YtdiihaeelcbjbaaGreatDoorStM
import Derived.Test.YtdiihaeelcbjbaaGreatDoorMStC
-- StLn
namespace Go.Proofs.YtdiihaeelcbjbaaGreatDoor

theorem putV_len (v : VM) (l : List VM) : (putV v l).length ≤ l.length + 1 := by
  unfold putV
  have h : ∀ l : List VM, (l.filter fun y => decide (y.s < v.s)).length + (l.filter fun y => decide (v.s < y.s)).length ≤ l.length := by
    intro l
    induction l with
    | nil => simp
    | cons a l ih =>
      rw [List.filter_cons, List.filter_cons, List.length_cons]
      by_cases h1 : a.s < v.s
      · have h2 : ¬ v.s < a.s := by omega
        simp only [h1, h2, decide_true, decide_false, if_true, List.length_cons, Bool.false_eq_true, if_false]
        omega
      · by_cases h2 : v.s < a.s
        · simp only [h1, h2, decide_true, decide_false, if_true, List.length_cons, Bool.false_eq_true, if_false]
          omega
        · simp only [h1, h2, decide_false, Bool.false_eq_true, if_false]
          omega
  have := h l
  simp only [List.length_append, List.length_cons, List.length_nil]
  omega
theorem upd_len (s : SM) (u : UM) : (s.upd u).vs.length ≤ s.vs.length + 1 := by
  unfold SM.upd
  split
  · exact Nat.le_succ _
  · split
    · exact putV_len _ _
    · exact Nat.le_succ_of_le (List.length_filter_le _ _)
end Go.Proofs.YtdiihaeelcbjbaaGreatDoor

-- StKm
namespace Go.Proofs.YtdiihaeelcbjbaaGreatDoor

theorem on_len (s : SM) (d : DS) (u : UM) : (s.on d u).1.2.vs.length ≤ s.vs.length + 1 := by
  unfold SM.on
  split
  · exact Nat.le_succ _
  · show (if _ then s.upd u else s).vs.length ≤ _
    split
    · exact upd_len s u
    · exact Nat.le_succ _
theorem Chain.mem : ∀ {l : List UM} {s : SM}, Chain l s → ∀ u ∈ l, u.ok ∧ (u.k = 3 ∨ u.b.fit)
  | [], _, _, _, hu => by cases hu
  | a :: l, s, h, u, hu => by
    rcases List.mem_cons.1 hu with rfl | hu
    · exact ⟨h.1, may_fit h.2.1⟩
    · exact Chain.mem h.2.2 u hu
theorem Chain.ok : ∀ {l : List UM} {s : SM}, Chain l s → s.ok → (l.foldl SM.upd s).ok
  | [], _, _, hs => hs
  | u :: l, s, h, hs => Chain.ok (l := l) (s := s.upd u) h.2.2 (hs.upd h.1 h.2.1)
theorem frms_len : ∀ (l : List UM) (m : Nat), (∀ u ∈ l, u.ok ∧ (u.k = 3 ∨ u.b.fit)) → (∀ u ∈ l, u.x.length ≤ m) → (frms (l.map bytesUM)).length ≤ (m + 70) * l.length
  | [], _, _, _ => by simp [frms_nil]
  | u :: l, m, h, hm => by
    have h1 := frm_small (h u List.mem_cons_self).1 (h u List.mem_cons_self).2
    have h2 := hm u List.mem_cons_self
    have h3 := frms_len l m (fun v hv => h v (List.mem_cons_of_mem _ hv)) (fun v hv => hm v (List.mem_cons_of_mem _ hv))
    rw [List.map_cons, frms_cons, List.length_append, List.length_cons, Nat.mul_succ]
    omega
/-- What the document says of a store that is opened behind an end of the power: some first updates, among them all that were synced. -/
theorem keep_open {us : List UM} (hc : Chain us SM.new) {sure : Nat} (hs : sure ≤ us.length) (n : Int) : ∃ q A', sure ≤ q ∧ q ≤ us.length ∧
    ((dW us (dW (us.take sure) 0).A.length).crash n) = (⟨A', (dW (us.take sure) 0).A.length, true, none⟩, 0) ∧ opn A' (dW (us.take sure) 0).A.length = ((us.take q).map bytesUM, (dW (us.take q) 0).A.length, 0) ∧
    (⟨A', (dW (us.take sure) 0).A.length, false, none⟩ : DS).opened = dW (us.take q) (dW (us.take q) 0).A.length ∧ A'.length ≤ (frms (us.map bytesUM)).length := by
  have hF : ∀ x ∈ us.map bytesUM, Fit x := fun x hx => by
    obtain ⟨u, hu, rfl⟩ := List.mem_map.1 hx
    exact fit_um (hc.mem u hu).1 (hc.mem u hu).2
  have hy : (dW (us.take sure) 0).A.length = (frms ((us.map bytesUM).take sure)).length := by
    show (frms ((us.take sure).map bytesUM)).length = _
    rw [List.map_take]
  have hle := frms_take_le (us.map bytesUM) sure
  obtain ⟨m, h1, h2, h3⟩ : ∃ m, (frms ((us.map bytesUM).take sure)).length ≤ m ∧ m ≤ (frms (us.map bytesUM)).length ∧ (dW us (dW (us.take sure) 0).A.length).crash n = (⟨(frms (us.map bytesUM)).take m, (dW (us.take sure) 0).A.length, true, none⟩, 0) := by
    unfold DS.crash
    rw [if_neg (show ¬ (dW us (dW (us.take sure) 0).A.length).dead = true from fun h => by cases h)]
    split
    · rename_i h
      refine ⟨(frms ((us.map bytesUM).take sure)).length + n.toNat, by omega, ?_, ?_⟩
      · have h4 := h.2
        rw [show (dW us (dW (us.take sure) 0).A.length).A.length = (frms (us.map bytesUM)).length from rfl, show (dW us (dW (us.take sure) 0).A.length).y = (dW (us.take sure) 0).A.length from rfl, hy] at h4
        omega
      · rw [← hy]
        rfl
    · refine ⟨(frms (us.map bytesUM)).length, hle, Nat.le_refl _, ?_⟩
      rw [List.take_length]
      rfl
  obtain ⟨q, q1, q2, q3, q4⟩ := opn_torn (us.map bytesUM) hF sure m (by rw [List.length_map]; exact hs) h1 h2
  have hq : (frms ((us.map bytesUM).take q)).length = (dW (us.take q) 0).A.length := by
    show _ = (frms ((us.take q).map bytesUM)).length
    rw [List.map_take]
  rw [← hy, hq] at q3
  rw [hq] at q4
  refine ⟨q, _, q1, by simpa using q2, h3, ?_, ?_, ?_⟩
  · rw [q3, List.map_take]
  · unfold DS.opened
    show DS.mk (List.take (opn _ _).2.1 _) (opn _ _).2.1 _ _ = _
    rw [q3]
    show DS.mk _ _ _ _ = DS.mk _ _ _ _
    rw [q4, ← List.map_take]
  · rw [List.length_take]
    exact Nat.min_le_right _ _
end Go.Proofs.YtdiihaeelcbjbaaGreatDoor
