/- Stores as mathematics: updates, what they are as bytes, what records make. -/
import Derived.Test.YtdiihaeelcbjbaaGreatDoorBlM
namespace Go.Proofs.YtdiihaeelcbjbaaGreatDoor

structure VM where
  s : Nat
  b : BA
  x : List UInt8
structure SM where
  p : BA
  base : Nat
  snap : List UInt8
  vs : List VM
/-- An update: of kind 1 a promise, 2 a vote, 3 a snapshot. -/
structure UM where
  k : Nat
  s : Nat
  b : BA
  x : List UInt8
def SM.new : SM := ⟨B0, 0, [], []⟩
def SM.may (s : SM) (u : UM) : Nat := if u.k ≠ 3 ∧ (¬ u.b.fit ∨ ltB u.b s.p) then 1 else if u.k ≠ 1 ∧ u.s ≤ s.base then 31 else 0
def putV (v : VM) (l : List VM) : List VM := l.filter (fun y => decide (y.s < v.s)) ++ [v] ++ l.filter fun y => decide (v.s < y.s)
def SM.upd (s : SM) (u : UM) : SM :=
  if u.k = 1 then { s with p := u.b }
  else if u.k = 2 then { s with p := u.b, vs := putV ⟨u.s, u.b, u.x⟩ s.vs }
  else { s with base := u.s, snap := u.x, vs := s.vs.filter fun y => decide (u.s < y.s) }
def bytesUM (u : UM) : List UInt8 := vb u.k ++ ((if u.k = 1 then [] else vb u.s) ++ ((if u.k = 3 then [] else bytesBA u.b) ++ (if u.k = 1 then [] else vb u.x.length ++ u.x)))
/-- What an update may be: the parts that its kind lacks are none. -/
structure UM.ok (u : UM) : Prop where
  k1 : 1 ≤ u.k
  k3 : u.k ≤ 3
  s : u.s < 18446744073709551616
  b : u.b.ok
  x : u.x.length ≤ 60000
  n1 : u.k = 1 → u.s = 0 ∧ u.x = []
  n3 : u.k = 3 → u.b = B0
/-- The update that a record is. -/
def readUM (x : List UInt8) : Option UM :=
  let r := (⟨0, x⟩ : RdS).u
  if r.1 < 1 ∨ 3 < r.1 then none else
  let s := if r.1 = 1 then (0, r.2) else r.2.u
  let b := if r.1 = 3 then ((B0, 0), s.2) else takeBA s.2
  if b.1.2 ≠ 0 then none else
  let t := if r.1 = 1 then ([], b.2) else b.2.t x.length
  if t.2.done ≠ 0 then none else some ⟨r.1, s.1, b.1.1, t.1⟩
theorem u_put {n : Nat} (h : n < 18446744073709551616) (rest : List UInt8) : (⟨0, vb n ++ rest⟩ : RdS).u = (n, ⟨0, rest⟩) := (Good.u h).all rest
theorem t_put {x : List UInt8} {lim : Nat} (h : x.length ≤ lim) (hl : x.length ≤ 60000) : (⟨0, vb x.length ++ x⟩ : RdS).t lim = (x, ⟨0, []⟩) := by
  have e := u_put (n := x.length) (by omega) x
  unfold RdS.t
  rw [e]
  simp only
  rw [if_pos trivial, if_neg (by omega), if_neg (by omega), List.take_length, List.drop_length]
theorem read_put {u : UM} (h : u.ok) (hf : u.k = 3 ∨ u.b.fit) : readUM (bytesUM u) = some u := by
  obtain ⟨k, s, b, x⟩ := u
  have h1 := h.k1
  have h3 := h.k3
  simp only at h1 h3 hf
  have hx := h.x
  simp only at hx
  have hlen : x.length ≤ (bytesUM ⟨k, s, b, x⟩).length ∨ k = 1 := by
    by_cases e : k = 1
    · exact .inr e
    · left
      simp only [bytesUM, if_neg e, List.length_append]
      omega
  unfold readUM
  have e0 : (⟨0, bytesUM ⟨k, s, b, x⟩⟩ : RdS).u = (k, ⟨0, (if k = 1 then [] else vb s) ++ ((if k = 3 then [] else bytesBA b) ++ (if k = 1 then [] else vb x.length ++ x))⟩) := u_put (show k < 18446744073709551616 by omega) _
  rw [e0]
  simp only
  rw [if_neg (by omega)]
  have hk : k = 1 ∨ k = 2 ∨ k = 3 := by omega
  rcases hk with rfl | rfl | rfl
  · obtain ⟨n1, n2⟩ := h.n1 rfl
    simp only at n1 n2
    subst n1 n2
    have e1 := take_put h.b (hf.resolve_left (by omega)) []
    rw [List.append_nil] at e1
    simp only [if_true, List.nil_append, List.append_nil, if_neg (show ¬ (1 = 3) by omega)]
    rw [e1]
    simp [RdS.done]
  · have e1 := u_put h.s (bytesBA b ++ (vb x.length ++ x))
    have e2 := take_put h.b (hf.resolve_left (by omega)) (vb x.length ++ x)
    have e3 := t_put (hlen.resolve_right (by omega)) hx
    simp only at e1 e2
    simp only [if_neg (show ¬ (2 = 1) by omega), if_neg (show ¬ (2 = 3) by omega)]
    rw [e1]
    simp only
    rw [e2]
    simp only
    rw [e3]
    simp [RdS.done]
  · have n3 := h.n3 rfl
    simp only at n3
    subst n3
    have e1 := u_put h.s (vb x.length ++ x)
    have e3 := t_put (hlen.resolve_right (by omega)) hx
    simp only at e1
    simp only [if_neg (show ¬ (3 = 1) by omega), if_true, List.nil_append]
    rw [e1]
    simp only
    rw [e3]
    simp [RdS.done]
/-- What records make of a store. -/
def ofS : List (List UInt8) → SM → Option SM
  | [], s => some s
  | x :: l, s => match readUM x with
    | none => none
    | some u => if s.may u = 0 then ofS l (s.upd u) else none
/-- Updates that may be, one behind the other. -/
def Chain : List UM → SM → Prop
  | [], _ => True
  | u :: l, s => u.ok ∧ s.may u = 0 ∧ Chain l (s.upd u)
theorem may_fit {s : SM} {u : UM} (h : s.may u = 0) : u.k = 3 ∨ u.b.fit := by
  unfold SM.may at h
  split at h
  · cases h
  · rename_i hc
    by_cases e : u.k = 3
    · exact .inl e
    · exact .inr (Decidable.byContradiction fun hf => hc ⟨e, .inl hf⟩)
theorem ofS_put : ∀ (l : List UM) (s : SM), Chain l s → ofS (l.map bytesUM) s = some (l.foldl SM.upd s)
  | [], _, _ => rfl
  | u :: l, s, h => by
    obtain ⟨h1, h2, h3⟩ := h
    show (match readUM (bytesUM u) with
      | none => none
      | some u => if s.may u = 0 then ofS (l.map bytesUM) (s.upd u) else none) = _
    rw [read_put h1 (may_fit h2)]
    simp only
    rw [if_pos h2]
    exact ofS_put l (s.upd u) h3
theorem Chain.append : ∀ {l k : List UM} {s : SM}, Chain (l ++ k) s ↔ Chain l s ∧ Chain k (l.foldl SM.upd s)
  | [], _, _ => ⟨fun h => ⟨trivial, h⟩, fun h => h.2⟩
  | u :: l, k, s => by
    show (u.ok ∧ s.may u = 0 ∧ Chain (l ++ k) (s.upd u)) ↔ (u.ok ∧ s.may u = 0 ∧ Chain l (s.upd u)) ∧ _
    rw [Chain.append]
    exact ⟨fun ⟨a, b, c, d⟩ => ⟨⟨a, b, c⟩, d⟩, fun ⟨⟨a, b, c⟩, d⟩ => ⟨a, b, c, d⟩⟩
theorem Chain.take {l : List UM} {s : SM} (h : Chain l s) (n : Nat) : Chain (l.take n) s := by
  rw [← List.take_append_drop n l] at h
  exact (Chain.append.1 h).1
theorem bytesUM_len {u : UM} (h : u.ok) (hf : u.k = 3 ∨ u.b.fit) : 1 ≤ (bytesUM u).length ∧ (bytesUM u).length ≤ u.x.length + 50 := by
  have h1 := vb_len10 (show u.k < 18446744073709551616 by have := h.k3; omega)
  have h2 := vb_len10 h.s
  have h4 := vb_len10 (show u.x.length < 18446744073709551616 by have := h.x; omega)
  have h0 : 1 ≤ (vb u.k).length := by
    unfold vb
    split <;> simp
  have h3 : (if u.k = 3 then [] else bytesBA u.b).length ≤ 20 := by
    split
    · simp
    · rename_i e
      exact bytesBA_len h.b (hf.resolve_left e)
  have h5 : (if u.k = 1 then [] else vb u.s).length ≤ 10 := by
    split
    · simp
    · exact h2
  have h6 : (if u.k = 1 then [] else vb u.x.length ++ u.x).length ≤ u.x.length + 10 := by
    split
    · simp
    · rw [List.length_append]
      omega
  simp only [bytesUM, List.length_append]
  omega
/-! What a store's states have in common. -/
structure SM.ok (s : SM) : Prop where
  p : s.p.ok
  fit : s.p.fit
  base : s.base < 18446744073709551616
  snap : s.snap.length ≤ 60000
  vs : ∀ v ∈ s.vs, s.base < v.s ∧ v.s < 18446744073709551616 ∧ v.b.ok ∧ v.b.fit ∧ ¬ ltB s.p v.b ∧ v.x.length ≤ 60000
  sorted : s.vs.Pairwise fun a b => a.s < b.s
theorem SM.ok_new : SM.new.ok := ⟨B0_ok, (show B0.fit by decide), (show (0 : Nat) < 18446744073709551616 by decide), Nat.zero_le _, (fun v hv => by cases hv), List.Pairwise.nil⟩
theorem putV_sorted {v : VM} {l : List VM} (h : l.Pairwise fun a b => a.s < b.s) : (putV v l).Pairwise fun a b => a.s < b.s := by
  unfold putV
  rw [List.append_assoc, List.pairwise_append]
  refine ⟨h.filter _, ?_, fun a ha b hb => ?_⟩
  · rw [List.pairwise_append]
    refine ⟨List.pairwise_singleton _ _, h.filter _, fun a ha b hb => ?_⟩
    simp only [List.mem_cons, List.not_mem_nil, or_false] at ha
    rw [ha]
    exact of_decide_eq_true (List.mem_filter.1 hb).2
  · have h1 := of_decide_eq_true (List.mem_filter.1 ha).2
    rcases List.mem_append.1 hb with hb | hb
    · simp only [List.mem_cons, List.not_mem_nil, or_false] at hb
      rw [hb]
      exact h1
    · have := of_decide_eq_true (List.mem_filter.1 hb).2
      omega
theorem SM.ok.upd {s : SM} {u : UM} (h : s.ok) (hu : u.ok) (hm : s.may u = 0) : (s.upd u).ok := by
  have hf := may_fit hm
  have hk := hu.k1
  have hk3 := hu.k3
  unfold SM.may at hm
  split at hm
  · cases hm
  · rename_i hc
    split at hm
    · cases hm
    · rename_i hd
      have hlt : u.k ≠ 3 → ¬ ltB u.b s.p := fun e hl => hc ⟨e, .inr hl⟩
      have hs : u.k ≠ 1 → s.base < u.s := fun e => Nat.lt_of_not_le fun hl => hd ⟨e, hl⟩
      unfold SM.upd
      split
      · rename_i e
        refine ⟨hu.b, hf.resolve_left (by omega), h.base, h.snap, fun v hv => ?_, h.sorted⟩
        obtain ⟨h1, h2, h3, h4, h5, h6⟩ := h.vs v hv
        exact ⟨h1, h2, h3, h4, ltB_le (hlt (by omega)) h5, h6⟩
      · rename_i e1
        split
        · rename_i e2
          refine ⟨hu.b, hf.resolve_left (by omega), h.base, h.snap, fun v hv => ?_, putV_sorted h.sorted⟩
          have old : ∀ v ∈ s.vs, s.base < v.s ∧ v.s < 18446744073709551616 ∧ v.b.ok ∧ v.b.fit ∧ ¬ ltB u.b v.b ∧ v.x.length ≤ 60000 := fun v hv => by
            obtain ⟨h1, h2, h3, h4, h5, h6⟩ := h.vs v hv
            exact ⟨h1, h2, h3, h4, ltB_le (hlt (by omega)) h5, h6⟩
          rcases List.mem_append.1 hv with hv | hv
          · rcases List.mem_append.1 hv with hv | hv
            · exact old v (List.mem_filter.1 hv).1
            · simp only [List.mem_cons, List.not_mem_nil, or_false] at hv
              rw [hv]
              exact ⟨hs (by omega), hu.s, hu.b, hf.resolve_left (by omega), ltB_irr _, hu.x⟩
          · exact old v (List.mem_filter.1 hv).1
        · rename_i e2
          refine ⟨h.p, h.fit, hu.s, hu.x, fun v hv => ?_, h.sorted.filter _⟩
          obtain ⟨hv1, hv2⟩ := List.mem_filter.1 hv
          obtain ⟨h1, h2, h3, h4, h5, h6⟩ := h.vs v hv1
          exact ⟨of_decide_eq_true hv2, h2, h3, h4, h5, h6⟩
end Go.Proofs.YtdiihaeelcbjbaaGreatDoor
