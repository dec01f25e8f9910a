/- Plain mathematics of a reader: its error, the bytes that are left. Plain mathematics of reading: what is put together by parts is read by parts; what was read is what was put; a beginning of it ends too soon. -/
import Derived.Test.YtdiihaeelcbjbaaGreatDoorFoldMath
-- RdS
namespace Go.Proofs.YtdiihaeelcbjbaaGreatDoor

/-- What a reader has: its error, the bytes that are left (none where there was an error). -/
structure RdS where
  e : Nat
  bs : List UInt8
def RdS.u (s : RdS) : Nat × RdS := if s.e = 0 then (match rdU s.bs with | .short => (0, ⟨10, []⟩) | .form _ => (0, ⟨11, []⟩) | .ok n rest => (n, ⟨0, rest⟩)) else (0, ⟨s.e, []⟩)
def RdS.i (s : RdS) : Int × RdS := (unfoldN s.u.1, s.u.2)
def RdS.t (lim : Nat) (s : RdS) : List UInt8 × RdS := if s.u.2.e = 0 then (if lim < s.u.1 then ([], ⟨11, []⟩) else if s.u.2.bs.length < s.u.1 then ([], ⟨10, []⟩) else (s.u.2.bs.take s.u.1, ⟨0, s.u.2.bs.drop s.u.1⟩)) else ([], ⟨s.u.2.e, []⟩)
def RdS.done (s : RdS) : Nat := if s.e = 0 then (if s.bs = [] then 0 else 11) else s.e
theorem RdS.u_err {s : RdS} (h : s.e ≠ 0) : s.u = (0, ⟨s.e, []⟩) := by rw [RdS.u, if_neg h]
theorem RdS.u_short {s : RdS} (h : s.e = 0) (hr : rdU s.bs = .short) : s.u = (0, ⟨10, []⟩) := by rw [RdS.u, if_pos h, hr]
theorem RdS.u_form {s : RdS} {rest : List UInt8} (h : s.e = 0) (hr : rdU s.bs = .form rest) : s.u = (0, ⟨11, []⟩) := by rw [RdS.u, if_pos h, hr]
theorem RdS.u_ok {s : RdS} {n : Nat} {rest : List UInt8} (h : s.e = 0) (hr : rdU s.bs = .ok n rest) : s.u = (n, ⟨0, rest⟩) := by rw [RdS.u, if_pos h, hr]
theorem RdS.u_lt (s : RdS) : s.u.1 < 18446744073709551616 := by
  by_cases h : s.e = 0
  · cases hr : rdU s.bs with
    | short => rw [RdS.u_short h hr]; simp
    | form r => rw [RdS.u_form h hr]; simp
    | ok n r => rw [RdS.u_ok h hr]; exact (rdU_ok hr).2
  · rw [RdS.u_err h]; simp
/-- A byte. -/
def RdS.b (s : RdS) : Nat × RdS := if s.e = 0 then (match s.bs with | [] => (0, ⟨10, []⟩) | c :: r => (c.toNat, ⟨0, r⟩)) else (0, ⟨s.e, []⟩)
end Go.Proofs.YtdiihaeelcbjbaaGreatDoor

-- RdMath
namespace Go.Proofs.YtdiihaeelcbjbaaGreatDoor

/-- One reading, and another one that may hang on what it told. -/
def bindR {α β : Type} (f : RdS → α × RdS) (g : α → RdS → β × RdS) (s : RdS) : β × RdS := g (f s).1 (f s).2
def pureR {α : Type} (a : α) (s : RdS) : α × RdS := (a, s)
def uR (s : RdS) : Nat × RdS := s.u
def iR (s : RdS) : Int × RdS := s.i
def tR (lim : Nat) (s : RdS) : ByteArray × RdS := (⟨(s.t lim).1.toArray⟩, (s.t lim).2)
/-- So many readings, up to the first error. -/
def manyR {α : Type} (f : RdS → α × RdS) : Nat → RdS → List α × RdS
  | 0, s => ([], s)
  | n + 1, s => if (f s).2.e ≠ 0 then ([], (f s).2) else ((f s).1 :: (manyR f n (f s).2).1, (manyR f n (f s).2).2)

/-- An error stays. -/
def Stays {α : Type} (f : RdS → α × RdS) : Prop := ∀ e, e ≠ 0 → (f ⟨e, []⟩).2 = ⟨e, []⟩
/-- It reads E as a; of a beginning of E it tells that the bytes end too soon. -/
structure Good {α : Type} (f : RdS → α × RdS) (E : List UInt8) (a : α) : Prop where
  all : ∀ rest, f ⟨0, E ++ rest⟩ = (a, ⟨0, rest⟩)
  cut : ∀ k, k < E.length → (f ⟨0, E.take k⟩).2 = ⟨10, []⟩
/-- What was read with no error was put so. -/
def Puts {α : Type} (f : RdS → α × RdS) (E : α → List UInt8) : Prop := ∀ s : RdS, (f s).2.e = 0 → s.e = 0 ∧ s.bs = E (f s).1 ++ (f s).2.bs
/-- Errors are one of two. -/
def Errs {α : Type} (f : RdS → α × RdS) : Prop := ∀ s : RdS, (s.e = 0 ∨ s.e = 10 ∨ s.e = 11) → ((f s).2.e = 0 ∨ (f s).2.e = 10 ∨ (f s).2.e = 11)

section
variable {α β : Type} {f : RdS → α × RdS} {g : α → RdS → β × RdS} {E1 E2 : List UInt8} {a : α} {b : β}
theorem Stays.bind (h1 : Stays f) (h2 : ∀ x, Stays (g x)) : Stays (bindR f g) := fun e he => by
  show (g _ (f ⟨e, []⟩).2).2 = _
  rw [h1 e he]
  exact h2 _ e he
theorem Stays.pure (a : α) : Stays (pureR a) := fun _ _ => rfl
theorem Good.bind (h1 : Good f E1 a) (h2 : Good (g a) E2 b) (hs : ∀ x, Stays (g x)) : Good (bindR f g) (E1 ++ E2) b := by
  refine ⟨fun rest => ?_, fun k hk => ?_⟩
  · show g (f _).1 (f _).2 = _
    rw [List.append_assoc, h1.all]
    exact h2.all rest
  · show (g (f _).1 (f _).2).2 = _
    by_cases hlt : k < E1.length
    · have e : (E1 ++ E2).take k = E1.take k := List.take_append_of_le_length (by omega)
      rw [e, h1.cut k hlt]
      exact hs _ 10 (by decide)
    · have e : (E1 ++ E2).take k = E1 ++ E2.take (k - E1.length) := by
        rw [List.take_append, List.take_of_length_le (by omega)]
      rw [e, h1.all]
      exact h2.cut _ (by rw [List.length_append] at hk; omega)
theorem Good.pure (a : α) : Good (pureR a) [] a := ⟨fun _ => rfl, fun _ h => by simp at h⟩
theorem Good.bindNil (h1 : Good f E1 a) (h2 : Good (g a) [] b) (hs : ∀ x, Stays (g x)) : Good (bindR f g) E1 b := by
  have := h1.bind h2 hs
  rwa [List.append_nil] at this
theorem Puts.bind {EF : α → List UInt8} {EG : β → List UInt8} {J : β → α} (h1 : Puts f EF) (h2 : ∀ x, Puts (g x) EG) (hJ : ∀ x s, J (g x s).1 = x) : Puts (bindR f g) (fun y => EF (J y) ++ EG y) := fun s h => by
  obtain ⟨k1, k2⟩ := h2 _ _ h
  obtain ⟨k3, k4⟩ := h1 s k1
  refine ⟨k3, ?_⟩
  show s.bs = (EF (J (g (f s).1 (f s).2).1) ++ EG (g (f s).1 (f s).2).1) ++ (g (f s).1 (f s).2).2.bs
  rw [hJ, List.append_assoc, ← k2]
  exact k4
theorem Errs.bind (h1 : Errs f) (h2 : ∀ x, Errs (g x)) : Errs (bindR f g) := fun s h => h2 _ _ (h1 s h)
theorem Errs.pure (a : α) : Errs (pureR a) := fun _ h => h

theorem Stays.many (h : Stays f) : ∀ n, Stays (manyR f n)
  | 0 => fun _ _ => rfl
  | n + 1 => fun e he => by
    have h1 := h e he
    unfold manyR
    rw [if_pos (by rw [h1]; exact he)]
    exact h1
theorem Errs.many (h : Errs f) : ∀ n, Errs (manyR f n)
  | 0 => fun _ hs => hs
  | n + 1 => fun s hs => by
    unfold manyR
    split
    · exact h s hs
    · exact Errs.many h n _ (h s hs)
theorem Good.many {E : α → List UInt8} : ∀ (l : List α), (∀ x ∈ l, Good f (E x) x) → Good (manyR f l.length) (l.flatMap E) l
  | [], _ => ⟨fun _ => rfl, fun _ h => by simp at h⟩
  | x :: l, h => by
    have hx := h x (List.mem_cons_self ..)
    have hl := Good.many l (fun y hy => h y (List.mem_cons_of_mem _ hy))
    refine ⟨fun rest => ?_, fun k hk => ?_⟩
    · rw [List.flatMap_cons, List.append_assoc]
      show manyR f (l.length + 1) _ = _
      unfold manyR
      rw [hx.all, if_neg (by simp), hl.all]
    · rw [List.flatMap_cons] at hk ⊢
      show (manyR f (l.length + 1) _).2 = _
      unfold manyR
      by_cases hlt : k < (E x).length
      · have e : (E x ++ l.flatMap E).take k = (E x).take k := List.take_append_of_le_length (by omega)
        have hc := hx.cut k hlt
        rw [e, if_pos (by rw [hc]; decide)]
        exact hc
      · have e : (E x ++ l.flatMap E).take k = E x ++ (l.flatMap E).take (k - (E x).length) := by
          rw [List.take_append, List.take_of_length_le (by omega)]
        rw [e, hx.all, if_neg (by simp)]
        exact hl.cut _ (by rw [List.length_append] at hk; omega)
theorem Puts.many {E : α → List UInt8} (h : Puts f E) : ∀ n s, (manyR f n s).2.e = 0 → s.e = 0 ∧ s.bs = (manyR f n s).1.flatMap E ++ (manyR f n s).2.bs ∧ (manyR f n s).1.length = n
  | 0, s => fun h0 => ⟨h0, rfl, rfl⟩
  | n + 1, s => fun h0 => by
    unfold manyR at h0 ⊢
    by_cases he : (f s).2.e ≠ 0
    · rw [if_pos he] at h0
      exact absurd h0 he
    · rw [if_neg he] at h0 ⊢
      obtain ⟨k1, k2, k3⟩ := Puts.many h n _ h0
      obtain ⟨k4, k5⟩ := h s k1
      refine ⟨k4, ?_, by simp [k3]⟩
      rw [List.flatMap_cons, List.append_assoc, ← k2]
      exact k5
end

theorem Stays.u : Stays uR := fun e he => by rw [uR, RdS.u_err he]
theorem Stays.i : Stays iR := fun e he => by
  show (RdS.u ⟨e, []⟩).2 = _
  rw [RdS.u_err he]
theorem Stays.t (lim : Nat) : Stays (tR lim) := fun e he => by
  show (RdS.t lim ⟨e, []⟩).2 = _
  rw [RdS.t, RdS.u_err he, if_neg he]
theorem Errs.u : Errs uR := fun s hs => by
  by_cases h0 : s.e = 0
  · cases hr : rdU s.bs with
    | short => rw [uR, RdS.u_short h0 hr]; exact .inr (.inl rfl)
    | form r => rw [uR, RdS.u_form h0 hr]; exact .inr (.inr rfl)
    | ok n r => rw [uR, RdS.u_ok h0 hr]; exact .inl rfl
  · rw [uR, RdS.u_err h0]; exact hs
theorem Errs.i : Errs iR := fun s hs => Errs.u s hs
theorem Errs.t (lim : Nat) : Errs (tR lim) := fun s hs => by
  have := Errs.u s hs
  show (s.t lim).2.e = 0 ∨ (s.t lim).2.e = 10 ∨ (s.t lim).2.e = 11
  rw [RdS.t]
  split
  · split
    · exact .inr (.inr rfl)
    · split
      · exact .inr (.inl rfl)
      · exact .inl rfl
  · exact this
theorem rdU_cut {n k : Nat} (hn : n < 18446744073709551616) (hk : k < (vb n).length) : rdU ((vb n).take k) = .short := rd_cut 10 0 0 n k rfl (by simpa using hn) (.inl rfl) (by omega) hk
theorem Good.u {n : Nat} (hn : n < 18446744073709551616) : Good uR (vb n) n := by
  refine ⟨fun rest => ?_, fun k hk => ?_⟩
  · rw [uR, RdS.u_ok (s := ⟨0, vb n ++ rest⟩) rfl (rdU_vb hn rest)]
  · rw [uR, RdS.u_short (s := ⟨0, (vb n).take k⟩) rfl (rdU_cut hn hk)]
theorem Good.i {n : Int} (h1 : -9223372036854775808 ≤ n) (h2 : n ≤ 9223372036854775807) : Good iR (vb (foldN n)) n := by
  have h := Good.u (foldN_lt h1 h2)
  refine ⟨fun rest => ?_, fun k hk => h.cut k hk⟩
  have := h.all rest
  rw [uR] at this
  rw [iR, RdS.i, this, unfold_fold]
theorem Good.t {lim : Nat} {s : ByteArray} (hs : s.size ≤ lim) (hl : lim < 18446744073709551616) : Good (tR lim) (txt s) s := by
  have h := Good.u (n := s.size) (by omega)
  have hsz : s.data.toList.length = s.size := Array.length_toList
  refine ⟨fun rest => ?_, fun k hk => ?_⟩
  · have hu := h.all (s.data.toList ++ rest)
    rw [uR] at hu
    have e : RdS.t lim ⟨0, txt s ++ rest⟩ = (s.data.toList, ⟨0, rest⟩) := by
      rw [txt, List.append_assoc, RdS.t, hu]
      rw [if_pos rfl, if_neg (by omega), if_neg (by show ¬ (s.data.toList ++ rest).length < s.size; rw [List.length_append]; omega)]
      show ((s.data.toList ++ rest).take s.size, (⟨0, (s.data.toList ++ rest).drop s.size⟩ : RdS)) = _
      rw [List.take_left' hsz, List.drop_left' hsz]
    rw [tR, e]
  · show (RdS.t lim ⟨0, (txt s).take k⟩).2 = _
    by_cases hlt : k < (vb s.size).length
    · have e : (txt s).take k = (vb s.size).take k := List.take_append_of_le_length (by omega)
      have hc := h.cut k hlt
      rw [uR] at hc
      rw [e, RdS.t, hc, if_neg (by decide)]
    · have e : (txt s).take k = vb s.size ++ s.data.toList.take (k - (vb s.size).length) := by
        rw [txt, List.take_append, List.take_of_length_le (by omega)]
      have hu := h.all (s.data.toList.take (k - (vb s.size).length))
      rw [uR] at hu
      have hkl : k - (vb s.size).length < s.size := by rw [txt, List.length_append] at hk; omega
      rw [e, RdS.t, hu, if_pos rfl, if_neg (by omega), if_pos (by show (s.data.toList.take _).length < s.size; rw [List.length_take]; omega)]
theorem Puts.u : Puts uR vb := fun s h => by
  by_cases h0 : s.e = 0
  · cases hr : rdU s.bs with
    | short => rw [uR, RdS.u_short h0 hr] at h; cases h
    | form r => rw [uR, RdS.u_form h0 hr] at h; cases h
    | ok n r => rw [uR, RdS.u_ok h0 hr]; exact ⟨h0, (rdU_ok hr).1⟩
  · rw [uR, RdS.u_err h0] at h; exact absurd h h0
theorem Puts.i : Puts iR (fun n => vb (foldN n)) := fun s h => by
  obtain ⟨h1, h2⟩ := Puts.u s h
  refine ⟨h1, ?_⟩
  show s.bs = vb (foldN (unfoldN s.u.1)) ++ s.u.2.bs
  rw [fold_unfold]
  exact h2
theorem Puts.t (lim : Nat) : Puts (tR lim) txt := fun s h => by
  have h' : (s.t lim).2.e = 0 := h
  show s.e = 0 ∧ s.bs = txt ⟨(s.t lim).1.toArray⟩ ++ (s.t lim).2.bs
  unfold RdS.t at h' ⊢
  by_cases hu : s.u.2.e = 0
  · rw [if_pos hu] at h' ⊢
    by_cases h1 : lim < s.u.1
    · rw [if_pos h1] at h'; cases h'
    · rw [if_neg h1] at h' ⊢
      by_cases h2 : s.u.2.bs.length < s.u.1
      · rw [if_pos h2] at h'; cases h'
      · rw [if_neg h2]
        obtain ⟨k1, k2⟩ := Puts.u s hu
        refine ⟨k1, ?_⟩
        have hk2 : s.bs = vb s.u.1 ++ s.u.2.bs := k2
        have hsz : (⟨(s.u.2.bs.take s.u.1).toArray⟩ : ByteArray).size = s.u.1 := by
          show (s.u.2.bs.take s.u.1).toArray.size = _
          rw [List.size_toArray, List.length_take]
          omega
        rw [txt, hsz]
        show s.bs = (vb s.u.1 ++ (s.u.2.bs.take s.u.1).toArray.toList) ++ s.u.2.bs.drop s.u.1
        rw [List.append_assoc, List.take_append_drop]
        exact hk2
  · rw [if_neg hu] at h'
    exact absurd h' hu
end Go.Proofs.YtdiihaeelcbjbaaGreatDoor
