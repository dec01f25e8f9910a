/- Parts of the proof: MKvD, LitB, CmGreatM, MKvM. -/
import Derived.Test.YtfjmdkhemnmkpaaGreatDoorA02
import Derived.Maps.OwnSet
import Derived.Sort.KeysCollected
import Derived.StringKeys
import Derived.Deep.DeepCutAuto
namespace Go.Proofs.YtfjmdkhemnmkpaaGreatDoor
open Go.RowKit
def keyP (ks : List ByteArray) (i : Nat) : ByteArray := ks[i]?.getD ⟨#[]⟩
def joinP (l : List PV) (ks : List ByteArray) : List UInt8 := ks.flatMap fun k => ((lookP l k).elim [] fun v => v.data.toList) ++ [44]
def restP (l : List PV) (ks : List ByteArray) : List PV := ks.foldl withoutP l
theorem joinP_succ {l : List PV} {ks : List ByteArray} {j : Nat} (h : j < ks.length) : joinP l (ks.take (j + 1)) = joinP l (ks.take j) ++ ((lookP l ks[j]).elim [] fun v => v.data.toList) ++ [44] := by
  unfold joinP
  rw [List.take_succ_eq_append_getElem h, List.flatMap_append, List.append_assoc]
  simp
theorem restP_succ {l : List PV} {ks : List ByteArray} {j : Nat} (h : j < ks.length) : restP l (ks.take (j + 1)) = withoutP (restP l (ks.take j)) ks[j] := by
  unfold restP
  rw [List.take_succ_eq_append_getElem h, List.foldl_append]
  rfl
theorem restP_len (l : List PV) (ks : List ByteArray) : (restP l ks).length ≤ l.length := by
  unfold restP
  induction ks generalizing l with
  | nil => exact Nat.le_refl _
  | cons k ks ih =>
    have := ih (withoutP l k)
    have h2 := withoutP_len l k
    simp only [List.foldl_cons]
    omega
noncomputable def doP (l : List PV) (m : CM) : List PV × Nat × ByteArray :=
  if m.may = false then (l, 2, ⟨#[]⟩)
  else if m.kd = 1 then (withP l (keyP m.ks 0) m.new, 0, ⟨#[]⟩)
  else if m.kd = 2 then match lookP l (keyP m.ks 0) with | none => (l, 1, ⟨#[]⟩) | some v => (l, 0, v)
  else if m.kd = 3 then match lookP l (keyP m.ks 0) with | none => (l, 1, ⟨#[]⟩) | some v => (withoutP l (keyP m.ks 0), 0, v)
  else if m.kd = 4 then addP l (keyP m.ks 0) m.n
  else if m.kd = 5 then match lookP l (keyP m.ks 0) with
    | none => (l, 1, ⟨#[]⟩)
    | some v => if v ≠ m.old then (l, 2, ⟨#[]⟩) else (withP l (keyP m.ks 0) m.new, 0, ⟨#[]⟩)
  else if m.kd = 6 then (swapP l (keyP m.ks 0) (keyP m.ks 1), 0, ⟨#[]⟩)
  else if m.kd = 7 then (l, 0, str (joinP l m.ks))
  else (restP l m.ks, 0, str (decI ((l.length : Int) - (restP l m.ks).length)))
end Go.Proofs.YtfjmdkhemnmkpaaGreatDoor
namespace Go.Proofs.YtfjmdkhemnmkpaaGreatDoor
open Go.RowKit
section
variable {l : List PV} {m : CM} {k0 u : ByteArray}
theorem doP_put (hm : m.may = true) (h : m.kd = 1) (hk : keyP m.ks 0 = k0) : doP l m = (withP l k0 m.new, 0, ⟨#[]⟩) := by
  unfold doP; rw [if_neg (by rw [hm]; decide), if_pos h, hk]
theorem doP_get0 (hm : m.may = true) (h : m.kd = 2) (hk : keyP m.ks 0 = k0) (hl : lookP l k0 = none) : doP l m = (l, 1, ⟨#[]⟩) := by
  unfold doP; rw [if_neg (by rw [hm]; decide), if_neg (by omega), if_pos h, hk, hl]
theorem doP_get1 (hm : m.may = true) (h : m.kd = 2) (hk : keyP m.ks 0 = k0) (hl : lookP l k0 = some u) : doP l m = (l, 0, u) := by
  unfold doP; rw [if_neg (by rw [hm]; decide), if_neg (by omega), if_pos h, hk, hl]
theorem doP_del0 (hm : m.may = true) (h : m.kd = 3) (hk : keyP m.ks 0 = k0) (hl : lookP l k0 = none) : doP l m = (l, 1, ⟨#[]⟩) := by
  unfold doP; rw [if_neg (by rw [hm]; decide), if_neg (by omega), if_neg (by omega), if_pos h, hk, hl]
theorem doP_del1 (hm : m.may = true) (h : m.kd = 3) (hk : keyP m.ks 0 = k0) (hl : lookP l k0 = some u) : doP l m = (withoutP l k0, 0, u) := by
  unfold doP; rw [if_neg (by rw [hm]; decide), if_neg (by omega), if_neg (by omega), if_pos h, hk, hl]
theorem doP_add (hm : m.may = true) (h : m.kd = 4) (hk : keyP m.ks 0 = k0) : doP l m = addP l k0 m.n := by
  unfold doP; rw [if_neg (by rw [hm]; decide), if_neg (by omega), if_neg (by omega), if_neg (by omega), if_pos h, hk]
theorem doP_cas0 (hm : m.may = true) (h : m.kd = 5) (hk : keyP m.ks 0 = k0) (hl : lookP l k0 = none) : doP l m = (l, 1, ⟨#[]⟩) := by
  unfold doP; rw [if_neg (by rw [hm]; decide), if_neg (by omega), if_neg (by omega), if_neg (by omega), if_neg (by omega), if_pos h, hk, hl]
theorem doP_cas1 (hm : m.may = true) (h : m.kd = 5) (hk : keyP m.ks 0 = k0) (hl : lookP l k0 = some u) (ho : u ≠ m.old) : doP l m = (l, 2, ⟨#[]⟩) := by
  unfold doP; rw [if_neg (by rw [hm]; decide), if_neg (by omega), if_neg (by omega), if_neg (by omega), if_neg (by omega), if_pos h, hk, hl]
  simp [ho]
theorem doP_cas2 (hm : m.may = true) (h : m.kd = 5) (hk : keyP m.ks 0 = k0) (hl : lookP l k0 = some u) (ho : u = m.old) : doP l m = (withP l k0 m.new, 0, ⟨#[]⟩) := by
  unfold doP; rw [if_neg (by rw [hm]; decide), if_neg (by omega), if_neg (by omega), if_neg (by omega), if_neg (by omega), if_pos h, hk, hl]
  simp [ho]
theorem doP_swap (hm : m.may = true) (h : m.kd = 6) {k1 : ByteArray} (hk : keyP m.ks 0 = k0) (hk1 : keyP m.ks 1 = k1) : doP l m = (swapP l k0 k1, 0, ⟨#[]⟩) := by
  unfold doP; rw [if_neg (by rw [hm]; decide), if_neg (by omega), if_neg (by omega), if_neg (by omega), if_neg (by omega), if_neg (by omega), if_pos h, hk, hk1]
theorem doP_join (hm : m.may = true) (h : m.kd = 7) : doP l m = (l, 0, str (joinP l m.ks)) := by
  unfold doP; rw [if_neg (by rw [hm]; decide), if_neg (by omega), if_neg (by omega), if_neg (by omega), if_neg (by omega), if_neg (by omega), if_neg (by omega), if_pos h]
theorem doP_clear (hm : m.may = true) (h : m.kd = 8) : doP l m = (restP l m.ks, 0, str (decI ((l.length : Int) - (restP l m.ks).length))) := by
  unfold doP; rw [if_neg (by rw [hm]; decide), if_neg (by omega), if_neg (by omega), if_neg (by omega), if_neg (by omega), if_neg (by omega), if_neg (by omega), if_neg (by omega)]
end
end Go.Proofs.YtfjmdkhemnmkpaaGreatDoor
namespace Go.Proofs.YtfjmdkhemnmkpaaGreatDoor
open Go.RowKit
def touchP (ks : List ByteArray) : List PV := ks.foldl (fun l k => withP l k ⟨#[]⟩) []
def touchK (ks : List ByteArray) : List ByteArray := (touchP ks).map (·.1)
theorem touchP_succ {ks : List ByteArray} {j : Nat} (h : j < ks.length) : touchP (ks.take (j + 1)) = withP (touchP (ks.take j)) ks[j] ⟨#[]⟩ := by
  unfold touchP
  rw [List.take_succ_eq_append_getElem h, List.foldl_append]
  rfl
end Go.Proofs.YtfjmdkhemnmkpaaGreatDoor
namespace Go.Proofs.YtfjmdkhemnmkpaaGreatDoor
open Go.RowKit
theorem bl_irr : ∀ x : List UInt8, Op.bytesLess x x = false
  | [] => by simp [Op.bytesLess]
  | a :: x => by rw [Op.bytesLess, bl_irr x]; simp
theorem bl_trans : ∀ {x y z : List UInt8}, Op.bytesLess x y = true → Op.bytesLess y z = true → Op.bytesLess x z = true
  | [], [], _, h, _ => by simp [Op.bytesLess] at h
  | _ :: _, [], _, h, _ => by simp [Op.bytesLess] at h
  | _, _ :: _, [], _, h => by simp [Op.bytesLess] at h
  | [], _ :: _, _ :: _, _, _ => by simp [Op.bytesLess]
  | a :: x, b :: y, c :: z, h, k => by
    simp only [Op.bytesLess, Bool.or_eq_true, Bool.and_eq_true, decide_eq_true_eq, beq_iff_eq] at h k ⊢
    rcases h with h | ⟨rfl, h⟩
    · rcases k with k | ⟨rfl, k⟩
      · exact .inl (UInt8.lt_trans h k)
      · exact .inl h
    · rcases k with k | ⟨rfl, k⟩
      · exact .inl k
      · exact .inr ⟨rfl, bl_trans h k⟩
theorem bl_tot : ∀ {x y : List UInt8}, x ≠ y → Op.bytesLess x y = false → Op.bytesLess y x = true
  | [], [], h, _ => absurd rfl h
  | [], _ :: _, _, h => by simp [Op.bytesLess] at h
  | _ :: _, [], _, _ => by simp [Op.bytesLess]
  | a :: x, b :: y, h, k => by
    simp only [Op.bytesLess, Bool.or_eq_false_iff, Bool.and_eq_false_iff, decide_eq_false_iff_not, beq_eq_false_iff_ne] at k
    simp only [Op.bytesLess, Bool.or_eq_true, Bool.and_eq_true, decide_eq_true_eq, beq_iff_eq]
    by_cases hab : a = b
    · subst hab
      refine .inr ⟨rfl, bl_tot (fun e => h (by rw [e])) ?_⟩
      rcases k.2 with k | k
      · exact absurd rfl k
      · exact k
    · refine .inl ?_
      have h1 : ¬ a.toNat < b.toNat := fun e => k.1 (UInt8.lt_iff_toNat_lt.2 e)
      have h2 : a.toNat ≠ b.toNat := fun e => hab (UInt8.toNat_inj.1 e)
      exact UInt8.lt_iff_toNat_lt.2 (by omega)
theorem ltB_irr (a : ByteArray) : ltB a a = false := bl_irr _
theorem ltB_trans {a b c : ByteArray} (h : ltB a b = true) (k : ltB b c = true) : ltB a c = true := bl_trans h k
theorem ltB_tot {a b : ByteArray} (h : a ≠ b) (k : ltB a b = false) : ltB b a = true := bl_tot (fun e => h (toList_inj9.1 e)) k
theorem ltB_ne {a b : ByteArray} (h : ltB a b = true) : a ≠ b := fun e => by rw [e, ltB_irr] at h; cases h
def SortedP (l : List PV) : Prop := l.Pairwise fun a b => ltB a.1 b.1 = true
theorem SortedP.nil : SortedP [] := List.Pairwise.nil
theorem SortedP.without {l : List PV} (h : SortedP l) (k : ByteArray) : SortedP (withoutP l k) := List.Pairwise.sublist List.filter_sublist h
theorem lookP_nil (k : ByteArray) : lookP [] k = none := rfl
theorem lookP_cons (p : PV) (l : List PV) (k : ByteArray) : lookP (p :: l) k = if p.1 = k then some p.2 else lookP l k := by
  unfold lookP
  by_cases h : p.1 = k <;> simp [h]
theorem lookP_append (l m : List PV) (k : ByteArray) : lookP (l ++ m) k = (lookP l k).or (lookP m k) := by
  induction l with
  | nil => rfl
  | cons p l ih =>
    rw [List.cons_append, lookP_cons, lookP_cons, ih]
    split <;> rfl
theorem lookP_no {l : List PV} {k : ByteArray} (h : ∀ p ∈ l, p.1 ≠ k) : lookP l k = none := by
  induction l with
  | nil => rfl
  | cons p l ih => rw [lookP_cons, if_neg (h p (List.mem_cons_self ..)), ih fun q hq => h q (List.mem_cons_of_mem _ hq)]
theorem lookP_mem {l : List PV} {k v : ByteArray} (h : lookP l k = some v) : (k, v) ∈ l := by
  induction l with
  | nil => cases h
  | cons p l ih =>
    rw [lookP_cons] at h
    split at h
    · rename_i hp
      cases h
      rw [← hp]; exact List.mem_cons_self ..
    · exact List.mem_cons_of_mem _ (ih h)
theorem lookP_without (l : List PV) (k j : ByteArray) : lookP (withoutP l k) j = if j = k then none else lookP l j := by
  induction l with
  | nil => simp [withoutP, lookP_nil]
  | cons p l ih =>
    have e : withoutP (p :: l) k = if p.1 = k then withoutP l k else p :: withoutP l k := by
      unfold withoutP
      by_cases h : p.1 = k <;> simp [h]
    rw [e, lookP_cons]
    by_cases hk : p.1 = k
    · rw [if_pos hk, ih]
      by_cases hj : j = k
      · rw [if_pos hj, if_pos hj]
      · rw [if_neg hj, if_neg hj, if_neg (by rw [hk]; exact fun e => hj e.symm)]
    · rw [if_neg hk, lookP_cons, ih]
      by_cases hj : p.1 = j
      · rw [if_pos hj, if_pos hj, if_neg (fun e => hk (hj.trans e))]
      · rw [if_neg hj, if_neg hj]
theorem withoutP_ne {l : List PV} {k : ByteArray} : ∀ p ∈ withoutP l k, p.1 ≠ k := by
  intro p hp
  have := (List.mem_filter.1 hp).2
  simpa using this
theorem lookP_with (l : List PV) (k v j : ByteArray) : lookP (withP l k v) j = if j = k then some v else lookP l j := by
  have hr : ∀ p ∈ withoutP l k, p.1 ≠ k := withoutP_ne
  have hlk := lookP_without l k j
  unfold withP
  generalize placeP (withoutP l k) k = n
  generalize withoutP l k = r at hr hlk
  rw [lookP_append, lookP_cons]
  by_cases hj : j = k
  · subst hj
    rw [if_pos rfl, if_pos rfl, lookP_no (fun p hp => hr p (List.mem_of_mem_take hp))]
    rfl
  · rw [if_neg (fun e => hj e.symm), if_neg hj, ← lookP_append, List.take_append_drop, hlk, if_neg hj]
theorem SortedP.with_ {l : List PV} (h : SortedP l) (k v : ByteArray) : SortedP (withP l k v) := by
  have hr := h.without k
  have hne : ∀ p ∈ withoutP l k, p.1 ≠ k := withoutP_ne
  unfold withP placeP
  generalize withoutP l k = r at hr hne
  have e1 : r.take (r.takeWhile fun p => ltB p.1 k).length = r.takeWhile fun p => ltB p.1 k := by
    conv => lhs; rw [← List.takeWhile_append_dropWhile (p := fun p : PV => ltB p.1 k) (l := r)]
    rw [List.take_append_of_le_length (by simp)]
    simp
  have e2 : r.drop (r.takeWhile fun p => ltB p.1 k).length = r.dropWhile fun p => ltB p.1 k := by
    conv => lhs; rw [← List.takeWhile_append_dropWhile (p := fun p : PV => ltB p.1 k) (l := r)]
    rw [List.drop_append_of_le_length (by simp)]
    simp
  rw [e1, e2]
  have hlow : ∀ p ∈ r.takeWhile (fun p => ltB p.1 k), ltB p.1 k = true := fun p hp => by
    have := List.all_eq_true.1 (List.all_takeWhile (p := fun p : PV => ltB p.1 k) (l := r)) p hp
    exact this
  have hs : SortedP (r.takeWhile (fun p => ltB p.1 k) ++ r.dropWhile (fun p => ltB p.1 k)) := by rw [List.takeWhile_append_dropWhile]; exact hr
  unfold SortedP at hs
  obtain ⟨h1, h2, h3⟩ := List.pairwise_append.1 hs
  have hhigh : ∀ p ∈ r.dropWhile (fun p => ltB p.1 k), ltB k p.1 = true := by
    cases hd : r.dropWhile (fun p => ltB p.1 k) with
    | nil => intro p hp; cases hp
    | cons q t =>
      have hq0 : ltB q.1 k = false := by
        have := List.head?_dropWhile_not (fun p : PV => ltB p.1 k) r
        rw [hd] at this
        simpa using this
      have hqm : q ∈ r := (List.dropWhile_sublist (fun p : PV => ltB p.1 k)).subset (by rw [hd]; exact List.mem_cons_self ..)
      have hq := ltB_tot (hne q hqm) hq0
      rw [hd] at h2
      intro p hp
      rcases List.mem_cons.1 hp with rfl | hp
      · exact hq
      · exact ltB_trans hq ((List.pairwise_cons.1 h2).1 p hp)
  refine List.pairwise_append.2 ⟨h1, List.pairwise_cons.2 ⟨hhigh, h2⟩, fun a ha b hb => ?_⟩
  rcases List.mem_cons.1 hb with rfl | hb
  · exact hlow a ha
  · exact h3 a ha b hb
theorem SortedP.ext : ∀ {l m : List PV}, SortedP l → SortedP m → (∀ k, lookP l k = lookP m k) → l = m
  | [], [], _, _, _ => rfl
  | [], q :: m, _, _, h => by have := h q.1; rw [lookP_cons, if_pos rfl, lookP_nil] at this; cases this
  | p :: l, [], _, _, h => by have := h p.1; rw [lookP_cons, if_pos rfl, lookP_nil] at this; cases this
  | p :: l, q :: m, hl, hm, h => by
    obtain ⟨hl1, hl2⟩ := List.pairwise_cons.1 hl
    obtain ⟨hm1, hm2⟩ := List.pairwise_cons.1 hm
    have hpq : p.1 = q.1 := by
      refine Classical.byContradiction fun hne => ?_
      have h1 := h p.1
      rw [lookP_cons, if_pos rfl, lookP_cons, if_neg (fun e => hne e.symm)] at h1
      have h2 := h q.1
      rw [lookP_cons, if_neg hne, lookP_cons, if_pos rfl] at h2
      have h3 := hm1 _ (lookP_mem h1.symm)
      have h4 := hl1 _ (lookP_mem h2)
      exact ltB_ne (ltB_trans h3 h4) rfl
    have hv : p.2 = q.2 := by
      have h1 := h p.1
      rw [lookP_cons, if_pos rfl, lookP_cons, if_pos hpq.symm] at h1
      injection h1
    have hp : p = q := by cases p; cases q; simp only at hpq hv; rw [hpq, hv]
    subst hp
    congr 1
    refine SortedP.ext hl2 hm2 fun k => ?_
    by_cases hk : p.1 = k
    · subst hk
      rw [lookP_no fun x hx => Ne.symm (ltB_ne (hl1 x hx)), lookP_no fun x hx => Ne.symm (ltB_ne (hm1 x hx))]
    · have := h k
      rw [lookP_cons, if_neg hk, lookP_cons, if_neg hk] at this
      exact this
theorem without_len {l : List PV} (h : SortedP l) (k : ByteArray) : (withoutP l k).length + (if (lookP l k).isSome then 1 else 0) = l.length := by
  induction l with
  | nil => rfl
  | cons p l ih =>
    obtain ⟨h1, h2⟩ := List.pairwise_cons.1 h
    have e : withoutP (p :: l) k = if p.1 = k then withoutP l k else p :: withoutP l k := by
      unfold withoutP
      by_cases h : p.1 = k <;> simp [h]
    rw [e, lookP_cons]
    by_cases hk : p.1 = k
    · subst hk
      have hno := lookP_no fun x hx => Ne.symm (ltB_ne (h1 x hx))
      have := ih h2
      rw [hno] at this
      simp only [if_true, Option.isSome_some, List.length_cons]
      simpa using this
    · have := ih h2
      rw [if_neg hk, if_neg hk, List.length_cons, List.length_cons]
      omega
theorem SortedP.rest {l : List PV} (h : SortedP l) (ks : List ByteArray) : SortedP (restP l ks) := by
  unfold restP
  induction ks generalizing l with
  | nil => exact h
  | cons k ks ih => exact ih (h.without k)
theorem lookP_rest_out {l : List PV} {ks : List ByteArray} {j : ByteArray} (h : j ∉ ks) : lookP (restP l ks) j = lookP l j := by
  unfold restP
  induction ks generalizing l with
  | nil => rfl
  | cons k ks ih =>
    rw [List.foldl_cons, ih (fun e => h (List.mem_cons_of_mem _ e)), lookP_without, if_neg (fun e => h (by rw [e]; exact List.mem_cons_self ..))]
theorem lookP_rest_none {l : List PV} {ks : List ByteArray} {j : ByteArray} (h : lookP l j = none) : lookP (restP l ks) j = none := by
  unfold restP
  induction ks generalizing l with
  | nil => exact h
  | cons k ks ih =>
    rw [List.foldl_cons]
    refine ih ?_
    rw [lookP_without, h]
    split <;> rfl
theorem lookP_rest_in {l : List PV} {ks : List ByteArray} {j : ByteArray} (h : j ∈ ks) : lookP (restP l ks) j = none := by
  induction ks generalizing l with
  | nil => cases h
  | cons k ks ih =>
    rcases List.mem_cons.1 h with rfl | h
    · exact lookP_rest_none (l := withoutP l j) (by rw [lookP_without, if_pos rfl])
    · exact ih (l := withoutP l k) h
theorem rest_count {l m : List PV} (hl : SortedP l) (hm : SortedP m) (ks : List ByteArray) (h : ∀ k ∈ ks, lookP l k = lookP m k) : l.length + (restP m ks).length = m.length + (restP l ks).length := by
  unfold restP
  induction ks generalizing l m with
  | nil => simp only [List.foldl_nil]; omega
  | cons k ks ih =>
    have h1 := without_len hl k
    have h2 := without_len hm k
    rw [h k (List.mem_cons_self ..)] at h1
    have h3 := ih (hl.without k) (hm.without k) fun j hj => by rw [lookP_without, lookP_without, h j (List.mem_cons_of_mem _ hj)]
    simp only [List.foldl_cons]
    omega
theorem may_kinds {m : CM} (hm : m.may = true) : m.kd = 1 ∨ m.kd = 2 ∨ m.kd = 3 ∨ m.kd = 4 ∨ m.kd = 5 ∨ m.kd = 6 ∨ m.kd = 7 ∨ m.kd = 8 := by
  have := (CM.may_iff.1 hm).kd
  omega
theorem may_key {m : CM} (hm : m.may = true) : keyP m.ks 0 ∈ m.ks := by
  have h := (CM.may_iff.1 hm).len.1
  have hk : 0 < m.ks.length := by unfold leastK at h; split at h <;> omega
  rw [keyP, List.getElem?_eq_getElem hk]
  exact List.getElem_mem hk
theorem may_key1 {m : CM} (hm : m.may = true) (h6 : m.kd = 6) : keyP m.ks 1 ∈ m.ks := by
  have h := (CM.may_iff.1 hm).len.1
  have hk : 1 < m.ks.length := by rw [h6] at h; exact h
  rw [keyP, List.getElem?_eq_getElem hk]
  exact List.getElem_mem hk
theorem lookP_put {o : List PV} {k j : ByteArray} {v : Option ByteArray} : lookP (putP o k v) j = if j = k then v.or (lookP o j) else lookP o j := by
  cases v with
  | none => simp [putP]
  | some v =>
    show lookP (withP o k v) j = _
    rw [lookP_with]
    split <;> rfl
theorem SortedP.put {o : List PV} (h : SortedP o) (k : ByteArray) (v : Option ByteArray) : SortedP (putP o k v) := by
  cases v with
  | none => exact h
  | some v => exact h.with_ k v
theorem lookP_swap (l : List PV) (a b j : ByteArray) : lookP (swapP l a b) j = if j = b then lookP l a else if j = a then lookP l b else lookP l j := by
  unfold swapP
  rw [lookP_put, lookP_put, lookP_without, lookP_without]
  by_cases hb : j = b
  · subst hb
    by_cases ha : j = a
    · subst ha; cases lookP l j <;> simp
    · cases lookP l a <;> simp [ha]
  · by_cases ha : j = a
    · subst ha; cases lookP l b <;> simp [hb]
    · simp [ha, hb]
theorem doP_sorted {l : List PV} (h : SortedP l) (m : CM) : SortedP (doP l m).1 := by
  cases hm : m.may with
  | false => unfold doP; rw [if_pos hm]; exact h
  | true =>
    rcases may_kinds hm with k | k | k | k | k | k | k | k
    · rw [doP_put hm k rfl]; exact h.with_ _ _
    · cases hl : lookP l (keyP m.ks 0) with
      | none => rw [doP_get0 hm k rfl hl]; exact h
      | some u => rw [doP_get1 hm k rfl hl]; exact h
    · cases hl : lookP l (keyP m.ks 0) with
      | none => rw [doP_del0 hm k rfl hl]; exact h
      | some u => rw [doP_del1 hm k rfl hl]; exact h.without _
    · rw [doP_add hm k rfl]
      unfold addP
      split
      · exact h
      · exact h.with_ _ _
    · cases hl : lookP l (keyP m.ks 0) with
      | none => rw [doP_cas0 hm k rfl hl]; exact h
      | some u =>
        by_cases ho : u = m.old
        · rw [doP_cas2 hm k rfl hl ho]; exact h.with_ _ _
        · rw [doP_cas1 hm k rfl hl ho]; exact h
    · rw [doP_swap hm k rfl rfl]
      unfold swapP
      exact (((h.without _).without _).put _ _).put _ _
    · rw [doP_join hm k]; exact h
    · rw [doP_clear hm k]; exact h.rest _
theorem doP_out (l : List PV) {m : CM} {j : ByteArray} (hj : j ∉ m.ks) : lookP (doP l m).1 j = lookP l j := by
  cases hm : m.may with
  | false => unfold doP; rw [if_pos hm]
  | true =>
    have hk0 : j ≠ keyP m.ks 0 := fun e => hj (by rw [e]; exact may_key hm)
    rcases may_kinds hm with k | k | k | k | k | k | k | k
    · rw [doP_put hm k rfl]; show lookP (withP l _ _) j = _; rw [lookP_with, if_neg hk0]
    · cases hl : lookP l (keyP m.ks 0) with
      | none => rw [doP_get0 hm k rfl hl]
      | some u => rw [doP_get1 hm k rfl hl]
    · cases hl : lookP l (keyP m.ks 0) with
      | none => rw [doP_del0 hm k rfl hl]
      | some u => rw [doP_del1 hm k rfl hl]; show lookP (withoutP l _) j = _; rw [lookP_without, if_neg hk0]
    · rw [doP_add hm k rfl]
      unfold addP
      split
      · rfl
      · show lookP (withP l _ _) j = _; rw [lookP_with, if_neg hk0]
    · cases hl : lookP l (keyP m.ks 0) with
      | none => rw [doP_cas0 hm k rfl hl]
      | some u =>
        by_cases ho : u = m.old
        · rw [doP_cas2 hm k rfl hl ho]; show lookP (withP l _ _) j = _; rw [lookP_with, if_neg hk0]
        · rw [doP_cas1 hm k rfl hl ho]
    · rw [doP_swap hm k rfl rfl]
      show lookP (swapP l _ _) j = _
      rw [lookP_swap, if_neg (fun e => hj (by rw [e]; exact may_key1 hm k)), if_neg hk0]
    · rw [doP_join hm k]
    · rw [doP_clear hm k]; exact lookP_rest_out hj
theorem joinP_same {l n : List PV} {ks : List ByteArray} (h : ∀ k ∈ ks, lookP l k = lookP n k) : joinP l ks = joinP n ks := by
  unfold joinP
  induction ks with
  | nil => rfl
  | cons k ks ih => rw [List.flatMap_cons, List.flatMap_cons, ih fun j hj => h j (List.mem_cons_of_mem _ hj), h k (List.mem_cons_self ..)]
theorem doP_same {l n : List PV} (hl : SortedP l) (hn : SortedP n) {m : CM} (h : ∀ k ∈ m.ks, lookP l k = lookP n k) : (doP l m).2 = (doP n m).2 ∧ ∀ j ∈ m.ks, lookP (doP l m).1 j = lookP (doP n m).1 j := by
  cases hm : m.may with
  | false => unfold doP; rw [if_pos hm, if_pos hm]; exact ⟨rfl, h⟩
  | true =>
    have h0 := h _ (may_key hm)
    rcases may_kinds hm with k | k | k | k | k | k | k | k
    · rw [doP_put hm k rfl, doP_put hm k rfl]
      refine ⟨rfl, fun j hj => ?_⟩
      show lookP (withP l _ _) j = lookP (withP n _ _) j
      rw [lookP_with, lookP_with, h j hj]
    · cases hx : lookP l (keyP m.ks 0) with
      | none => rw [doP_get0 hm k rfl hx, doP_get0 hm k rfl (h0.symm.trans hx)]; exact ⟨rfl, h⟩
      | some u => rw [doP_get1 hm k rfl hx, doP_get1 hm k rfl (h0.symm.trans hx)]; exact ⟨rfl, h⟩
    · cases hx : lookP l (keyP m.ks 0) with
      | none => rw [doP_del0 hm k rfl hx, doP_del0 hm k rfl (h0.symm.trans hx)]; exact ⟨rfl, h⟩
      | some u =>
        rw [doP_del1 hm k rfl hx, doP_del1 hm k rfl (h0.symm.trans hx)]
        refine ⟨rfl, fun j hj => ?_⟩
        show lookP (withoutP l _) j = lookP (withoutP n _) j
        rw [lookP_without, lookP_without, h j hj]
    · rw [doP_add hm k rfl, doP_add hm k rfl]
      have hs : sumP l (keyP m.ks 0) m.n = sumP n (keyP m.ks 0) m.n := by unfold sumP seedP; rw [h0]
      unfold addP
      rw [hs]
      cases sumP n (keyP m.ks 0) m.n with
      | none => exact ⟨rfl, h⟩
      | some s =>
        refine ⟨rfl, fun j hj => ?_⟩
        show lookP (withP l _ _) j = lookP (withP n _ _) j
        rw [lookP_with, lookP_with, h j hj]
    · cases hx : lookP l (keyP m.ks 0) with
      | none => rw [doP_cas0 hm k rfl hx, doP_cas0 hm k rfl (h0.symm.trans hx)]; exact ⟨rfl, h⟩
      | some u =>
        by_cases ho : u = m.old
        · rw [doP_cas2 hm k rfl hx ho, doP_cas2 hm k rfl (h0.symm.trans hx) ho]
          refine ⟨rfl, fun j hj => ?_⟩
          show lookP (withP l _ _) j = lookP (withP n _ _) j
          rw [lookP_with, lookP_with, h j hj]
        · rw [doP_cas1 hm k rfl hx ho, doP_cas1 hm k rfl (h0.symm.trans hx) ho]; exact ⟨rfl, h⟩
    · rw [doP_swap hm k rfl rfl, doP_swap hm k rfl rfl]
      refine ⟨rfl, fun j hj => ?_⟩
      show lookP (swapP l _ _) j = lookP (swapP n _ _) j
      rw [lookP_swap, lookP_swap, h0, h _ (may_key1 hm k), h j hj]
    · rw [doP_join hm k, doP_join hm k, joinP_same h]; exact ⟨rfl, h⟩
    · rw [doP_clear hm k, doP_clear hm k]
      have hc := rest_count hl hn m.ks h
      refine ⟨?_, fun j hj => ?_⟩
      · show ((0, str (decI _)) : Nat × ByteArray) = (0, str (decI _))
        rw [show ((l.length : Int) - (restP l m.ks).length) = (n.length : Int) - (restP n m.ks).length by omega]
      · show lookP (restP l m.ks) j = lookP (restP n m.ks) j
        rw [lookP_rest_in hj, lookP_rest_in hj]
theorem doP_apart {l : List PV} (hl : SortedP l) {a b : CM} (hd : ∀ k ∈ a.ks, k ∉ b.ks) :
    (doP (doP l a).1 b).1 = (doP (doP l b).1 a).1 ∧ (doP l a).2 = (doP (doP l b).1 a).2 ∧ (doP (doP l a).1 b).2 = (doP l b).2 := by
  have hd' : ∀ k ∈ b.ks, k ∉ a.ks := fun k hk hk' => hd k hk' hk
  have sa := doP_sorted hl a
  have sb := doP_sorted hl b
  obtain ⟨r1, e1⟩ := doP_same sb hl (m := a) fun k hk => doP_out l (hd k hk)
  obtain ⟨r2, e2⟩ := doP_same sa hl (m := b) fun k hk => doP_out l (hd' k hk)
  refine ⟨SortedP.ext (doP_sorted sa b) (doP_sorted sb a) fun k => ?_, r1.symm, r2⟩
  by_cases hka : k ∈ a.ks
  · rw [doP_out _ (hd k hka), e1 k hka]
  · rw [doP_out _ hka]
    by_cases hkb : k ∈ b.ks
    · exact e2 k hkb
    · rw [doP_out _ hkb, doP_out _ hka, doP_out _ hkb]
theorem touchP_look (ks : List ByteArray) (k : ByteArray) : (lookP (touchP ks) k).isSome = true ↔ k ∈ ks := by
  have key : ∀ (ks : List ByteArray) (l : List PV), (lookP (ks.foldl (fun l k => withP l k ⟨#[]⟩) l) k).isSome = true ↔ k ∈ ks ∨ (lookP l k).isSome = true := by
    intro ks
    induction ks with
    | nil => intro l; simp
    | cons x ks ih =>
      intro l
      rw [List.foldl_cons, ih, lookP_with]
      by_cases h : k = x
      · simp [h]
      · simp [h]
  have := key ks []
  unfold touchP
  rw [this]
  simp [lookP_nil]
theorem touchP_sorted (ks : List ByteArray) : SortedP (touchP ks) := by
  have key : ∀ (ks : List ByteArray) (l : List PV), SortedP l → SortedP (ks.foldl (fun l k => withP l k ⟨#[]⟩) l) := by
    intro ks
    induction ks with
    | nil => intro l h; exact h
    | cons x ks ih => intro l h; exact ih _ (h.with_ _ _)
  exact key ks [] SortedP.nil
theorem lookP_of_mem {l : List PV} {k v : ByteArray} (h : (k, v) ∈ l) : (lookP l k).isSome = true := by
  induction l with
  | nil => cases h
  | cons p l ih =>
    rw [lookP_cons]
    rcases List.mem_cons.1 h with e | h
    · rw [← e, if_pos rfl]; rfl
    · split
      · rfl
      · exact ih h
theorem touchK_mem (ks : List ByteArray) (k : ByteArray) : k ∈ touchK ks ↔ k ∈ ks := by
  unfold touchK
  rw [List.mem_map, ← touchP_look ks k]
  constructor
  · rintro ⟨⟨a, v⟩, h, rfl⟩
    exact lookP_of_mem h
  · intro h
    obtain ⟨v, hv⟩ := Option.isSome_iff_exists.1 h
    exact ⟨(k, v), lookP_mem hv, rfl⟩
end Go.Proofs.YtfjmdkhemnmkpaaGreatDoor

namespace Go.Proofs.YtfjmdkhemnmkpaaGreatDoor
open Go.RowKit Go.Maps
def litB (b : ByteArray) : Lit := .string b.data.toList
def mapD (l : List PV) : DataW Unit := .map (l.map fun p => (litB p.1, .lit (litB p.2)))
theorem litB_inj {a b : ByteArray} : litB a = litB b ↔ a = b :=
  ⟨fun h => by
    have : a.data.toList = b.data.toList := by simpa [litB] using h
    exact ByteArray.ext (Array.ext' this), fun h => by rw [h]⟩
theorem same_litB (a b : ByteArray) : (litB a).sameKey (litB b) = decide (a = b) := by
  by_cases h : a = b
  · subst h; simp [litB, Lit.sameKey]
  · rw [decide_eq_false h]
    exact sameKey_ne (fun e => h (litB_inj.1 e))
theorem before_less : ∀ x y : List UInt8, bytesBefore x y = Op.bytesLess x y
  | [], [] => by simp [bytesBefore, Op.bytesLess]
  | [], _ :: _ => by simp [bytesBefore, Op.bytesLess]
  | _ :: _, [] => by simp [bytesBefore, Op.bytesLess]
  | a :: x, b :: y => by rw [bytesBefore, Op.bytesLess, before_less x y]
theorem before_litB (a b : ByteArray) : (litB a).before (litB b) = ltB a b := by
  rw [ltB, ByteArray.toList_eq, ByteArray.toList_eq]
  exact before_less _ _
theorem mapD_del (l : List PV) (k : ByteArray) : (mapD l).del (litB k) = mapD (withoutP l k) := by
  simp only [mapD, DataW.del, withoutP]
  congr 1
  rw [List.filter_map]
  congr 1
  refine List.filter_congr fun p _ => ?_
  simp [same_litB]
theorem insert_litB (k v : ByteArray) : ∀ r : List PV, (∀ p ∈ r, p.1 ≠ k) → DataW.insert (litB k, (.lit (litB v) : DataW Unit)) (r.map fun p => (litB p.1, .lit (litB p.2))) = (r.take (placeP r k) ++ (k, v) :: r.drop (placeP r k)).map fun p => (litB p.1, .lit (litB p.2))
  | [], _ => rfl
  | p :: r, h => by
    have hp := h p (List.mem_cons_self ..)
    have ih := insert_litB k v r (fun q hq => h q (List.mem_cons_of_mem _ hq))
    rw [List.map_cons, DataW.insert, before_litB]
    by_cases hl : ltB p.1 k = true
    · have hk : ltB k p.1 = false := by
        cases hh : ltB k p.1
        · rfl
        · have := ltB_trans hl hh
          rw [ltB_irr] at this
          cases this
      have hpl : placeP (p :: r) k = placeP r k + 1 := by simp [placeP, hl]
      rw [hpl, if_neg (by rw [hk]; decide), ih]
      rfl
    · have hl' : ltB p.1 k = false := by simpa using hl
      have hk := ltB_tot hp hl'
      have hpl : placeP (p :: r) k = 0 := by simp [placeP, hl']
      rw [hpl, if_pos hk]
      rfl
theorem mapD_put (l : List PV) (k v : ByteArray) : (mapD l).put (litB k) (.lit (litB v)) = mapD (withP l k v) := by
  have hd := mapD_del l k
  simp only [mapD, DataW.del, DataW.map.injEq] at hd
  simp only [mapD, DataW.put]
  rw [hd, insert_litB k v _ withoutP_ne]
  rfl
theorem find_litB (l : List PV) (k : ByteArray) : (l.map fun p => (litB p.1, (.lit (litB p.2) : DataW Unit))).find? (fun p => p.1.sameKey (litB k)) = (l.find? fun p => decide (p.1 = k)).map fun p => (litB p.1, .lit (litB p.2)) := by
  rw [List.find?_map]
  congr 2
  funext p
  simp [same_litB]
theorem mapD_at (l : List PV) (k : ByteArray) (z : DataW Unit) : (mapD l).atKey (litB k) z = (lookP l k).elim z fun v => .lit (litB v) := by
  simp only [mapD, DataW.atKey]
  rw [find_litB, lookP]
  cases l.find? fun p => decide (p.1 = k) <;> rfl
theorem mapD_has (l : List PV) (k : ByteArray) : has (mapD l) (litB k) = (lookP l k).isSome := by
  simp only [mapD, has_eq]
  rw [lookP, Option.isSome_map, List.any_map, Bool.eq_iff_iff, List.any_eq_true, List.find?_isSome]
  simp [same_litB]
theorem mapD_size (l : List PV) : size (mapD l) = l.length := by simp [mapD, size_eq]
theorem mapD_keys (l : List PV) : strKeys (mapD l) = l.map fun p => p.1.data.toList := by
  simp [mapD, strKeys, strOf, litB]
theorem less_lt : ∀ x y : List UInt8, Op.bytesLess x y = true ↔ x < y
  | [], [] => by simp [Op.bytesLess]
  | [], _ :: _ => by simp [Op.bytesLess]
  | _ :: _, [] => by simp [Op.bytesLess]
  | a :: x, b :: y => by
    rw [Op.bytesLess, List.cons_lt_cons_iff, ← less_lt x y]
    simp
theorem sorted_keys {l : List PV} (h : SortedP l) {ss : List (List UInt8)} (hp : ss.Perm (strKeys (mapD l))) : (ss.mergeSort Go.leB).map encStr = l.map fun p => .string p.1 := by
  rw [mergeSort_of_perm hp, mapD_keys]
  have hs : (l.map fun p => p.1.data.toList).Pairwise fun x y => Go.leB x y = true := by
    refine List.pairwise_map.2 (h.imp fun {a b} hab => ?_)
    rw [ltB, ByteArray.toList_eq, ByteArray.toList_eq] at hab
    have := (less_lt _ _).1 hab
    exact decide_eq_true (List.le_of_lt this)
  rw [List.mergeSort_of_pairwise hs, List.map_map]
  refine List.map_congr_left fun p _ => ?_
  simp [encStr]
theorem keyedS : Maps.Keyed Tryz.prog 9 := Maps.string_keyed Tryz.underlying9
theorem keyL {s : ByteArray} (hs : s.size ≤ maxLen) : keyOf Tryz.prog 9 (.string s) = some (litB s) := WideMaps.keyOf_string_mk Tryz.underlying9 hs
end Go.Proofs.YtfjmdkhemnmkpaaGreatDoor

namespace Go.Proofs.YtfjmdkhemnmkpaaGreatDoor
open Go.RowKit
def CmdV.great (a : CmdV) : Prop := 500 < a.old.size ∨ 500 < a.new.size ∨ 100 < a.ks.length ∨ ∃ j, ∃ h : j < a.ks.length, 500 < (a.ks[j]).size
def GreatC (l : List CmdV) : Prop := 100 < l.length ∨ ∃ j, ∃ h : j < l.length, (l[j]).great
def CmdV.greatB (a : CmdV) : Bool := decide (500 < a.old.size) || decide (500 < a.new.size) || decide (100 < a.ks.length) || a.ks.any fun k => decide (500 < k.size)
def GreatB (l : List CmdV) : Bool := decide (100 < l.length) || l.any CmdV.greatB
theorem CmdV.greatB_iff {a : CmdV} : a.greatB = true ↔ a.great := by
  simp only [CmdV.greatB, CmdV.great, Bool.or_eq_true, decide_eq_true_eq, List.any_eq_true, or_assoc, List.mem_iff_getElem]
  constructor
  · rintro (h | h | h | ⟨k, ⟨j, hj, rfl⟩, h⟩)
    · exact .inl h
    · exact .inr (.inl h)
    · exact .inr (.inr (.inl h))
    · exact .inr (.inr (.inr ⟨j, hj, h⟩))
  · rintro (h | h | h | ⟨j, hj, h⟩)
    · exact .inl h
    · exact .inr (.inl h)
    · exact .inr (.inr (.inl h))
    · exact .inr (.inr (.inr ⟨_, ⟨j, hj, rfl⟩, h⟩))
theorem GreatB_iff {l : List CmdV} : GreatB l = true ↔ GreatC l := by
  simp only [GreatB, GreatC, Bool.or_eq_true, decide_eq_true_eq, List.any_eq_true, List.mem_iff_getElem]
  constructor
  · rintro (h | ⟨a, ⟨j, hj, rfl⟩, h⟩)
    · exact .inl h
    · exact .inr ⟨j, hj, CmdV.greatB_iff.1 h⟩
  · rintro (h | ⟨j, hj, h⟩)
    · exact .inl h
    · exact .inr ⟨_, ⟨j, hj, rfl⟩, CmdV.greatB_iff.2 h⟩
end Go.Proofs.YtfjmdkhemnmkpaaGreatDoor

namespace Go.Proofs.YtfjmdkhemnmkpaaGreatDoor
open Go.RowKit
structure LimP (l : List PV) : Prop where
  len : l.length ≤ 5000
  each : ∀ p ∈ l, p.1.size ≤ 1000 ∧ p.2.size ≤ 1000
def ReplyV (r : Nat × ByteArray) : Value := .agg #[.int .u8 (r.1 : Int), .string r.2]
structure TxtS (w : World) (v : Value) (l : List ByteArray) : Prop where
  ex : ∃ A L c, v = .slice A L c ∧ L = l.length ∧ L ≤ c ∧ HasS w A l
end Go.Proofs.YtfjmdkhemnmkpaaGreatDoor
namespace Go.Proofs.YtfjmdkhemnmkpaaGreatDoor
open Go.RowKit
end Go.Proofs.YtfjmdkhemnmkpaaGreatDoor
namespace Go.Proofs.YtfjmdkhemnmkpaaGreatDoor
open Go.RowKit
abbrev kA : ByteArray := ⟨#[97]⟩
abbrev kB : ByteArray := ⟨#[98]⟩
abbrev k7 : ByteArray := ⟨#[55]⟩
abbrev kE : ByteArray := ⟨#[]⟩
end Go.Proofs.YtfjmdkhemnmkpaaGreatDoor
namespace Go.Proofs.YtfjmdkhemnmkpaaGreatDoor
open Go.RowKit
def wv (S kd L : Nat) (ks : List ByteArray) (new : ByteArray) (n : Int) : CmdV := ⟨1, 0, kd, some ⟨S, 0, none⟩, L, L, ks, kE, new, n⟩
end Go.Proofs.YtfjmdkhemnmkpaaGreatDoor
