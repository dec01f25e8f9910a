/- States behind commands: keys and values are of the lengths that the document asks. -/
import Derived.Test.YtfkdlmokigeemaaGreatDoorMKvP
namespace Go.Proofs.YtfkdlmokigeemaaGreatDoor
open Go.RowKit

/-- Keys of 1 to 32 bytes, values of at most 64. -/
structure TightP (l : List PV) : Prop where
  each : ∀ p ∈ l, 1 ≤ p.1.size ∧ p.1.size ≤ 32 ∧ p.2.size ≤ 64
theorem TightP.nil : TightP [] := ⟨fun p hp => by cases hp⟩
theorem TightP.without {l : List PV} (h : TightP l) (k : ByteArray) : TightP (withoutP l k) := ⟨fun p hp => h.each p (List.mem_filter.1 hp).1⟩
theorem TightP.with_ {l : List PV} (h : TightP l) {k v : ByteArray} (hk : 1 ≤ k.size ∧ k.size ≤ 32) (hv : v.size ≤ 64) : TightP (withP l k v) := by
  refine ⟨fun p hp => ?_⟩
  unfold withP at hp
  rcases List.mem_append.1 hp with hp | hp
  · exact h.each p (List.mem_filter.1 (List.mem_of_mem_take hp)).1
  · rcases List.mem_cons.1 hp with rfl | hp
    · exact ⟨hk.1, hk.2, hv⟩
    · exact h.each p (List.mem_filter.1 (List.mem_of_mem_drop hp)).1
theorem TightP.look {l : List PV} (h : TightP l) {k v : ByteArray} (hv : lookP l k = some v) : v.size ≤ 64 := (h.each _ (lookP_mem hv)).2.2
theorem TightP.put {l : List PV} (h : TightP l) {k : ByteArray} {v : Option ByteArray} (hk : 1 ≤ k.size ∧ k.size ≤ 32) (hv : ∀ u, v = some u → u.size ≤ 64) : TightP (putP l k v) := by
  cases v with
  | none => exact h
  | some u => exact h.with_ hk (hv u rfl)
theorem TightP.rest {l : List PV} (h : TightP l) (ks : List ByteArray) : TightP (restP l ks) := by
  unfold restP
  induction ks generalizing l with
  | nil => exact h
  | cons k ks ih => exact ih (h.without k)
theorem TightP.doP {l : List PV} (h : TightP l) (m : CM) : TightP (doP l m).1 := by
  cases hm : m.may with
  | false => unfold Go.Proofs.YtfkdlmokigeemaaGreatDoor.doP; rw [if_pos hm]; exact h
  | true =>
    have hM := CM.may_iff.1 hm
    have hk0 : 1 ≤ (keyP m.ks 0).size ∧ (keyP m.ks 0).size ≤ 32 := hM.each _ (may_key hm)
    have hnew : m.new.size ≤ 64 := hM.new
    rcases may_kinds hm with k | k | k | k | k | k | k | k
    · rw [doP_put hm k rfl]; exact (h.with_ hk0 hnew)
    · cases hl : lookP l (keyP m.ks 0) with
      | none => rw [doP_get0 hm k rfl hl]; exact h
      | some u => rw [doP_get1 hm k rfl hl]; exact h
    · cases hl : lookP l (keyP m.ks 0) with
      | none => rw [doP_del0 hm k rfl hl]; exact h
      | some u => rw [doP_del1 hm k rfl hl]; exact (h.without _)
    · rw [doP_add hm k rfl]
      unfold addP
      cases hs : sumP l (keyP m.ks 0) m.n with
      | none => exact h
      | some s =>
        refine (h.with_ hk0 ?_)
        have hr : -9223372036854775808 ≤ s ∧ s ≤ 9223372036854775807 := by
          unfold sumP at hs
          split at hs
          · cases hs
          · split at hs
            · rename_i h'
              cases hs; exact h'
            · cases hs
        rw [str_size]
        have := decI_len hr.1 hr.2
        omega
    · cases hl : lookP l (keyP m.ks 0) with
      | none => rw [doP_cas0 hm k rfl hl]; exact h
      | some u =>
        by_cases ho : u = m.old
        · rw [doP_cas2 hm k rfl hl ho]; exact (h.with_ hk0 hnew)
        · rw [doP_cas1 hm k rfl hl ho]; exact h
    · rw [doP_swap hm k rfl rfl]
      have hk1 : 1 ≤ (keyP m.ks 1).size ∧ (keyP m.ks 1).size ≤ 32 := hM.each _ (may_key1 hm k)
      unfold swapP
      exact (((h.without _).without _).put hk0 (fun u hu => h.look hu)).put hk1 (fun u hu => h.look hu)
    · rw [doP_join hm k]; exact h
    · rw [doP_clear hm k]; exact (h.rest _)
theorem runP_tight (ms : List CM) (j : Nat) : TightP (runP [] (ms.take j)) := by
  induction j with
  | zero => exact TightP.nil
  | succ j ih =>
    by_cases h : j < ms.length
    · rw [runP_succ h]; exact ih.doP _
    · have e : ms.take (j + 1) = ms.take j := by rw [List.take_of_length_le (by omega), List.take_of_length_le (by omega)]
      rw [e]; exact ih
theorem TightP.bytes {l : List PV} (h : TightP l) (hl : l.length ≤ 5000) : (bytesP l).length ≤ 10 + l.length * 120 := by
  have key : ∀ l : List PV, (∀ p ∈ l, 1 ≤ p.1.size ∧ p.1.size ≤ 32 ∧ p.2.size ≤ 64) → (l.flatMap pairB).length ≤ l.length * 120 := by
    intro l
    induction l with
    | nil => intro _; simp
    | cons p l ih =>
      intro hp
      have h0 := hp p (List.mem_cons_self ..)
      have h1 := ih (fun q hq => hp q (List.mem_cons_of_mem _ hq))
      have h2 : (pairB p).length ≤ 120 := by
        have a1 := vb_len10 (n := p.1.size) (by omega)
        have a2 := vb_len10 (n := p.2.size) (by omega)
        have b1 : p.1.data.toList.length = p.1.size := by simp
        have b2 : p.2.data.toList.length = p.2.size := by simp
        unfold pairB txt
        simp only [List.length_append]
        omega
      rw [List.flatMap_cons, List.length_append, List.length_cons]
      omega
  have h1 := key l h.each
  have h2 := vb_len10 (n := l.length) (by omega)
  unfold bytesP
  rw [List.length_append]
  omega
end Go.Proofs.YtfkdlmokigeemaaGreatDoor
