/- Plain mathematics of reading commands: one, and a batch; what Parse comes to. -/
import Derived.Test.YtfaplmpenlbajaaDoorRdMath
import Derived.Test.YtfaplmpenlbajaaDoorCmK
namespace Go.Proofs.YtfaplmpenlbajaaDoor

def cmdR (lim : Nat) : RdS → CM × RdS := bindR uR fun cl => bindR uR fun sq => bindR uR fun kd => bindR uR fun n => bindR (manyR (tR lim) n) fun ks => bindR (tR lim) fun o => bindR (tR lim) fun x => bindR iR fun i => pureR ⟨cl, sq, kd, ks, o, x, i⟩
def batR (lim : Nat) : RdS → List CM × RdS := bindR uR fun n => manyR (cmdR lim) n

theorem cmdR_stays (lim : Nat) : Stays (cmdR lim) :=
  Stays.u.bind fun _ => Stays.u.bind fun _ => Stays.u.bind fun _ => Stays.u.bind fun n => ((Stays.t lim).many n).bind fun _ => (Stays.t lim).bind fun _ => (Stays.t lim).bind fun _ => Stays.i.bind fun _ => Stays.pure _
theorem cmdR_errs (lim : Nat) : Errs (cmdR lim) :=
  Errs.u.bind fun _ => Errs.u.bind fun _ => Errs.u.bind fun _ => Errs.u.bind fun n => ((Errs.t lim).many n).bind fun _ => (Errs.t lim).bind fun _ => (Errs.t lim).bind fun _ => Errs.i.bind fun _ => Errs.pure _
theorem batR_errs (lim : Nat) : Errs (batR lim) := Errs.u.bind fun n => (cmdR_errs lim).many n
theorem cmdR_good {lim : Nat} {m : CM} (hw : m.Wf) (hl : lim < 18446744073709551616) (hk : ∀ k ∈ m.ks, k.size ≤ lim) (ho : m.old.size ≤ lim) (hn : m.new.size ≤ lim) (hlen : m.ks.length < 18446744073709551616) : Good (cmdR lim) m.one m := by
  have e : m.one = vb m.cl ++ (vb m.sq ++ (vb m.kd ++ (vb m.ks.length ++ (m.ks.flatMap txt ++ (txt m.old ++ (txt m.new ++ (vb (foldN m.n)))))))) := by simp only [CM.one, List.append_assoc]
  have h1 := hw.cl; have h2 := hw.sq; have h3 := hw.kd
  rw [e]
  refine (Good.u (by omega)).bind ((Good.u (by omega)).bind ((Good.u (by omega)).bind ((Good.u hlen).bind ((Good.many m.ks (fun k h => Good.t (hk k h) hl)).bind ((Good.t ho hl).bind ((Good.t hn hl).bind ((Good.i hw.n.1 hw.n.2).bindNil (Good.pure _) ?_) ?_) ?_) ?_) ?_) ?_) ?_) ?_
  · exact fun _ => Stays.pure _
  · exact fun _ => Stays.i.bind fun _ => Stays.pure _
  · exact fun _ => (Stays.t lim).bind fun _ => Stays.i.bind fun _ => Stays.pure _
  · exact fun _ => (Stays.t lim).bind fun _ => (Stays.t lim).bind fun _ => Stays.i.bind fun _ => Stays.pure _
  · exact fun n => ((Stays.t lim).many n).bind fun _ => (Stays.t lim).bind fun _ => (Stays.t lim).bind fun _ => Stays.i.bind fun _ => Stays.pure _
  · exact fun _ => Stays.u.bind fun n => ((Stays.t lim).many n).bind fun _ => (Stays.t lim).bind fun _ => (Stays.t lim).bind fun _ => Stays.i.bind fun _ => Stays.pure _
  · exact fun _ => Stays.u.bind fun _ => Stays.u.bind fun n => ((Stays.t lim).many n).bind fun _ => (Stays.t lim).bind fun _ => (Stays.t lim).bind fun _ => Stays.i.bind fun _ => Stays.pure _
  · exact fun _ => Stays.u.bind fun _ => Stays.u.bind fun _ => Stays.u.bind fun n => ((Stays.t lim).many n).bind fun _ => (Stays.t lim).bind fun _ => (Stays.t lim).bind fun _ => Stays.i.bind fun _ => Stays.pure _
theorem cmdR_puts (lim : Nat) : Puts (cmdR lim) CM.one := fun s h => by
  unfold cmdR bindR pureR at h ⊢
  dsimp only at h ⊢
  obtain ⟨a8, b8⟩ := Puts.i _ h
  obtain ⟨a7, b7⟩ := Puts.t lim _ a8
  obtain ⟨a6, b6⟩ := Puts.t lim _ a7
  obtain ⟨a5, b5, c5⟩ := Puts.many (Puts.t lim) _ _ a6
  obtain ⟨a4, b4⟩ := Puts.u _ a5
  obtain ⟨a3, b3⟩ := Puts.u _ a4
  obtain ⟨a2, b2⟩ := Puts.u _ a3
  obtain ⟨a1, b1⟩ := Puts.u _ a2
  refine ⟨a1, ?_⟩
  rw [CM.one]
  dsimp only
  rw [c5]
  simp only [List.append_assoc]
  rw [← b8, ← b7, ← b6, ← b5, ← b4, ← b3, ← b2, ← b1]
theorem batR_puts (lim : Nat) : Puts (batR lim) batchM := fun s h => by
  unfold batR bindR at h ⊢
  obtain ⟨a2, b2, c2⟩ := Puts.many (cmdR_puts lim) _ _ h
  obtain ⟨a1, b1⟩ := Puts.u _ a2
  refine ⟨a1, ?_⟩
  rw [batchM, c2, List.append_assoc, ← b2]
  exact b1
theorem batR_good {lim : Nat} {l : List CM} (hl : lim < 18446744073709551616) (h64 : 64 ≤ lim) (hm : MayB l) (hw : ∀ m ∈ l, m.Wf) : Good (batR lim) (batchM l) l :=
  (Good.u (by have := hm.len; omega)).bind (Good.many l (fun m hm' => by
    have hy := hm.each m hm'
    exact cmdR_good (hw m hm') hl (fun k hk => by have := (hy.each k hk).2; omega) (by have := hy.old; omega) (by have := hy.new; omega) (by have := hy.len.2; have := mostK_le m.kd; omega))) (fun n => (cmdR_stays lim).many n)

open Classical in
/-- What Parse tells of bytes: the error's number. -/
noncomputable def prsN (bs : List UInt8) : Nat := if (batR 64 ⟨0, bs⟩).2.done ≠ 0 then (batR 64 ⟨0, bs⟩).2.done else if MayB (batR 64 ⟨0, bs⟩).1 ∧ ∀ m ∈ (batR 64 ⟨0, bs⟩).1, m.Wf then 0 else 11
theorem done_cases {s : RdS} (h : s.e = 0 ∨ s.e = 10 ∨ s.e = 11) : s.done = 0 ∨ s.done = 10 ∨ s.done = 11 := by
  unfold RdS.done
  split
  · split
    · exact .inl rfl
    · exact .inr (.inr rfl)
  · exact h
theorem done_zero {s : RdS} (h : s.done = 0) : s.e = 0 ∧ s.bs = [] := by
  unfold RdS.done at h
  split at h
  · rename_i h0
    split at h
    · rename_i h1; exact ⟨h0, h1⟩
    · cases h
  · rename_i h0; exact absurd h h0
open Classical in
theorem parse_spec {bs : List UInt8} {l : List CmdV} {n : Nat} (hn : n = prsN bs) (hl : n = 0 → l.map CmdV.m = (batR 64 ⟨0, bs⟩).1) (h0 : n ≠ 0 → l = []) : ParseR bs l n := by
  obtain ⟨r, hr⟩ : ∃ r, r = batR 64 ⟨0, bs⟩ := ⟨_, rfl⟩
  have he := batR_errs 64 ⟨0, bs⟩ (.inl rfl)
  rw [← hr] at he hl
  have hd := done_cases he
  have hne : n = if r.2.done ≠ 0 then r.2.done else if MayB r.1 ∧ ∀ m ∈ r.1, m.Wf then 0 else 11 := by rw [hn, prsN, hr]
  refine ⟨fun h => ?_, fun h => ⟨h0 h, ?_⟩, fun ms hm hw hb => ?_, fun ms hm hw hb => ?_, fun ms hm hw hb => ?_⟩
  · rw [h] at hne
    by_cases hd0 : r.2.done ≠ 0
    · rw [if_pos hd0] at hne; exact absurd hne.symm hd0
    · rw [if_neg hd0] at hne
      have hd1 : r.2.done = 0 := Decidable.not_not.1 hd0
      split at hne
      · rename_i hm
        rw [hl h]
        obtain ⟨e1, e2⟩ := done_zero hd1
        obtain ⟨_, k2⟩ := batR_puts 64 ⟨0, bs⟩ (by rw [← hr]; exact e1)
        rw [← hr, e2, List.append_nil] at k2
        exact ⟨hm.1, k2⟩
      · cases hne
  · by_cases hd0 : r.2.done ≠ 0
    · rw [if_pos hd0] at hne
      rw [hne]
      rcases hd with h1 | h1
      · exact absurd h1 hd0
      · exact h1
    · rw [if_neg hd0] at hne
      split at hne
      · exact absurd hne h
      · exact .inr hne
  · have hg := (batR_good (lim := 64) (by omega) (Nat.le_refl _) hm hw).all []
    rw [List.append_nil, ← hb, ← hr] at hg
    rw [hg] at hne hl
    have : n = 0 := by
      rw [hne, if_neg (by simp [RdS.done]), if_pos ⟨hm, hw⟩]
    exact ⟨this, hl this⟩
  · have hg := (batR_good (lim := 64) (by omega) (Nat.le_refl _) hm hw).all [0]
    rw [← hb, ← hr] at hg
    rw [hg] at hne
    rw [hne, if_pos (by simp [RdS.done])]
    simp [RdS.done]
  · have hpos : 0 < (batchM ms).length := by
      rw [batchM, List.length_append]
      have := List.length_pos_iff.2 (vb_ne ms.length)
      omega
    have hc := (batR_good (lim := 64) (by omega) (Nat.le_refl _) hm hw).cut ((batchM ms).length - 1) (by omega)
    rw [← hb, ← hr] at hc
    rw [hc] at hne
    rw [hne, if_pos (by simp [RdS.done])]
    simp [RdS.done]
end Go.Proofs.YtfaplmpenlbajaaDoor
