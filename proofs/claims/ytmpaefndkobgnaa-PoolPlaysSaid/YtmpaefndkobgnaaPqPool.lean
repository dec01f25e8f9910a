/- The program's pool keeps what the walks of the laws ask of it. -/
import Derived.Test.YtmpaefndkobgnaaPqNew
import Derived.Test.YtmpaefndkobgnaaPqGet
namespace Go.Proofs.Ytmpaefndkobgnaa
open Go.RowKit

def LPl (F : Nat → Prop) (w : World) (R : Nat) (s : QS) : Prop := ∃ gU cU gB gF cF, LQ w R gU cU gB gF cF s ∧ ∀ k, F k ↔ FL R gU gB gF k
theorem good_pos {s : QS} {i : Int} {g : Nat} (h : s.good i g = true) : ∃ k : Nat, i = (k : Int) ∧ k < s.n := by
  obtain ⟨k, h1, h2, _⟩ := QS.good_lt h
  exact ⟨k, h1, h2⟩
def lPool : PoolK where
  Pl := LPl
  keep := by
    rintro F G w w' R s ⟨gU, cU, gB, gF, cF, h, hF⟩ ho hn
    exact ⟨gU, cU, gB, gF, cF, h.only ho (fun k hk => hn k ((hF k).2 hk)), hF⟩
  lt := by
    rintro F w R s ⟨gU, cU, gB, gF, cF, h, hF⟩ k hk
    exact h.lt k ((hF k).1 hk)
  new_ok := by
    intro n sz w h1 h2 h3 h4
    refine (l_New_ok n sz h1 h2 h3 h4 w).mono ?_
    rintro e w' ⟨R, gU, gB, gF, rfl, hq, hb, hw⟩
    exact ⟨FL R gU gB gF, R, rfl, ⟨gU, n, gB, gF, n, hq, fun _ => Iff.rfl⟩, hb, hw⟩
  new_bad := fun n sz w hn hsz hbad => l_New_bad n sz hn hsz hbad w
  get_none := by
    rintro F w R s ⟨gU, cU, gB, gF, cF, h, hF⟩ hN
    refine (l_Get_none h hN).mono ?_
    rintro e w' ⟨rfl, hb⟩
    exact ⟨rfl, F, ⟨gU, cU, gB, gF, cF, h.grew hb, hF⟩, Only.of_grew hb, fun k hk => .inl hk⟩
  get_one := by
    rintro F w R s i N' ⟨gU, cU, gB, gF, cF, h, hF⟩ hN
    refine (l_Get_one h i N' hN).mono ?_
    rintro e w' ⟨rfl, hq, ho⟩
    exact ⟨rfl, F, ⟨gU, cU, gB, gF, cF, hq, hF⟩, ho.mono (fun k _ hk => (hF k).2 hk), fun k hk => .inl hk⟩
  back := by
    rintro F w R s i g ⟨gU, cU, gB, gF, cF, h, hF⟩ hi hg hroom
    cases hgd : s.good i g with
    | false =>
      refine (l_Back_bad h i g hi hg hgd).mono ?_
      rintro e w' ⟨rfl, hb⟩
      rw [QS.backR, QS.backS, hgd]
      exact ⟨rfl, F, ⟨gU, cU, gB, gF, cF, h.grew hb, hF⟩, Only.of_grew hb, fun k hk => .inl hk⟩
    | true =>
      obtain ⟨k, rfl, hk⟩ := good_pos hgd
      refine (l_Back_good h k g hk hg hgd (hroom hgd)).mono ?_
      rintro e w' ⟨rfl, gF', cF', hq, ho, hgF⟩
      rw [QS.backR, QS.backS, hgd]
      refine ⟨rfl, FL R gU gB gF', ⟨gU, cU, gB, gF', cF', hq, fun _ => Iff.rfl⟩, ho.mono (fun k _ hk => (hF k).2 hk), ?_⟩
      rintro j (e | e | e | e)
      · exact .inl ((hF j).2 (.inl e))
      · exact .inl ((hF j).2 (.inr (.inl e)))
      · exact .inl ((hF j).2 (.inr (.inr (.inl e))))
      · rcases hgF with e' | e'
        · exact .inl ((hF j).2 (.inr (.inr (.inr (e.trans e')))))
        · exact .inr (by rw [e]; exact e')
  set := by
    rintro F w R s i g A L c x ⟨gU, cU, gB, gF, cF, h, hF⟩ hi hg hL hLm hLc hA hAF
    cases hgd : s.good i g with
    | false =>
      refine (l_Set_bad h i g hi hg hgd A L c).mono ?_
      rintro e w' ⟨rfl, hb⟩
      rw [QS.setR, QS.setS, hgd]
      exact ⟨rfl, F, ⟨gU, cU, gB, gF, cF, h.grew hb, hF⟩, Only.of_grew hb, fun k hk => .inl hk⟩
    | true =>
      obtain ⟨k, rfl, hk⟩ := good_pos hgd
      refine (l_Set_good h k g hk hg hgd A L c x hL hLm hLc hA (fun b o e hb => hAF b o e ((hF b).2 hb))).mono ?_
      rintro e w' ⟨rfl, hq, ho⟩
      rw [QS.setR, QS.setS, hgd]
      refine ⟨?_, F, ⟨gU, cU, gB, gF, cF, hq, hF⟩, ho.mono (fun k _ hk => (hF k).2 hk), fun k hk => .inl hk⟩
      rw [if_pos rfl]
      by_cases hl : s.sz < x.length
      · rw [if_pos hl, if_pos hl]; rfl
      · rw [if_neg hl, if_neg hl]; rfl
  bytes_ok := by
    rintro F w R s i g ⟨gU, cU, gB, gF, cF, h, hF⟩ hi hg hgd
    obtain ⟨k, rfl, hk⟩ := good_pos hgd
    refine (l_Bytes_good h k g hk hg hgd).mono ?_
    rintro e w' ⟨q, rfl, ho, hq, hb, hqb⟩
    refine ⟨_, _, rfl, ho, F, ⟨gU, cU, gB, gF, cF, hq, hF⟩, Only.of_grew hb, fun k hk => .inl hk, fun j e hj => ?_⟩
    cases e
    exact absurd (h.lt _ ((hF _).1 hj)) (Nat.not_lt.2 hqb)
  bytes_bad := by
    rintro F w R s i g ⟨gU, cU, gB, gF, cF, h, hF⟩ hi hg hgd
    refine (l_Bytes_bad h i g hi hg hgd).mono ?_
    rintro e w' ⟨rfl, hb⟩
    exact ⟨none, 0, rfl, F, ⟨gU, cU, gB, gF, cF, h.grew hb, hF⟩, Only.of_grew hb, fun k hk => .inl hk⟩
  free := by
    rintro F w R s ⟨gU, cU, gB, gF, cF, h, hF⟩
    exact l_Free h
  nil_get := l_Get_nil
  nil_back := fun w => l_Back_nil w 0 0
  nil_set := fun w => l_Set_nil w 0 0 none 0 0
  nil_bytes := fun w => (l_Bytes_nil w 0 0).mono fun e w' ⟨he, hb⟩ => ⟨none, 0, he, hb⟩
  nil_free := l_Free_nil
end Go.Proofs.Ytmpaefndkobgnaa
