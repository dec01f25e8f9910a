/- The reference's Waves. -/
import Derived.Test.YtooaobadnainkaaKsTlR
import Derived.Test.YtooaobadnainkaaKsRf
import Derived.Deep.DeepCutAuto
import Derived.OwnWalk
namespace Go.Proofs.Ytooaobadnainkaa
open Go.RowKit

theorem nextW_succ {acc : List (CM × Nat)} {k : Nat} (h : k < acc.length) (m : CM) : nextW (acc.take (k + 1)) m = if wayM acc[k].1 m = true then max (nextW (acc.take k) m) (acc[k].2 + 1) else nextW (acc.take k) m := by
  unfold nextW
  rw [List.take_succ_eq_append_getElem h, List.foldl_append]
  rfl
theorem nextW_le {acc : List (CM × Nat)} {m : CM} {B : Nat} (h : ∀ p ∈ acc, p.2 + 1 ≤ B) : nextW acc m ≤ B := by
  rcases fold_is m acc 0 with e | ⟨p, hp, _, e⟩
  · unfold nextW; omega
  · have := h p hp; unfold nextW; omega
theorem wavesM_get {l : List CM} {n k : Nat} (hk : k < n) (hn : n ≤ l.length) : ∃ h : k < (wavesM (l.take n)).length, (wavesM (l.take n))[k] = (l[k]'(by omega), waveI l k) := by
  have hlen : (wavesM (l.take n)).length = n := by rw [wavesM_len]; simp; omega
  refine ⟨by omega, ?_⟩
  have h1 := wavesM_at (l := l) (i := k) (by omega)
  rw [wavesM_prefix l n hn, List.getElem?_append_left (by omega), List.getElem?_eq_getElem (by omega)] at h1
  rw [Option.some.inj h1, ← waveI_at]
theorem wavesI_take {l : List CM} {n : Nat} (hn : n < l.length) : wavesI (l.take (n + 1)) = wavesI (l.take n) ++ [waveI l n] := by
  unfold wavesI
  rw [wavesM_succ hn, List.map_append, waveI_at hn]
  rfl
theorem wavesI_get {l : List CM} {n k : Nat} (hk : k < n) (hn : n ≤ l.length) : ∃ h : k < (wavesI (l.take n)).length, (wavesI (l.take n))[k] = waveI l k := by
  obtain ⟨h, e⟩ := wavesM_get hk hn
  refine ⟨by unfold wavesI; rw [List.length_map]; exact h, ?_⟩
  unfold wavesI
  rw [List.getElem_map, e]
set_option maxRecDepth 100000 in
set_option maxHeartbeats 4000000 in
theorem refWaves_any (A : Option Addr) (L c : Nat) (l : List CmdV) (w : World) (hl : L = l.length) (hL : L ≤ 100) (hA : HasC w A l) (hng : ∀ v ∈ l, ¬ v.great) :
    Calls Try.prog 8 #[.slice A L c] w fun e W' => ∃ x, e = .returned x ∧ OwnI w.heap.size W' x (wavesI (l.map (·.m))) ∧ Below w.heap.size w W' := by
  obtain ⟨ms, hms⟩ : ∃ ms, ms = l.map (·.m) := ⟨_, rfl⟩
  rw [← hms]
  have hmsl : ms.length = L := by rw [hms, List.length_map]; exact hl.symm
  have HM := Lib.hid (And.intro hms (And.intro hmsl hl))
  have HA := Lib.hid hA
  have NG := Lib.hid hng
  have hLi : (L : Int) ≤ 100 := by omega
  clear hms hmsl hl hA hng
  go_enter Try.func8, Try.ntmps8
  go_wp2
  go_loopw [3, 4] (fun s3 i wr => ∃ (n : Nat) (A3 : Option Addr) (c3 : Nat), n ≤ L ∧ i = .int .i64 (n : Int) ∧ s3 = .slice A3 n c3 ∧ Hid (OwnI w.heap.size wr (.slice A3 n c3) (wavesI (ms.take n)) ∧ Below w.heap.size w wr)) (fun _ i _ => L - (intOf i).toNat)
  case atStart => exact ⟨0, none, 0, Nat.zero_le _, rfl, rfl, Lib.hid ⟨by simpa [wavesI, wavesM] using OwnI.nil _ _, Below.refl _ _⟩⟩
  case round =>
    obtain ⟨n, A3, c3, hn, rfl, rfl, HO⟩ := hrel
    by_cases hlt : n < L
    · have hni : (n : Int) < L := by omega
      have hn1 : n < l.length := by have := HM.out.2.2; omega
      obtain ⟨b, o, e1, hb0, fC⟩ := HA.out (by rintro rfl; simp at hn1)
      subst e1
      obtain ⟨y, hy⟩ : ∃ y, y = l[n] := ⟨_, rfl⟩
      have hym : (ms[n]'(by have := HM.out.2.1; omega)) = y.m := by simp only [HM.out.1, List.getElem_map, hy]
      have FC := Lib.hid (And.intro hb0 (And.intro fC (And.intro hy hym)))
      clear hb0 fC hy hym
      obtain ⟨wo, rfl⟩ : ∃ x, x = wr := ⟨_, rfl⟩
      go_wp2
      go_loopw [5, 6] (fun s5 i wx => ∃ k : Nat, k ≤ n ∧ i = .int .i64 (k : Int) ∧ s5 = .int .i64 (nextW ((wavesM (ms.take n)).take k) y.m : Int) ∧ Hid (Below wo.heap.size wo wx)) (fun _ i _ => n - (intOf i).toNat)
      case atStart => exact ⟨0, Nat.zero_le _, rfl, rfl, Lib.hid (Below.refl _ _)⟩
      case round =>
        obtain ⟨k, hk, rfl, rfl, HX⟩ := hrel
        by_cases hkl : k < n
        · have hki : (k : Int) < n := by omega
          have hk1 : k < l.length := by omega
          have hnm : n ≤ ms.length := by have := HM.out.2.1; omega
          obtain ⟨h1, e1⟩ := wavesM_get hkl hnm
          obtain ⟨h2, e2⟩ := wavesI_get hkl hnm
          have hns := nextW_succ h1 y.m
          rw [e1] at hns
          obtain ⟨x, hx⟩ : ∃ x, x = l[k] := ⟨_, rfl⟩
          have hxm : (ms[k]'(by omega)) = x.m := by simp only [HM.out.1, List.getElem_map, hx]
          rw [hxm] at hns
          have hHI := HO.out.1.has
          obtain ⟨g, go, eg, hgl, fI⟩ := hHI (by intro e; rw [e] at h2; simp at h2)
          subst eg
          have cI := fI k h2
          rw [e2] at cI
          have hwl := waveI_le (l := ms) k (by omega)
          have hB : nextW ((wavesM (ms.take n)).take k) y.m ≤ n := nextW_le (fun p hp => by
            obtain ⟨j, hj, rfl⟩ := List.mem_iff_getElem.1 (List.mem_of_mem_take hp)
            have hlen : (wavesM (ms.take n)).length = n := by rw [wavesM_len]; simp; omega
            obtain ⟨h3, e3⟩ := wavesM_get (l := ms) (n := n) (k := j) (by omega) hnm
            rw [e3]
            have := waveI_le (l := ms) j (by omega)
            show waveI ms j + 1 ≤ n
            omega)
          obtain ⟨wk, hwk⟩ : ∃ x, x = waveI ms k := ⟨_, rfl⟩
          obtain ⟨r, hr⟩ : ∃ r, r = wayM x.m y.m := ⟨_, rfl⟩
          obtain ⟨s, hs⟩ : ∃ s, s = nextW ((wavesM (ms.take n)).take k) y.m := ⟨_, rfl⟩
          rw [← hwk] at cI hns hwl
          rw [← hr] at hns
          rw [← hs] at hns hB ⊢
          have hw0 : Below w.heap.size w wo := HO.out.2
          have hw1 : Below w.heap.size w wr := hw0.trans (Below.mono HX.out hw0.size)
          have okx : x.ok w := by rw [hx]; exact (FC.out.2.1 k hk1).2
          have oky : y.ok w := by rw [FC.out.2.2.1]; exact (FC.out.2.1 n hn1).2
          have lx : x.L ≤ 1000 := by
            have := NG.out x (by rw [hx]; exact List.getElem_mem hk1)
            have h3 := okx.len
            unfold CmdV.great at this
            omega
          have ly : y.L ≤ 1000 := by
            have := NG.out y (by rw [FC.out.2.2.1]; exact List.getElem_mem hn1)
            have h3 := oky.len
            unfold CmdV.great at this
            omega
          have cx : ∀ j u, x.cells[j]? = some u → wr.cell? ⟨b, o + k * 7 + j, none⟩ = some u := fun j u hu => (hw1.cell (p := ⟨b, o + k * 7 + j, none⟩) FC.out.1).trans ((FC.out.2.1 k hk1).1 j u (by rw [← hx]; exact hu))
          have cy : ∀ j u, y.cells[j]? = some u → wr.cell? ⟨b, o + n * 7 + j, none⟩ = some u := fun j u hu => (hw1.cell (p := ⟨b, o + n * 7 + j, none⟩) FC.out.1).trans ((FC.out.2.1 n hn1).1 j u (by rw [← FC.out.2.2.1]; exact hu))
          have hbw : b < wr.heap.size := Nat.lt_of_lt_of_le FC.out.1 hw1.size
          have hway : ∀ w', Grew wr w' → Calls Try.prog 12 #[x.val, y.val] w' fun e W' => e = .returned (.bool r) ∧ Below w'.heap.size w' W' := fun w' h => by
            have hw2 := hw1.trans (Below.mono h hw1.size)
            rw [hr]
            exact refWay_any x y w' (okx.below hw2) (oky.below hw2) lx ly
          have WAY := Lib.hid (And.intro hbw (And.intro cx (And.intro cy hway)))
          have CI := Lib.hid (And.intro hgl cI)
          have NS := Lib.hid hns
          have BD := Lib.hid (And.intro hwl hB)
          clear hnm h1 e1 h2 e2 hns hx hxm hHI fI hwk hr hs hw0 hw1 okx oky lx ly cx cy hbw hway cI hgl hwl hB hk1
          go_upto_region 9 with (fail)
          refine rfway b o L c k n x y r (by omega) hlt _ wr _ rfl rfl rfl rfl WAY.out.1 WAY.out.2.1 WAY.out.2.2.1 WAY.out.2.2.2 ?_
          intro w7 hg7
          have h7 : Below wo.heap.size wo w7 := HX.out.trans (Below.mono hg7 HX.out.size)
          have ck : w7.cell? ⟨g, go + k, none⟩ = some (.int .i64 (wk : Int)) := (h7.cell (p := ⟨g, go + k, none⟩) CI.out.1).trans CI.out.2
          have H7 := Lib.hid h7
          clear hg7 h7
          simp only [puts, List.foldl_cons, List.foldl_nil, Act.put, List.setIfInBounds_toArray, List.set_cons_succ, List.set_cons_zero]
          cases r with
          | true =>
            have hmax : max (s : Int) ((wk : Int) + 1) = ((max s (wk + 1) : Nat) : Int) := by omega
            have hwk1 : IntKind.i64.wrap ((wk : Int) + 1) = (wk : Int) + 1 := by
              have := BD.out
              simp [IntKind.wrap, IntKind.bits, IntKind.signed]
              omega
            have hkn2 : (k : Int) < n := hki
            go_wp2
            exact ⟨⟨k + 1, by omega, by congr 1, by rw [NS.out, if_pos rfl], H7⟩, by simp only [intOf]; omega⟩
          | false =>
            go_wp2
            exact ⟨⟨k + 1, by omega, by congr 1, by rw [NS.out]; rfl, H7⟩, by simp only [intOf]; omega⟩
        · have hki : ¬ (k : Int) < n := by omega
          obtain rfl : k = n := by omega
          have hnm : k < ms.length := by have := HM.out.2.1; omega
          have hlenw : (wavesM (ms.take k)).length = k := by rw [wavesM_len]; simp; omega
          have hwv : nextW ((wavesM (ms.take k)).take k) y.m = waveI ms k := by
            rw [List.take_of_length_le (by omega), waveI_at hnm, FC.out.2.2.2]
          rw [hwv]
          obtain ⟨wk, hwk⟩ : ∃ x, x = waveI ms k := ⟨_, rfl⟩
          have htk := wavesI_take hnm
          rw [← hwk] at htk ⊢
          have hwlen : (wavesI (ms.take k)).length = k := by rw [wavesI_len]; simp; omega
          have HO1 := Lib.hid (HO.out.1.below HX.out)
          have B1 := Lib.hid (HO.out.2.trans (Below.mono HX.out HO.out.2.size))
          have HTK := Lib.hid (And.intro htk hwlen)
          clear hnm hlenw hwv hwk htk hwlen HO HX
          go_wp2_with (at_builtin; refine wpList_append_I rfl (.tmp 34) (.tmp 36) rfl w.heap.size (.slice A3 k c3) (wavesI (ms.take k)) rfl (HO1.out.below ((Below.refl _ wr).alloc (Nat.le_refl _) _)) wr.heap.size 1 wk rfl (by have := cell_one_new wr (.int .i64 (wk : Int)) 3 0 _ rfl; exact this) (by have := HTK.out.2; omega) (by have := B1.out.size; simp; omega) ?_; intro v4 W4 ho4 hg4; rw [← HTK.out.1] at ho4; obtain ⟨A4, c4, rfl, _⟩ := ho4.form; have hl4 : (wavesI (ms.take (k + 1))).length = k + 1 := (by rw [HTK.out.1, List.length_append, HTK.out.2]; rfl); rw [hl4] at ho4 ⊢; have H4 := Lib.hid (And.intro ho4 hg4); clear ho4 hg4 hl4)
          have hge := HO1.out.ge
          exact ⟨⟨k + 1, A4, c4, by omega, by congr 1, rfl, Lib.hid ⟨H4.out.1, (B1.out.alloc B1.out.size _).grown H4.out.2 (Nat.le_trans B1.out.size (by simp)) hge⟩⟩, by simp only [intOf]; omega⟩
    · have hni : ¬ (n : Int) < L := by omega
      obtain rfl : n = L := by omega
      have ho := HO.out
      rw [List.take_of_length_le (by have := HM.out.2.1; omega)] at ho
      have HOO := Lib.hid ho
      clear ho HO
      go_wp2
      go_ret
      exact ⟨_, rfl, HOO.out.1, HOO.out.2⟩
end Go.Proofs.Ytooaobadnainkaa
