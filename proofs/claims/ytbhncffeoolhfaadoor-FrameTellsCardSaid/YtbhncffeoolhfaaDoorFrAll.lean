/- The contract of frame.All. -/
import Derived.Test.YtbhncffeoolhfaaDoorFrAllR
import Derived.WalkMore
namespace Go.Proofs.YtbhncffeoolhfaaDoor
open Go.RowKit Go.Shelf
attribute [local go_sem] Oper.semAt_some

set_option maxHeartbeats 1000000 in
theorem frames_in (n : Nat) (A : Option Addr) (L c : Nat) (w : World) :
    CallsIn Fence.wide n Tryd.prog 21 #[.slice A L c] w fun e w' => e = .returned (.func (.func 27) #[] #[.pointer (some ⟨w.heap.size, 0, none⟩)]) ∧ w' = w.alloc (.cells #[.slice A L c] 22) := by
  refine callsIn_of_wp Tryd.func21 rfl trivial ?_ rfl
  simp only [Tryd.ntmps21, List.size_toArray, List.length_cons, List.length_nil, Nat.reduceAdd, Nat.reduceSub, Array.replicate_succ, Array.replicate_zero, List.push_toArray, List.append_toArray, List.nil_append, List.cons_append]
  gi_wp2
  go_ret
  exact ⟨rfl, rfl⟩

theorem AS.err {w W : World} {p : Nat} {dn : List (List UInt8)} (h : AS w p dn 0 W) (e : Nat) : AS w p dn e (W.setCell ⟨w.heap.size + 2, 0, none⟩ (.int .i64 (e : Int))) := by
  obtain ⟨⟨v, vs, h1, h2, h3⟩, h4, h5, hB⟩ := h
  have hs := SameT.set (i := 0) h5 (.int .i64 (e : Int))
  refine ⟨⟨v, vs, hs _ _ _ (by decide) h1, hs.own h2 (by decide), h3.mono fun _ _ h => h.same hs (by decide)⟩, hs _ _ _ (by decide) h4, ?_, hB.setCell (p := ⟨w.heap.size + 2, 0, none⟩) (by simp) _⟩
  rw [blk_set h5]; rfl

/-- What is handed back, when the loop's own record is closed. -/
theorem all_end {w W : World} {p e D n : Nat} {dn : List (List UInt8)} {v : Value} {vs : List Value} (hD : w.heap.size ≤ D) (h : AS w p dn e W) (ho : W.ownsRow w.heap.size 22 1 v n vs) (ha : AllB (IsD W) vs dn) (hK : W.heap[D]? = some (.deferred (some []))) :
    IsBB (W.drew.putObj D (.deferred none)) v dn ∧ Below w.heap.size w (W.drew.putObj D (.deferred none)) := by
  have hr : ∀ r, some D = some r → w.heap.size ≤ r ∧ ∃ o, W.drew.heap[r]? = some o ∧ o.isCells = false := fun r e => by cases e; exact ⟨hD, _, hK, rfl⟩
  have hs : SameT [] W (W.drew.putObj D (.deferred none)) := (SameT.drew (T := []) W).trans (SameT.abides (T := []) (grownBy_putObj' W.drew D _) hr)
  refine ⟨IsBB.own (hs.own ho (by simp)) (ha.mono fun _ _ h => (h.same hs (by simp)).isB), ?_⟩
  exact Abides.below (Nat.le_refl _) (Nat.le_refl _) W.drew _ (some D) h.2.2.2.drew (grownBy_putObj' W.drew D _) hr

/-- The frame of a round: the part's block is D'. -/
def frA (w : World) (A : Option Addr) (L c : Nat) (x : Yp) (D' : Nat) : Act :=
  { tmps := #[.slice A L c, undef, .slice none 0 0, .int .i64 0, .int .i64 0, .pointer (some ⟨w.heap.size, 0, none⟩), .pointer (some ⟨w.heap.size + 1, 0, none⟩), .pointer (some ⟨w.heap.size + 1 + 1, 0, none⟩), .pointer (some ⟨D', 0, none⟩), .int .i64 (x.e : Int), .slice A L c, .func (.func 27) #[] #[.pointer (some ⟨w.heap.size + 1 + 1 + 1, 0, none⟩)], .agg x.part, .int .i64 (x.e : Int), undef, undef, undef, undef, undef, undef, undef, undef, undef, undef, undef, undef, undef, undef, undef, undef, undef], defers := [] }
def AftA (w : World) (bs : List UInt8) (A : Option Addr) (L c : Nat) (x : Yp) (a : Act) (W : World) : Prop :=
  ∃ D', a = frA w A L c x D' ∧ YIy w bs x W ∧ W.heap[D']? = some (.cells x.part 46 (0, 0))

set_option maxRecDepth 100000 in
set_option maxHeartbeats 4000000 in
theorem all_in (n : Nat) (hn : 4 ≤ n) (A : Option Addr) (L c : Nat) (bs : List UInt8) (w : World) (hL : L = bs.length) (hlen : L ≤ 200000) (hcap : L ≤ c) (hT : Tab w) (hA : HasA w w.heap.size A bs) :
    CallsIn Fence.wide n Tryd.prog 11 #[.slice A L c] w (AllPost w bs) := by
  have h1 : 1 ≤ n := by omega
  have HL := Lib.hid hL
  have HA := Lib.hid hA
  have HT := Lib.hid hT
  clear hL hA hT
  refine callsIn_of_wp_marks Tryd.func11 rfl trivial ?_ rfl
  simp only [Tryd.ntmps11, List.size_toArray, List.length_cons, List.length_nil, Nat.reduceAdd, Nat.reduceSub, Array.replicate_succ, Array.replicate_zero, List.push_toArray, List.append_toArray, List.nil_append, List.cons_append]
  refine wpIn_wide.2 ?_
  go_wp2
  go_step3
  go_wp2
  go_step3
  go_wp2_with fail
  refine ((callsIn_wide (n := 1)).1 (frames_in 1 A L c _)).mono ?_
  rintro e w' ⟨rfl, rfl⟩
  simp only [World.size_alloc]
  obtain ⟨W0, hW0⟩ : ∃ W0, W0 = (((w.alloc (Obj.cells #[Value.slice none 0 0] 30)).alloc (Obj.cells #[Value.int IntKind.i64 0] 3)).alloc (Obj.cells #[Value.int IntKind.i64 0] 24)).alloc (Obj.cells #[.slice A L c] 22) := ⟨_, rfl⟩
  have hsz : W0.heap.size = w.heap.size + 4 := by rw [hW0]; simp
  have hst0 : YI0 w A L c W0 := by
    have hn : ∀ (V : World) (o : Obj) (k : Nat), V.heap.size = k → (V.alloc o).heap[k]? = some o := fun V o k h => by subst h; exact World.alloc_heap_new V o
    have hk : ∀ (V : World) (o : Obj) (k : Nat), k < V.heap.size → (V.alloc o).heap[k]? = V.heap[k]? := fun V o k h => Below.heap_alloc _ _ _ h
    subst hW0
    refine ⟨⟨⟨.slice none 0 0, [], ?_, World.ownsRow_nil _ _ _ _, AllB.nil⟩, ?_, ?_, ?_⟩, ?_⟩
    · rw [hk _ _ _ (by simp <;> omega), hk _ _ _ (by simp <;> omega), hk _ _ _ (by simp)]; exact hn _ _ _ rfl
    · rw [hk _ _ _ (by simp <;> omega), hk _ _ _ (by simp)]; exact hn _ _ _ (by simp)
    · rw [hk _ _ _ (by simp)]; exact hn _ _ _ (by simp)
    · exact ((((Below.refl _ _).alloc (Nat.le_refl _) _).alloc (by simp) _).alloc (by simp <;> omega) _).alloc (by simp <;> omega) _
    · exact hn _ _ _ (by simp)
  rw [← hW0]
  have HST := Lib.hid hst0
  have HSZ := Lib.hid hsz
  have hle0 : w.heap.size ≤ W0.heap.size := by omega
  clear hst0 hW0 hsz
  go_wp2
  refine (wpIn_wide (n := 4)).1 ?_
  refine wpIn_rangeFunc_tied2 rfl (by omega) (gf := 27) (fb := #[]) (lb := #[.pointer (some ⟨w.heap.size + 3, 0, none⟩)]) rfl trivial (enters_of Tryd.func27 (by kernel_rfl) rfl) (encs := Yp.args) (fun _ => rfl)
    ((Abides.as hle0).and Abides.block) ?dn (fun x => (Abides.as hle0).and (Abides.block.and (Abides.pure _))) ?io ?lx1 ?lx2
    (frames_seq 3 (by omega) w A L c bs HL.out hlen hcap HT.out HA.out W0.heap.size) HST.out (AftA w bs A L c) ?aft ?assign ?body ?done ?stop
  case dn =>
    rintro W W' row ⟨p, dn, h, hp⟩ hg hr
    exact ⟨p, dn, Abides.as hle0 W W' row h hg hr, hp⟩
  case io =>
    rintro x W W' row ⟨h1, h2, X, h3, h4⟩ hg hr
    exact ⟨Abides.block W W' row h1 hg hr, h2, X, h3, Abides.as hle0 W W' row h4 hg hr⟩
  case lx1 =>
    rintro c W W' row ⟨h1, p, dn, e, h, hp⟩ hg hr
    exact ⟨h1, p, dn, e, Abides.as hle0 W W' row h hg hr, hp⟩
  case lx2 =>
    rintro c W W' row ⟨h1, p, dn, e, h, hp⟩ hg hr
    exact ⟨h1, p, dn, e, Abides.as hle0 W W' row h hg hr, hp⟩
  case aft =>
    rintro x a' W W' row ⟨D', h1, ⟨h2, h3, h4⟩, h5⟩ hg hr
    exact ⟨D', h1, ⟨Abides.as hle0 W W' row h2 hg hr, Abides.block W W' row h3 hg hr, h4⟩, Abides.block W W' row h5 hg hr⟩
  case assign =>
    rintro l x W K ⟨h1, h2, h3⟩ hle hK
    have H1 := Lib.hid h1
    have H2 := Lib.hid h2
    clear h1 h2
    simp only [Yp.args, Yp.part] at H2 ⊢
    gi_wp2
    have hga : Below W.heap.size W (W.alloc (.cells #[.slice x.A2 x.L2 x.c2, .int .i64 (x.n : Int)] 46)) := (Below.refl _ _).alloc (Nat.le_refl _) _
    exact hK _ _ (KeepsFrom.of_grownBy (grownBy_of_below (r := none) hga) (fun j e => by cases e)) ⟨W.heap.size, rfl, ⟨H1.out.grew hga, (SameT.grew (T := []) hga) _ _ _ (by simp) H2.out, h3⟩, World.alloc_heap_new W _⟩
  case body =>
    rintro l ⟨D, A2, L2, c2, m, e, p, dn⟩ a' W ⟨D', rfl, ⟨hst, hD, hyk⟩, hD'⟩ hlt
    simp only [Yp.part] at hD hD'
    have hc0 : W.cell? ⟨D', 0, none⟩ = some (.slice A2 L2 c2) := by simpa using blk_cell hD' 0
    have hc1 : W.cell? ⟨D', 1, none⟩ = some (.int .i64 (m : Int)) := by simpa using blk_cell hD' 1
    have HD := Lib.hid hD
    have HD' := Lib.hid hD'
    have HS := Lib.hid hst
    have hsz := hst.size
    obtain ⟨⟨v, vs, h5, hown, hall⟩, h6, h7, hB⟩ := hst
    have hp5 : W.cell? ⟨w.heap.size, 0, none⟩ = some v := by simpa using blk_cell h5 0
    have hp6 : W.cell? ⟨w.heap.size + 1, 0, none⟩ = some (.int .i64 (p : Int)) := by simpa using blk_cell h6 0
    have hp7 : W.cell? ⟨w.heap.size + 1 + 1, 0, none⟩ = some (.int .i64 0) := by simpa using blk_cell h7 0
    have hf5 := blk_frozen h5 0
    have hf6 := blk_frozen h6 0
    have hf7 : W.frozen? ⟨w.heap.size + 1 + 1, 0, none⟩ = false := blk_frozen h7 0
    have H5 := Lib.hid h5
    have H6 := Lib.hid h6
    have H7 := Lib.hid h7
    have HO := Lib.hid hown
    have HALL := Lib.hid hall
    have B0 := Lib.hid hB
    clear hD hD' h5 h6 h7 hown hall hB
    simp only [frA, Yp.part]
    rcases Nat.eq_zero_or_pos e with he | he
    · subst he
      obtain ⟨hso, hne, hcs⟩ := hyk.out
      obtain ⟨X, htk, hxl, hA2⟩ : ∃ X, tk (bs.drop p) = .ok X m ∧ L2 = X.length ∧ HasA w w.heap.size A2 X := by
        rcases hcs with ⟨_, X, h⟩ | ⟨h, _⟩
        · exact ⟨X, h⟩
        · exact absurd rfl h
      have hpL : p < L := by
        rcases Nat.lt_or_ge p L with h | h
        · exact h
        · exact absurd (List.drop_of_length_le (by rw [← HL.out]; exact h)) hne
      have hdl : dn.length ≤ 1000000 := by
        have h := al_count bs
        simp only [Sofar] at hso
        rw [hso] at h
        simp only [List.length_append] at h
        have := HL.out; omega
      have hpm : p + m ≤ L := by
        have h := (tk_pos htk).2
        rw [List.length_drop, ← HL.out] at h
        omega
      have hX2 : L2 ≤ 1000000 := by have := (tk_ok htk).1.2; omega
      have HTK := Lib.hid htk
      have HXL := Lib.hid hxl
      have HA2 := Lib.hid ((hA2.below B0.out).more B0.out.size)
      have HDL := Lib.hid hdl
      have hpmi : (p : Int) + (m : Int) ≤ 200000 := by omega
      clear hyk hso hne hcs htk hxl hA2 hdl
      gi_wp2
      refine all_region l w.heap.size D' w.heap.size dn.length v vs A2 L2 c2 X HXL.out hX2 HDL.out _ W _ rfl rfl rfl H5.out hc0 (Array.getElem?_eq_some_iff.1 HD'.out).1 HA2.out HO.out B0.out.size ?_
      intro u y v' q W1 W2 hg1 hy hown2 hg2
      have hs1 : SameT [] W W1 := SameT.grew hg1
      have hty := own_typed (own_below HO.out hg1)
      have hs2 : SameT [22] W1 W2 := SameT.grown hg2 hty
      have hs12 := hs1.trans hs2
      have h52 := hs12 _ _ _ (by decide) H5.out
      have hs3 : SameT [30] W2 (W2.setCell ⟨w.heap.size, 0, none⟩ v') := SameT.set h52 v'
      have hs := hs12.trans hs3
      have h63 := hs _ _ _ (by decide) H6.out
      have hD3 := hs _ _ _ (by decide) HD'.out
      have hc13 : (W2.setCell ⟨w.heap.size, 0, none⟩ v').cell? ⟨D', 1, none⟩ = some (.int .i64 (m : Int)) := by simpa using blk_cell hD3 1
      have hc63 : (W2.setCell ⟨w.heap.size, 0, none⟩ v').cell? ⟨w.heap.size + 1, 0, none⟩ = some (.int .i64 (p : Int)) := by simpa using blk_cell h63 0
      have hf63 := blk_frozen h63 0
      have hkeep : KeepsOthers W (W2.setCell ⟨w.heap.size, 0, none⟩ v') := ((KeepsOthers.of_grownBy (grownBy_of_below (r := none) hg1) (fun j o e => by cases e)).trans (KeepsOthers.of_grownBy hg2 (fun j o e ho => by
        obtain ⟨cs, hc⟩ := hty j e
        rw [hc] at ho; cases ho; rfl))).trans (KeepsOthers.setCell _ _ _)
      have hB3 : Below w.heap.size w (W2.setCell ⟨w.heap.size, 0, none⟩ v') := ((B0.out.trans (Below.mono hg1 B0.out.size)).grown hg2 (Nat.le_trans B0.out.size (Below.size hg1)) (fun k e => (HO.out.lt k e).1)).setCell (p := ⟨w.heap.size, 0, none⟩) (Nat.le_refl _) _
      have hb53 : (W2.setCell ⟨w.heap.size, 0, none⟩ v').heap[w.heap.size]? = some (.cells #[v'] 30 (0, 0)) := by rw [blk_set h52]; rfl
      have hown3 := hs3.own hown2 (by decide)
      have hall3 : AllB (IsD (W2.setCell ⟨w.heap.size, 0, none⟩ v')) (vs ++ [y]) (dn ++ [X]) := (HALL.out.mono fun _ _ h => h.same hs (by decide)).snoc ((hy.same hs2 (by decide)).same hs3 (by decide))
      have h73 := hs _ _ _ (by decide) H7.out
      have hDD3 := hs _ _ _ (by decide) HD.out
      obtain ⟨W3, hW3⟩ : ∃ W3, W3 = W2.setCell ⟨w.heap.size, 0, none⟩ v' := ⟨_, rfl⟩
      rw [← hW3] at hc13 hc63 hf63 hkeep hB3 hb53 hown3 hall3 h73 hDD3 h63 ⊢
      have HF := Lib.hid (show KeepsOthers W W3 ∧ Below w.heap.size w W3 ∧ W3.heap[w.heap.size]? = some (.cells #[v'] 30 (0, 0)) ∧ W3.ownsRow w.heap.size 22 1 v' (dn.length + 1) (vs ++ [y]) ∧ AllB (IsD W3) (vs ++ [y]) (dn ++ [X]) ∧ W3.heap[w.heap.size + 2]? = some (.cells #[.int .i64 ((0 : Nat) : Int)] 24 (0, 0)) ∧ W3.heap[D]? = some (.cells #[.slice A2 L2 c2, .int .i64 (m : Int)] 46 (0, 0)) ∧ W3.heap[w.heap.size + 1]? = some (.cells #[.int .i64 (p : Int)] 3 (0, 0)) from ⟨hkeep, hB3, hb53, hown3, hall3, h73, hDD3, h63⟩)
      clear hW3 hkeep hB3 hb53 hown3 hall3 h73 hDD3 h63 hs hs3 hs12 hs2 hs1 hty h52 hD3 hown2 hg2 hg1 hy hp5 hp6 hp7 hf5 hf6 hf7 hc0 hc1
      simp only [puts, List.foldl_cons, List.foldl_nil, Act.put, List.setIfInBounds_toArray, List.set_cons_succ, List.set_cons_zero]
      gi_wp2
      obtain ⟨k1, k2, k3, k4, k5, k6, k7, k8⟩ := HF.out
      have hs4 : SameT [3] W3 (W3.setCell ⟨w.heap.size + 1, 0, none⟩ (.int .i64 ((p : Int) + (m : Int)))) := SameT.set k8 _
      refine ⟨(k1.trans (KeepsOthers.setCell _ _ _)).from _, hs4 _ _ _ (by decide) k7, rfl, X, HTK.out, ⟨v', vs ++ [y], hs4 _ _ _ (by decide) k3, ?_, k5.mono fun _ _ h => h.same hs4 (by decide)⟩, ?_, hs4 _ _ _ (by decide) k6, k2.setCell (p := ⟨w.heap.size + 1, 0, none⟩) (by simp) _⟩
      · rw [List.length_append]; exact hs4.own k4 (by decide)
      · rw [blk_set k8]; rfl
    · have hei : ((e : Int) == 0) = false := by simp; omega
      gi_wp2
      have hal : al bs = (dn, p, e) := by
        obtain ⟨h1, h2, h3⟩ := hyk.out
        rcases h3 with ⟨h3, _⟩ | ⟨_, h3⟩
        · simp at h3; omega
        · simp only [Sofar] at h1
          rw [h1, al_err h2 h3]
          simp
      exact ⟨(KeepsOthers.setCell _ _ _).from _, rfl, p, dn, e, HS.out.err e, hal⟩
  case done =>
    rintro D W hD ⟨p, dn, hst, hal⟩ hK
    have HK := Lib.hid hK
    have HS := Lib.hid hst
    obtain ⟨⟨v, vs, h5, hown, hall⟩, h6, h7, hB⟩ := hst
    have hp5 : W.cell? ⟨w.heap.size, 0, none⟩ = some v := by simpa using blk_cell h5 0
    have hp6 : W.cell? ⟨w.heap.size + 1, 0, none⟩ = some (.int .i64 (p : Int)) := by simpa using blk_cell h6 0
    have hp7 : W.cell? ⟨w.heap.size + 1 + 1, 0, none⟩ = some (.int .i64 0) := by simpa using blk_cell h7 0
    have HO := Lib.hid hown
    have HALL := Lib.hid hall
    clear hK h5 h6 h7 hown hall hB
    obtain ⟨A9, c9, rfl⟩ := own_form HO.out
    go_wp2
    go_region
    go_wp2
    rw [Exit.noGoto_ret]
    obtain ⟨hbb, hbe⟩ := all_end (D := D) (by have := HSZ.out; omega) HS.out HO.out HALL.out HK.out
    refine ⟨by simp, .inl ⟨_, _, rfl, run_takeDeferred (w := W.drew) HK.out, ?_⟩⟩
    refine ⟨_, by simp [results, Tryd.results11]; rfl, .slice A9 dn.length c9, ?_, ?_, hbe⟩
    · rw [hal.out]; rfl
    · rw [hal.out]; exact hbb
  case stop =>
    rintro D c W hD ⟨hc, p, dn, e, hst, hal⟩ hK
    obtain rfl := hc.out
    have HK := Lib.hid hK
    have HS := Lib.hid hst
    obtain ⟨⟨v, vs, h5, hown, hall⟩, h6, h7, hB⟩ := hst
    have hp5 : W.cell? ⟨w.heap.size, 0, none⟩ = some v := by simpa using blk_cell h5 0
    have hp6 : W.cell? ⟨w.heap.size + 1, 0, none⟩ = some (.int .i64 (p : Int)) := by simpa using blk_cell h6 0
    have hp7 : W.cell? ⟨w.heap.size + 1 + 1, 0, none⟩ = some (.int .i64 (e : Int)) := by simpa using blk_cell h7 0
    have HO := Lib.hid hown
    have HALL := Lib.hid hall
    clear hK h5 h6 h7 hown hall hB
    obtain ⟨A9, c9, rfl⟩ := own_form HO.out
    refine wpIn_wide.2 ?_
    go_wp2
    go_region
    go_wp2
    rw [Exit.noGoto_ret]
    obtain ⟨hbb, hbe⟩ := all_end (D := D) (by have := HSZ.out; omega) HS.out HO.out HALL.out HK.out
    refine ⟨by simp, .inl ⟨_, _, rfl, run_takeDeferred (w := W.drew) HK.out, ?_⟩⟩
    refine ⟨_, by simp [results, Tryd.results11]; rfl, .slice A9 dn.length c9, ?_, ?_, hbe⟩
    · rw [hal.out]
    · rw [hal.out]; exact hbb
/-- frame.All. -/
theorem all_any : AllSpec := fun A L c bs w hL hl hlc hT hA => (callsIn_wide (n := 4)).1 (all_in 4 (by omega) A L c bs w hL hl hlc hT hA)
end Go.Proofs.YtbhncffeoolhfaaDoor
