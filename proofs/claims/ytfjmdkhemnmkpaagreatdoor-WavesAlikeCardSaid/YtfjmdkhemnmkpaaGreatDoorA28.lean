/- Parts of the proof: WxGo, WxOne, WxX. -/
import Derived.Test.YtfjmdkhemnmkpaaGreatDoorA27
import Derived.Test.YtfjmdkhemnmkpaaGreatDoorA20
import Derived.Test.YtfjmdkhemnmkpaaGreatDoorA21
import Derived.Test.YtfjmdkhemnmkpaaGreatDoorA23
namespace Go.Proofs.YtfjmdkhemnmkpaaGreatDoor
open Go.RowKit Go.Maps
attribute [local go_sem] Oper.semAt_some
set_option maxRecDepth 100000 in
set_option maxHeartbeats 4000000 in
theorem wrun_f {F : Nat → Prop} {w : World} {R : Nat} {a : AM} (A : Option Addr) (L c : Nat) (l : List CmdV) (fid : Nat) (fi ca : Array Value) (pk : Nat → Nat → Nat → Int) (h : AppQ F w R a) (hT : TabK w) (hlim : LimAn 1000 a) (hL : L = l.length) (hm : L ≤ 100) (hA : HasCF F w A l) (hng : ∀ v ∈ l, ¬ v.great) (hf : PickF F w (.func (.func fid) fi ca) pk) :
    CallsIn Fence.wide 5 Tryz.prog 12 #[.pointer (some ⟨R, 0, none⟩), .slice A L c, (.func (.func fid) fi ca)] w fun e W' => ∃ A' c', e = .returned (.slice A' L c') ∧ L ≤ c' ∧ HasD W' A' (runD pk (l.map (·.m)) a) ∧ ∃ F', AppQ F' W' R (endR pk (l.map (·.m)) a) ∧ Only F w W' ∧ (∀ k, F' k → F k ∨ w.heap.size ≤ k) ∧ NotF w.heap.size F' A' := by
  have HBg := Lib.hid (begin_any A L c l fid fi ca h hL hm hA.has hng)
  have HS := Lib.hid h
  have HG := Lib.hid (And.intro hT (And.intro hlim (And.intro hf hL)))
  obtain ⟨ms, hms⟩ : ∃ ms, ms = List.map CmdV.m l := ⟨_, rfl⟩
  have hmsL : ms.length = L := by rw [hms, List.length_map]; exact hL.symm
  change CallsIn Fence.wide 5 Tryz.prog 12 #[.pointer (some ⟨R, 0, none⟩), .slice A L c, (.func (.func fid) fi ca)] w fun e W' => ∃ A' c', e = .returned (.slice A' L c') ∧ L ≤ c' ∧ HasD W' A' (runD pk (List.map CmdV.m l) a) ∧ ∃ F', AppQ F' W' R (endR pk (List.map CmdV.m l) a) ∧ Only F w W' ∧ (∀ k, F' k → F k ∨ w.heap.size ≤ k) ∧ NotF w.heap.size F' A'
  rw [← hms] at HBg ⊢
  have HM := Lib.hid hmsL
  clear h hT hlim hL hA hng hf hms hmsL
  have heq := fun W => eq_func W (.func fid) fi ca
  have hmf : ∀ (fn : Fn) (first cap : Array Value) (w : World), (Instr.makeFunc fn first cap).run Tryz.prog w = .ok (.func fn first cap) w := fun _ _ _ _ => rfl
  refine callsIn_of_wp_marks Tryz.func12 rfl trivial ?_ rfl
  simp only [Tryz.ntmps12, List.size_toArray, List.length_cons, List.length_nil, Nat.reduceAdd, Nat.reduceSub, Array.replicate_succ, Array.replicate_zero, List.push_toArray, List.append_toArray, List.nil_append, List.cons_append]
  refine wpIn_wide.2 ?_
  go_wp2_with fail
  refine HBg.out.mono ?_
  rintro e W3 ⟨r, rfl, hb3, b, A1, c1, l1, g1, g2, hq, hrun⟩
  obtain ⟨W4, hW4⟩ : ∃ x, x = W3.alloc (.cells #[.pointer (some ⟨r, 0, none⟩)] 68) := ⟨_, rfl⟩
  have hb4 : Below W3.heap.size W3 W4 := by rw [hW4]; exact (Below.refl _ _).alloc (Nat.le_refl _) _
  have hv4 : W4.heap[W3.heap.size]? = some (.cells #[.pointer (some ⟨r, 0, none⟩)] 68 (0, 0)) := by rw [hW4]; exact World.alloc_heap_new W3 _
  have hrun4 := hrun.grew hb4
  have hq4 := hq.below hb4
  have hw4 : w.heap.size ≤ W4.heap.size := hrun4.go.only.size
  have hms1 : ms = l1.map (·.m) := g1.symm
  have hL1 : L = l1.length := by rw [← List.length_map (f := CmdV.m), g1]; exact HM.out.symm
  obtain ⟨rv, hrv⟩ : ∃ x, x = W3.heap.size := ⟨_, rfl⟩
  rw [← hrv] at hv4
  have c40 := blk_cell hv4 0
  simp at c40
  have HI0 : RunI F w R b r A1 L c1 (.func (.func fid) fi ca) pk ms a W4 rv 0 W4 := ⟨⟨0, rfl, by unfold RunT; rw [rowW_zero]; exact hrun4⟩, hv4, FarW.below (Below.refl _ W4)⟩
  have HX := Lib.hid (And.intro HI0 (And.intro hq4 (And.intro hms1 (And.intro hL1 (And.intro g2 hw4)))))
  have HRB := Lib.hid (show r < W4.heap.size ∧ b < W4.heap.size from ⟨hrun4.lt, hrun4.go.lt⟩)
  clear HBg hb3 g1 g2 hq hrun hb4 hrun4 hq4 hw4 hms1 hL1 HI0 hv4
  go_upto_region 6 with (fail)
  rw [← hW4, ← hrv]
  clear hW4 hrv
  obtain ⟨N, hN⟩ : ∃ N, N = (groupsM ms).length := ⟨_, rfl⟩
  have hN1 : N ≤ 1000 := by
    rw [hN, groups_len]
    rcases Nat.eq_zero_or_pos (numW ms) with e | e
    · omega
    · have h1 := wave_few (ms := ms) (t := numW ms - 1) (by omega)
      have := HM.out
      omega
  have HNN := Lib.hid hN
  have hn100 : ∀ (i : Nat) (h : i < (groupsM ms).length), (groupsM ms)[i].length ≤ 100 := fun i h => by
    rw [groups_get ms h]
    have h1 := List.length_filter_le (fun j => decide (waveI ms j = i)) (List.range ms.length)
    rw [List.length_range] at h1
    have := HM.out
    omega
  have HN100 := Lib.hid hn100
  clear hN hn100
  go_wp2
  refine (wpIn_wide (n := 5)).1 ?_
  refine wpIn_rangeFunc_tiedD rfl (by omega) (gf := 28) (fb := #[.pointer (some ⟨r, 0, none⟩)]) (lb := #[]) rfl trivial (enters_of Tryz.func28 (by kernel_rfl) rfl) (encs := GE.args) (fun _ => rfl)
    (RunI.abides HX.out.2.2.2.2.2) (AbidesD.ex fun gA => RunJ.abides HX.out.2.2.2.2.2) (fun x => (RunJ.abides HX.out.2.2.2.2.2).and (fun W W' row ⟨k1, k2, k3, k4, gb, go, k5, k6⟩ hg hr => ⟨k1, k2, k3, k4.turns hg hr, gb, go, k5, cell_turns hg hr k6⟩)) (fun x => RunJ.abides HX.out.2.2.2.2.2) (fun _ => AbidesD.pure False) (fun _ => AbidesD.pure False)
    (waves_seq 4 (by omega) r N L c1 A1 (groupsM ms) (RunI F w R b r A1 L c1 (.func (.func fid) fi ca) pk ms a W4 rv 0) (fun gA i => RunJ F w R b r A1 L c1 (.func (.func fid) fi ca) pk ms a W4 rv gA i) HNN.out hN1 (fun W hI => ⟨by
      obtain ⟨t, _, k2⟩ := hI.ex
      exact k2.at.2.1, by
      have hcm := (HX.out.2.1.far hI.far).has
      have hgr := groups_anyN A1 L c1 l1 W HX.out.2.2.2.1 hm hcm HX.out.2.2.2.2.1
      rw [← HX.out.2.2.1] at hgr
      refine hgr.mono ?_
      rintro e W' ⟨gA, N', gc, rfl, k1, k2, k3, k4, k5⟩
      have hNe : N' = N := by rw [k1, HNN.out, groups_len]
      subst hNe
      exact ⟨gA, gc, rfl, k4, ⟨hI.grew k4, k3, k5.mono hI.far.1⟩⟩⟩) (fun gA i W hj => hj.rows) W4.heap.size) HX.out.1
    (fun x => { tmps := #[.pointer (some ⟨R, 0, none⟩), .slice A L c, (.func (.func fid) fi ca), undef, undef, undef, .slice none 0 0, .pointer (some ⟨rv, 0, none⟩), .int .i64 (x.i : Int), .slice x.E x.n x.c, .pointer (some ⟨R, 0, none⟩), .bool false, (.func (.func fid) fi ca), .bool false, .pointer (some ⟨R, 0, none⟩), .slice A L c, (.func (.func fid) fi ca), .pointer (some ⟨r, 0, none⟩), .pointer (some ⟨r, 0, none⟩), .func (.func 28) #[.pointer (some ⟨r, 0, none⟩)] #[], .int .i64 (x.i : Int), .slice x.E x.n x.c, undef, undef, undef, undef, undef, undef, undef, undef], defers := [] }) ?assign ?body ?done ?stop
  case assign =>
    intro l x W K hK
    simp only [GE.args]
    gi_wp2
    exact hK
  case body =>
    rintro l x W ⟨hJ, hx, e1, e2, e3, gb, go, e4, e5⟩ hlt
    obtain ⟨t, k1, k2⟩ := hJ.run.ex
    have hoff : OffB r b x.E := fun y o m e => by
      obtain ⟨x', o', e', m1, m2⟩ := hJ.new (by intro h0; rw [h0] at hx; simp at hx)
      rw [e4] at e'
      cases e'
      obtain ⟨A', c', m3, m4⟩ := m2 x.i hx
      rw [e5] at m3
      have hE := (Value.slice.inj (Option.some.inj m3)).1
      have := m4 y o m (hE.symm.trans e)
      have := HRB.out
      exact ⟨by omega, by omega⟩
    have hl0 : LeftW pk (orderM pk ms) t x.i 0 (groupsM ms)[x.i] ((groupsM ms).drop (x.i + 1)) := LeftW.start (by rw [k1, List.drop_eq_getElem_cons hx])
    have hxi : x.i ≤ 1000 := by have := HNN.out; omega
    have HWV : Hid (Calls Tryz.prog 29 #[.pointer (some ⟨r, 0, none⟩), .int .i64 (x.i : Int), .slice x.E x.n x.c] W fun e W' => e = .returned (.tuple #[]) ∧ KeepsD W4.heap.size W W' ∧ RunJ F w R b r A1 L c1 (.func (.func fid) fi ca) pk ms a W4 rv x.gA (x.i + 1) W') := Lib.hid (by
      rw [e1]
      refine (wwave_any k2 HG.out.1 HS.out HG.out.2.1 HX.out.2.2.1 HX.out.2.2.2.1 hm (HX.out.2.1.far hJ.run.far) HX.out.2.2.2.2.1 HG.out.2.2.1 x.i hxi (groupsM ms)[x.i] _ x.E x.c e3 hoff (by rw [← e1]; exact e2) (HN100.out x.i hx) hl0 (fun j hj => by have := groups_wave ms x.i _ (List.getElem?_eq_getElem hx) j hj; omega)).mono ?_
      rintro e W' ⟨rfl, t1, m1, m2, m3⟩
      exact ⟨rfl, k2.keepsD m3, hJ.next HRB.out.1 HRB.out.2 m1 m2 m3⟩)
    have hv := blk_cell hJ.run.var 0
    simp at hv
    clear hJ hoff hl0 k1 k2 e1 e2 e3 e4 e5 hx hxi c40
    gi_wp2_with fail
    refine ⟨trivial, (CallsIn.inRound l (callsIn_wide.2 HWV.out)).mono ?_⟩
    rintro e W' ⟨rfl, m1, m2⟩
    have HM2 := Lib.hid (And.intro m1 m2)
    clear m1 m2 hv
    gi_wp2
    exact HM2.out
  case done =>
    rintro D W hD ⟨gA, hId⟩ hK
    obtain ⟨t, k1, k2⟩ := hId.run.ex
    have hdn : (groupsM ms).drop N = [] := List.drop_eq_nil_iff.2 (by have := HNN.out; omega)
    rw [hdn] at k1
    have htk : (orderM pk ms).take t = orderM pk ms := List.take_of_length_le (List.drop_eq_nil_iff.1 k1)
    have hv := blk_cell hId.run.var 0
    simp at hv
    have hf3 := k2.at.2.2.2.1
    have HW := Lib.hid (And.intro k2 (And.intro htk hK))
    clear hId k1 k2 hdn htk hK c40
    go_wp2
    have hfin := HW.out.1.turns (W' := W.putObj D (.deferred none)) (B := W4.heap.size) HX.out.2.2.2.2.2 (grownBy_putObj' W D (.deferred none)) (fun k e => by cases e; exact ⟨hD, _, HW.out.2.2, rfl⟩)
    refine ⟨by simp, .inl ⟨_, _, rfl, run_takeDeferred HW.out.2.2, ?_⟩⟩
    refine ⟨.slice (some ⟨b, 0, none⟩) L L, (results_tmp (fn := Tryz.f12) (t := 6) rfl _ _ _).trans rfl, some ⟨b, 0, none⟩, L, rfl, Nat.le_refl _, ?_⟩
    have hgo := hfin.go
    rw [HW.out.2.1] at hgo
    refine hgo.fin (ds := runD pk ms a) (by rw [runD_len, HM.out]; exact Nat.le_refl _) fun j hj => ?_
    have hjl : j < ms.length := by rwa [runD_len] at hj
    have hjm : j ∈ orderM pk ms := (orderM_perm pk ms).mem_iff.2 (List.mem_range.2 hjl)
    simp only [runD, List.getElem_map, List.getElem_range]
    rw [rowW, HW.out.2.1, if_pos hjm]
  case stop =>
    intro D cc W hD hf
    exact hf.elim
set_option maxRecDepth 100000 in
set_option maxHeartbeats 4000000 in
theorem wrun_n {F : Nat → Prop} {w : World} {R : Nat} {a : AM} (A : Option Addr) (L c : Nat) (l : List CmdV) (pk : Nat → Nat → Nat → Int) (h : AppQ F w R a) (hT : TabK w) (hlim : LimAn 1000 a) (hL : L = l.length) (hm : L ≤ 100) (hA : HasCF F w A l) (hng : ∀ v ∈ l, ¬ v.great) (hf : PickF F w (.func (.func 26) #[] #[]) pk) :
    CallsIn Fence.wide 5 Tryz.prog 12 #[.pointer (some ⟨R, 0, none⟩), .slice A L c, .nilFunc] w fun e W' => ∃ A' c', e = .returned (.slice A' L c') ∧ L ≤ c' ∧ HasD W' A' (runD pk (l.map (·.m)) a) ∧ ∃ F', AppQ F' W' R (endR pk (l.map (·.m)) a) ∧ Only F w W' ∧ (∀ k, F' k → F k ∨ w.heap.size ≤ k) ∧ NotF w.heap.size F' A' := by
  have HBg := Lib.hid (begin_any A L c l 26 #[] #[] h hL hm hA.has hng)
  have HS := Lib.hid h
  have HG := Lib.hid (And.intro hT (And.intro hlim (And.intro hf hL)))
  obtain ⟨ms, hms⟩ : ∃ ms, ms = List.map CmdV.m l := ⟨_, rfl⟩
  have hmsL : ms.length = L := by rw [hms, List.length_map]; exact hL.symm
  change CallsIn Fence.wide 5 Tryz.prog 12 #[.pointer (some ⟨R, 0, none⟩), .slice A L c, .nilFunc] w fun e W' => ∃ A' c', e = .returned (.slice A' L c') ∧ L ≤ c' ∧ HasD W' A' (runD pk (List.map CmdV.m l) a) ∧ ∃ F', AppQ F' W' R (endR pk (List.map CmdV.m l) a) ∧ Only F w W' ∧ (∀ k, F' k → F k ∨ w.heap.size ≤ k) ∧ NotF w.heap.size F' A'
  rw [← hms] at HBg ⊢
  have HM := Lib.hid hmsL
  clear h hT hlim hL hA hng hf hms hmsL
  have heq := fun W => eq_nilf W
  have hmf : ∀ (fn : Fn) (first cap : Array Value) (w : World), (Instr.makeFunc fn first cap).run Tryz.prog w = .ok (.func fn first cap) w := fun _ _ _ _ => rfl
  refine callsIn_of_wp_marks Tryz.func12 rfl trivial ?_ rfl
  simp only [Tryz.ntmps12, List.size_toArray, List.length_cons, List.length_nil, Nat.reduceAdd, Nat.reduceSub, Array.replicate_succ, Array.replicate_zero, List.push_toArray, List.append_toArray, List.nil_append, List.cons_append]
  refine wpIn_wide.2 ?_
  go_wp2_with fail
  refine HBg.out.mono ?_
  rintro e W3 ⟨r, rfl, hb3, b, A1, c1, l1, g1, g2, hq, hrun⟩
  obtain ⟨W4, hW4⟩ : ∃ x, x = W3.alloc (.cells #[.pointer (some ⟨r, 0, none⟩)] 68) := ⟨_, rfl⟩
  have hb4 : Below W3.heap.size W3 W4 := by rw [hW4]; exact (Below.refl _ _).alloc (Nat.le_refl _) _
  have hv4 : W4.heap[W3.heap.size]? = some (.cells #[.pointer (some ⟨r, 0, none⟩)] 68 (0, 0)) := by rw [hW4]; exact World.alloc_heap_new W3 _
  have hrun4 := hrun.grew hb4
  have hq4 := hq.below hb4
  have hw4 : w.heap.size ≤ W4.heap.size := hrun4.go.only.size
  have hms1 : ms = l1.map (·.m) := g1.symm
  have hL1 : L = l1.length := by rw [← List.length_map (f := CmdV.m), g1]; exact HM.out.symm
  obtain ⟨rv, hrv⟩ : ∃ x, x = W3.heap.size := ⟨_, rfl⟩
  rw [← hrv] at hv4
  have c40 := blk_cell hv4 0
  simp at c40
  have HI0 : RunI F w R b r A1 L c1 (.func (.func 26) #[] #[]) pk ms a W4 rv 0 W4 := ⟨⟨0, rfl, by unfold RunT; rw [rowW_zero]; exact hrun4⟩, hv4, FarW.below (Below.refl _ W4)⟩
  have HX := Lib.hid (And.intro HI0 (And.intro hq4 (And.intro hms1 (And.intro hL1 (And.intro g2 hw4)))))
  have HRB := Lib.hid (show r < W4.heap.size ∧ b < W4.heap.size from ⟨hrun4.lt, hrun4.go.lt⟩)
  clear HBg hb3 g1 g2 hq hrun hb4 hrun4 hq4 hw4 hms1 hL1 HI0 hv4
  go_upto_region 6 with (fail)
  rw [← hW4, ← hrv]
  clear hW4 hrv
  obtain ⟨N, hN⟩ : ∃ N, N = (groupsM ms).length := ⟨_, rfl⟩
  have hN1 : N ≤ 1000 := by
    rw [hN, groups_len]
    rcases Nat.eq_zero_or_pos (numW ms) with e | e
    · omega
    · have h1 := wave_few (ms := ms) (t := numW ms - 1) (by omega)
      have := HM.out
      omega
  have HNN := Lib.hid hN
  have hn100 : ∀ (i : Nat) (h : i < (groupsM ms).length), (groupsM ms)[i].length ≤ 100 := fun i h => by
    rw [groups_get ms h]
    have h1 := List.length_filter_le (fun j => decide (waveI ms j = i)) (List.range ms.length)
    rw [List.length_range] at h1
    have := HM.out
    omega
  have HN100 := Lib.hid hn100
  clear hN hn100
  go_wp2
  refine (wpIn_wide (n := 5)).1 ?_
  refine wpIn_rangeFunc_tiedD rfl (by omega) (gf := 28) (fb := #[.pointer (some ⟨r, 0, none⟩)]) (lb := #[]) rfl trivial (enters_of Tryz.func28 (by kernel_rfl) rfl) (encs := GE.args) (fun _ => rfl)
    (RunI.abides HX.out.2.2.2.2.2) (AbidesD.ex fun gA => RunJ.abides HX.out.2.2.2.2.2) (fun x => (RunJ.abides HX.out.2.2.2.2.2).and (fun W W' row ⟨k1, k2, k3, k4, gb, go, k5, k6⟩ hg hr => ⟨k1, k2, k3, k4.turns hg hr, gb, go, k5, cell_turns hg hr k6⟩)) (fun x => RunJ.abides HX.out.2.2.2.2.2) (fun _ => AbidesD.pure False) (fun _ => AbidesD.pure False)
    (waves_seq 4 (by omega) r N L c1 A1 (groupsM ms) (RunI F w R b r A1 L c1 (.func (.func 26) #[] #[]) pk ms a W4 rv 0) (fun gA i => RunJ F w R b r A1 L c1 (.func (.func 26) #[] #[]) pk ms a W4 rv gA i) HNN.out hN1 (fun W hI => ⟨by
      obtain ⟨t, _, k2⟩ := hI.ex
      exact k2.at.2.1, by
      have hcm := (HX.out.2.1.far hI.far).has
      have hgr := groups_anyN A1 L c1 l1 W HX.out.2.2.2.1 hm hcm HX.out.2.2.2.2.1
      rw [← HX.out.2.2.1] at hgr
      refine hgr.mono ?_
      rintro e W' ⟨gA, N', gc, rfl, k1, k2, k3, k4, k5⟩
      have hNe : N' = N := by rw [k1, HNN.out, groups_len]
      subst hNe
      exact ⟨gA, gc, rfl, k4, ⟨hI.grew k4, k3, k5.mono hI.far.1⟩⟩⟩) (fun gA i W hj => hj.rows) W4.heap.size) HX.out.1
    (fun x => { tmps := #[.pointer (some ⟨R, 0, none⟩), .slice A L c, (.func (.func 26) #[] #[]), undef, undef, undef, .slice none 0 0, .pointer (some ⟨rv, 0, none⟩), .int .i64 (x.i : Int), .slice x.E x.n x.c, .pointer (some ⟨R, 0, none⟩), .bool false, .nilFunc, .bool true, .pointer (some ⟨R, 0, none⟩), .slice A L c, (.func (.func 26) #[] #[]), .pointer (some ⟨r, 0, none⟩), .pointer (some ⟨r, 0, none⟩), .func (.func 28) #[.pointer (some ⟨r, 0, none⟩)] #[], .int .i64 (x.i : Int), .slice x.E x.n x.c, undef, undef, undef, undef, undef, undef, undef, undef], defers := [] }) ?assign ?body ?done ?stop
  case assign =>
    intro l x W K hK
    simp only [GE.args]
    gi_wp2
    exact hK
  case body =>
    rintro l x W ⟨hJ, hx, e1, e2, e3, gb, go, e4, e5⟩ hlt
    obtain ⟨t, k1, k2⟩ := hJ.run.ex
    have hoff : OffB r b x.E := fun y o m e => by
      obtain ⟨x', o', e', m1, m2⟩ := hJ.new (by intro h0; rw [h0] at hx; simp at hx)
      rw [e4] at e'
      cases e'
      obtain ⟨A', c', m3, m4⟩ := m2 x.i hx
      rw [e5] at m3
      have hE := (Value.slice.inj (Option.some.inj m3)).1
      have := m4 y o m (hE.symm.trans e)
      have := HRB.out
      exact ⟨by omega, by omega⟩
    have hl0 : LeftW pk (orderM pk ms) t x.i 0 (groupsM ms)[x.i] ((groupsM ms).drop (x.i + 1)) := LeftW.start (by rw [k1, List.drop_eq_getElem_cons hx])
    have hxi : x.i ≤ 1000 := by have := HNN.out; omega
    have HWV : Hid (Calls Tryz.prog 29 #[.pointer (some ⟨r, 0, none⟩), .int .i64 (x.i : Int), .slice x.E x.n x.c] W fun e W' => e = .returned (.tuple #[]) ∧ KeepsD W4.heap.size W W' ∧ RunJ F w R b r A1 L c1 (.func (.func 26) #[] #[]) pk ms a W4 rv x.gA (x.i + 1) W') := Lib.hid (by
      rw [e1]
      refine (wwave_any k2 HG.out.1 HS.out HG.out.2.1 HX.out.2.2.1 HX.out.2.2.2.1 hm (HX.out.2.1.far hJ.run.far) HX.out.2.2.2.2.1 HG.out.2.2.1 x.i hxi (groupsM ms)[x.i] _ x.E x.c e3 hoff (by rw [← e1]; exact e2) (HN100.out x.i hx) hl0 (fun j hj => by have := groups_wave ms x.i _ (List.getElem?_eq_getElem hx) j hj; omega)).mono ?_
      rintro e W' ⟨rfl, t1, m1, m2, m3⟩
      exact ⟨rfl, k2.keepsD m3, hJ.next HRB.out.1 HRB.out.2 m1 m2 m3⟩)
    have hv := blk_cell hJ.run.var 0
    simp at hv
    clear hJ hoff hl0 k1 k2 e1 e2 e3 e4 e5 hx hxi c40
    gi_wp2_with fail
    refine ⟨trivial, (CallsIn.inRound l (callsIn_wide.2 HWV.out)).mono ?_⟩
    rintro e W' ⟨rfl, m1, m2⟩
    have HM2 := Lib.hid (And.intro m1 m2)
    clear m1 m2 hv
    gi_wp2
    exact HM2.out
  case done =>
    rintro D W hD ⟨gA, hId⟩ hK
    obtain ⟨t, k1, k2⟩ := hId.run.ex
    have hdn : (groupsM ms).drop N = [] := List.drop_eq_nil_iff.2 (by have := HNN.out; omega)
    rw [hdn] at k1
    have htk : (orderM pk ms).take t = orderM pk ms := List.take_of_length_le (List.drop_eq_nil_iff.1 k1)
    have hv := blk_cell hId.run.var 0
    simp at hv
    have hf3 := k2.at.2.2.2.1
    have HW := Lib.hid (And.intro k2 (And.intro htk hK))
    clear hId k1 k2 hdn htk hK c40
    go_wp2
    have hfin := HW.out.1.turns (W' := W.putObj D (.deferred none)) (B := W4.heap.size) HX.out.2.2.2.2.2 (grownBy_putObj' W D (.deferred none)) (fun k e => by cases e; exact ⟨hD, _, HW.out.2.2, rfl⟩)
    refine ⟨by simp, .inl ⟨_, _, rfl, run_takeDeferred HW.out.2.2, ?_⟩⟩
    refine ⟨.slice (some ⟨b, 0, none⟩) L L, (results_tmp (fn := Tryz.f12) (t := 6) rfl _ _ _).trans rfl, some ⟨b, 0, none⟩, L, rfl, Nat.le_refl _, ?_⟩
    have hgo := hfin.go
    rw [HW.out.2.1] at hgo
    refine hgo.fin (ds := runD pk ms a) (by rw [runD_len, HM.out]; exact Nat.le_refl _) fun j hj => ?_
    have hjl : j < ms.length := by rwa [runD_len] at hj
    have hjm : j ∈ orderM pk ms := (orderM_perm pk ms).mem_iff.2 (List.mem_range.2 hjl)
    simp only [runD, List.getElem_map, List.getElem_range]
    rw [rowW, HW.out.2.1, if_pos hjm]
  case stop =>
    intro D cc W hD hf
    exact hf.elim
end Go.Proofs.YtfjmdkhemnmkpaaGreatDoor

namespace Go.Proofs.YtfjmdkhemnmkpaaGreatDoor
open Go.RowKit Go.Maps
noncomputable def oneT (ms : List CM) (a : AM) (t : Nat) (j : Nat) : DV := if j < t then ⟨(toldO (runO (atM ms) (List.range t) a).2 j).1.1, (toldO (runO (atM ms) (List.range t) a).2 j).1.2, (toldO (runO (atM ms) (List.range t) a).2 j).2, 0, j⟩ else D0
theorem oneT_zero (ms : List CM) (a : AM) : oneT ms a 0 = fun _ => D0 := by
  funext j
  rw [oneT, if_neg (by omega)]
theorem oneT_succ (ms : List CM) (a : AM) (t : Nat) : oneT ms a (t + 1) = updT (oneT ms a t) t ⟨(doA (runO (atM ms) (List.range t) a).1 (atM ms t)).2.1.1, (doA (runO (atM ms) (List.range t) a).1 (atM ms t)).2.1.2, (doA (runO (atM ms) (List.range t) a).1 (atM ms t)).2.2, 0, t⟩ := by
  have hs := (runO_snoc (atM ms) t (List.range t) a (by simp)).2
  rw [← List.range_succ] at hs
  funext j
  unfold updT oneT
  by_cases hj : j = t
  · subst hj
    rw [if_pos (by omega), if_pos rfl, hs]
    simp [updT]
  · rw [if_neg hj]
    by_cases hl : j < t
    · rw [if_pos (by omega), if_pos hl, hs]
      simp [updT, hj]
    · rw [if_neg (by omega), if_neg hl]
set_option maxRecDepth 100000 in
set_option maxHeartbeats 4000000 in
theorem wone_any {F : Nat → Prop} {w : World} {R : Nat} {a : AM} (A : Option Addr) (L c : Nat) (l : List CmdV) (h : AppQ F w R a) (hT : TabK w) (hlim : LimAn 1000 a) (hL : L = l.length) (hm : L ≤ 100) (hA : HasCF F w A l) (hng : ∀ v ∈ l, ¬ v.great) :
    Calls Tryz.prog 17 #[.pointer (some ⟨R, 0, none⟩), .slice A L c] w fun e W' => ∃ A' c', e = .returned (.slice A' L c') ∧ L ≤ c' ∧ HasD W' A' (oneD (l.map (·.m)) a) ∧ ∃ F', AppQ F' W' R (endO (l.map (·.m)) a) ∧ Only F w W' ∧ (∀ k, F' k → F k ∨ w.heap.size ≤ k) ∧ NotF w.heap.size F' A' := by
  have HBg := Lib.hid (begin_any A L c l 26 #[] #[] h hL hm hA.has hng)
  have HS := Lib.hid h
  have HG := Lib.hid (And.intro hT (And.intro hlim hL))
  have hLi : (L : Int) ≤ 100 := by omega
  obtain ⟨ms, hms⟩ : ∃ ms, ms = List.map CmdV.m l := ⟨_, rfl⟩
  have hmsL : ms.length = L := by rw [hms, List.length_map]; exact hL.symm
  change Calls Tryz.prog 17 #[.pointer (some ⟨R, 0, none⟩), .slice A L c] w fun e W' => ∃ A' c', e = .returned (.slice A' L c') ∧ L ≤ c' ∧ HasD W' A' (oneD (List.map CmdV.m l) a) ∧ ∃ F', AppQ F' W' R (endO (List.map CmdV.m l) a) ∧ Only F w W' ∧ (∀ k, F' k → F k ∨ w.heap.size ≤ k) ∧ NotF w.heap.size F' A'
  rw [← hms] at HBg ⊢
  have HM := Lib.hid hmsL
  clear h hT hlim hL hA hng hms hmsL
  go_enter Tryz.func17, Tryz.ntmps17
  go_wp2_with fail
  refine HBg.out.mono ?_
  rintro e W3 ⟨r, rfl, hb3, b, A1, c1, l1, g1, g2, hq, hrun⟩
  obtain ⟨x0, x1, x2, x3, x4⟩ := hrun.at
  have hL1 : L = l1.length := by rw [← List.length_map (f := CmdV.m), g1]; exact HM.out.symm
  have HX := Lib.hid (And.intro hrun (And.intro hq (And.intro (show ms = l1.map (·.m) from g1.symm) (And.intro hL1 g2))))
  clear HBg hb3 g1 g2 hq hrun hL1 x0 x2 x4
  go_wp2
  go_loopw [17] (fun i wr => ∃ t : Nat, t ≤ L ∧ i = .int .i64 (t : Int) ∧ Hid (RunQ F w R b r A1 L c1 (.func (.func 26) #[] #[]) (runO (atM ms) (List.range t) a).1 (oneT ms a t) t wr ∧ FarW r b W3 wr)) (fun i _ => L - (intOf i).toNat)
  case atStart => exact ⟨0, Nat.zero_le _, rfl, Lib.hid ⟨by rw [oneT_zero]; exact HX.out.1, FarW.below (Below.refl _ W3)⟩⟩
  case round =>
    obtain ⟨t, ht, rfl, HK⟩ := hrel
    by_cases hlt : t < L
    · have hti : (t : Int) < L := by omega
      have hk1 : t < l1.length := by have := HX.out.2.2.2.1; omega
      have hHC := (HX.out.2.1.far HK.out.2).has
      obtain ⟨cb, co, e1, hcb, f1⟩ := hHC (by rintro rfl; simp at hk1)
      obtain ⟨g1, g2⟩ := f1 t hk1
      have hxm : atM ms t = (l1[t]).m := by rw [atM_get (by have := HM.out; omega)]; simp [HX.out.2.2.1]
      have hlimt : LimA (runO (atM ms) (List.range t) a).1 := by
        rw [runO_one]
        refine (oneO_lim HG.out.2.1 _ (by simp; omega) fun m hm => ?_).lim (by simp; omega)
        obtain ⟨j, hj, rfl⟩ := List.mem_map.1 hm
        have hjt := List.mem_range.1 hj
        have hjl : j < l1.length := by omega
        rw [atM_get (by have := HM.out; omega)]
        have hjm : (ms[j]'(by have := HM.out; omega)) = (l1[j]).m := by simp [HX.out.2.2.1]
        rw [hjm]
        exact ⟨(f1 j hjl).2.cl, (f1 j hjl).2.sq⟩
      have hgy : (l1[t]).ks.length ≤ 100 := by
        have hn := HX.out.2.2.2.2 l1[t] (List.getElem_mem hk1)
        have : ¬ 100 < (l1[t]).ks.length := fun hh => hn (.inr (.inr (.inl hh)))
        omega
      have hT1 := oneT_succ ms a t
      have hR1 := (runO_snoc (atM ms) t (List.range t) a (by simp)).1
      rw [← List.range_succ] at hR1
      rw [hxm] at hT1 hR1
      have HD := Lib.hid (show Calls Tryz.prog 39 #[.pointer (some ⟨r, 0, none⟩), .int .i64 (t : Int), .int .i64 0] wr fun e W' => e = .returned (.tuple #[]) ∧ RunQ F w R b r A1 L c1 (.func (.func 26) #[] #[]) (runO (atM ms) (List.range (t + 1)) a).1 (oneT ms a (t + 1)) (t + 1) W' ∧ FarW r b wr W' from by
        subst e1
        have := wdo_any HK.out.1 HG.out.1 HS.out hlimt t 0 l1[t] hlt hcb (fun j u hu => g1 j u hu) g2 hgy (by omega)
        refine this.mono ?_
        rintro e W' ⟨rfl, k1, k2⟩
        refine ⟨rfl, ?_, k2⟩
        rw [hT1, hR1]
        exact k1)
      clear hT1 hR1 hxm hlimt hgy hHC g1 g2 f1 e1 hcb hk1 x1 x3
      go_wp2_with fail
      refine HD.out.mono ?_
      rintro e W2 ⟨rfl, k1, k2⟩
      have H2 := Lib.hid (And.intro k1 (HK.out.2.trans k2))
      clear k1 k2 HD
      go_wp2
      exact ⟨⟨t + 1, by omega, by congr 1, H2⟩, by simp only [intOf]; omega⟩
    · have hti : ¬ (t : Int) < L := by omega
      obtain rfl : t = L := by omega
      have HE := Lib.hid HK.out
      have hx3 := HK.out.1.at.2.2.2.1
      clear HK x1 x3
      go_wp2
      go_ret
      refine ⟨some ⟨b, 0, none⟩, t, rfl, Nat.le_refl _, ?_⟩
      have e : endO ms a = (runO (atM ms) (List.range t) a).1 := by rw [endO, HM.out]
      rw [e]
      refine HE.out.1.go.fin ?_ ?_
      · simp [oneD, HM.out]
      · intro j hj
        have hjt : j < t := by simpa [oneD, HM.out] using hj
        simp only [oneD, List.getElem_map, List.getElem_range, HM.out]
        rw [oneT, if_pos hjt]
end Go.Proofs.YtfjmdkhemnmkpaaGreatDoor

namespace Go.Proofs.YtfjmdkhemnmkpaaGreatDoor
open Go.RowKit Go.Maps
set_option maxRecDepth 100000 in
theorem wrun_nil (A : Option Addr) (L c : Nat) (w : World) : Calls Tryz.prog 12 #[.pointer none, .slice A L c, .nilFunc] w fun e W' => ∃ A' c', e = .returned (.slice A' 0 c') ∧ Below w.heap.size w W' := by
  go_enter Tryz.func12, Tryz.ntmps12
  go_wp2
  go_ret
  exact ⟨_, _, rfl, Below.refl _ _⟩
set_option maxRecDepth 100000 in
theorem wone_nil (A : Option Addr) (L c : Nat) (w : World) : Calls Tryz.prog 17 #[.pointer none, .slice A L c] w fun e W' => ∃ A' c', e = .returned (.slice A' 0 c') ∧ Below w.heap.size w W' := by
  go_enter Tryz.func17, Tryz.ntmps17
  go_wp2
  go_ret
  exact ⟨_, _, rfl, Below.refl _ _⟩
theorem runW : RunW where
  run := fun A L c l f pk h hT hlim hL hm hA hng hf => by
    obtain ⟨fid, first, cap, rfl, _⟩ := hf.ex
    exact callsIn_wide.1 (wrun_f A L c l fid first cap pk h hT hlim hL hm hA hng hf)
  none_ := fun {F w _ _} A L c l h hT hlim hL hm hA hng => callsIn_wide.1 (wrun_n A L c l (picksM []) h hT hlim hL hm hA hng (firstF F w))
  one := fun A L c l h hT hlim hL hm hA hng => wone_any A L c l h hT hlim hL hm hA hng
  runNil := fun A L c w _ _ => wrun_nil A L c w
  oneNil := fun A L c w _ _ => wone_nil A L c w
end Go.Proofs.YtfjmdkhemnmkpaaGreatDoor
