/- Open: a disk's records, done one by one. -/
import Derived.Test.YtdiihaeelcbjbaaGreatDoorMSI
import Derived.Test.YtdiihaeelcbjbaaGreatDoorSbP
import Derived.Test.YtdiihaeelcbjbaaGreatDoorMStN
namespace Go.Proofs.YtdiihaeelcbjbaaGreatDoor
open Go.RowKit Go.Maps Go.WideMaps

theorem al_facts : ∀ (k : Nat) (b : List UInt8), b.length ≤ k → (∀ x ∈ (al b).1, Fit x) ∧ (al b).1.length ≤ b.length
  | k, b, hk => by
    by_cases hb : b = []
    · subst hb
      rw [al_nil]
      exact ⟨fun x hx => (by cases hx), Nat.le_refl _⟩
    · cases ht : tk b with
      | err e =>
        rw [al_err hb ht]
        exact ⟨fun x hx => (by cases hx), Nat.zero_le _⟩
      | ok x n =>
        obtain ⟨h5, hn⟩ := tk_pos ht
        rw [al_ok ht]
        cases k with
        | zero => omega
        | succ k =>
          obtain ⟨h1, h2⟩ := al_facts k (b.drop n) (by rw [List.length_drop]; omega)
          refine ⟨fun y hy => ?_, ?_⟩
          · rcases List.mem_cons.1 hy with rfl | hy
            · exact (tk_ok ht).1
            · exact h1 y hy
          · rw [List.length_drop] at h2
            rw [List.length_cons]
            omega
theorem opn_facts (b : List UInt8) (n : Nat) : (∀ x ∈ (opn b n).1, Fit x) ∧ (opn b n).1.length ≤ b.length + b.length := by
  unfold opn
  split
  · have h1 := al_facts _ (b.take n) (Nat.le_refl _)
    have h2 := al_facts _ (b.drop n) (Nat.le_refl _)
    refine ⟨fun x hx => (List.mem_append.1 hx).elim (h1.1 x) (h2.1 x), ?_⟩
    rw [List.length_append]
    have := h1.2
    have := h2.2
    rw [List.length_take] at *
    rw [List.length_drop] at *
    omega
  · exact ⟨fun x hx => (by cases hx), Nat.zero_le _⟩
theorem BBn.lows {N : Nat → Prop} {w : World} {v : Value} {Xs : List (List UInt8)} (h : BBn N w v Xs) : BBn (fun k => k < w.heap.size) w v Xs := by
  obtain ⟨A, L, c, e, hL, hc, hA⟩ := h
  refine ⟨A, L, c, e, hL, hc, fun hn => ?_⟩
  obtain ⟨b, o, eA, nb, lb, hr⟩ := hA hn
  refine ⟨b, o, eA, lb, lb, fun i hi => ?_⟩
  obtain ⟨A', L', c', h1, h2, h3, h4⟩ := hr i hi
  refine ⟨A', L', c', h1, h2, h3, fun hn' => ?_⟩
  obtain ⟨b', o', e', nb', lb', hr'⟩ := h4 hn'
  exact ⟨b', o', e', lb', lb', hr'⟩
/-- The records up to i are done. -/
structure OpI (Wst : World) (B m L : Nat) (rows : List (List UInt8)) (s : SM) (i : Nat) (si : SM) (W : World) : Prop where
  left : ofS (rows.drop i) si = some s
  st : SkC W B m L si
  only : Only (fun k => k = B ∨ k = m) Wst W
  p : si.p.ok
  sorted : SortedV si.vs
  len : si.vs.length ≤ i
theorem ofS_step {rows : List (List UInt8)} {s si : SM} {i : Nat} (h : ofS (rows.drop i) si = some s) (hi : i < rows.length) : ∃ u, readUM rows[i] = some u ∧ si.may u = 0 ∧ ofS (rows.drop (i + 1)) (si.upd u) = some s := by
  rw [List.drop_eq_getElem_cons hi] at h
  unfold ofS at h
  cases hr : readUM rows[i] with
  | none => rw [hr] at h; cases h
  | some u =>
    rw [hr] at h
    simp only at h
    split at h
    · rename_i hm
      exact ⟨u, rfl, hm, h⟩
    · cases h
theorem upd_p {s : SM} {u : UM} (h : s.p.ok) (hu : u.b.ok) : (s.upd u).p.ok := by
  unfold SM.upd
  split
  · exact hu
  · split
    · exact hu
    · exact h
theorem upd_sorted {s : SM} {u : UM} (h : SortedV s.vs) : SortedV (s.upd u).vs := by
  unfold SM.upd
  split
  · exact h
  · split
    · exact putV_sorted h
    · exact h.filter _
section
variable {P : DiskK} {K : RecK P}
set_option maxRecDepth 100000 in
theorem openDead_c (K : RecK P) {F : Nat → Prop} {w : World} {R : Nat} {d : DS} (hT : Tab w) (hP : P.Pl F w R d) (hd : d.dead = true) (hl : d.A.length ≤ 100000) : Calls Tryz.prog 13 #[.pointer (some ⟨R, 0, none⟩)] w fun e W' => e = .returned (.tuple #[.pointer none, .int .i64 20]) ∧ Below w.heap.size w W' := by
  have HC := Lib.hid (K.openDead hT hP hd hl)
  clear hT hP hd hl
  go_enter Tryz.func13, Tryz.ntmps13
  go_wp2_with fail
  refine HC.out.mono ?_
  rintro e W1 ⟨v, rfl, hv, b1⟩
  obtain ⟨A, L, c, rfl⟩ : ∃ A L c, v = .slice A L c := by
    obtain ⟨A, L, c, e, _⟩ := hv
    exact ⟨A, L, c, e⟩
  have H1 := Lib.hid b1
  clear hv b1 HC
  go_wp2
  exact bodyPost_ret (v := .tuple #[.pointer none, .int .i64 20]) (by simp [results, Tryz.results13, go_sem]) rfl ⟨rfl, H1.out⟩
set_option maxRecDepth 100000 in
set_option maxHeartbeats 4000000 in
theorem opens_c {F : Nat → Prop} {w : World} {R : Nat} {d : DS} {s : SM} (hT : Tab w) (hP : P.Pl F w R d) (hd : d.dead = false) (ho : (opn d.A d.y).2.2 = 0) (hs : ofS (opn d.A d.y).1 SM.new = some s) (hl : d.A.length ≤ 100000) (hc : ∀ k, F k → 0 < k) :
    Calls Tryz.prog 13 #[.pointer (some ⟨R, 0, none⟩)] w fun e W' => ∃ B F' G, e = .returned (.tuple #[.pointer (some ⟨B, 0, none⟩), .int .i64 0]) ∧
      P.Pl F' W' R d.opened ∧ StQ K G W' B R s ∧ Only F w W' ∧ (∀ k, F' k → F k ∨ w.heap.size ≤ k) ∧ ∀ k, G k → w.heap.size ≤ k ∧ ¬ F' k := by
  have HC := Lib.hid (K.opens hT hP hd ho hl hc)
  obtain ⟨hfit, hcnt⟩ := opn_facts d.A d.y
  obtain ⟨rows, hrows⟩ : ∃ rows, rows = (opn d.A d.y).1 := ⟨_, rfl⟩
  rw [← hrows] at HC hfit hcnt hs
  have HR := Lib.hid (And.intro hfit (And.intro (show rows.length ≤ 200000 by omega) hs))
  clear hT hP hd ho hl hc hfit hcnt hs hrows
  go_enter Tryz.func13, Tryz.ntmps13
  go_wp2_with fail
  refine HC.out.mono ?_
  rintro e W1 ⟨L, v, F', Lg, rfl, p1, l1, r1, o1, f1, g1⟩
  obtain ⟨A, N, c, rfl⟩ : ∃ A N c, v = .slice A N c := by
    obtain ⟨A, N, c, e, _⟩ := r1
    exact ⟨A, N, c, e⟩
  have hN : N = rows.length := r1.row.1
  have HO := Lib.hid (And.intro p1 (And.intro l1 (And.intro o1 (And.intro f1 g1))))
  have HRW := Lib.hid r1.lows
  clear p1 l1 r1 o1 f1 g1 HC
  have hmk := run_makeMap (P := Tryz.prog) 87 W1
  have h0 := MapQV.new W1
  obtain ⟨m, hm⟩ : ∃ m, m = W1.heap.size := ⟨_, rfl⟩
  rw [← hm] at hmk h0
  have HM := Lib.hid (And.intro hm h0)
  have HNN := Lib.hid hN
  clear hm h0 hN
  go_upto_region 5 with (fail)
  obtain ⟨V, hV⟩ : ∃ V, V = (W1.alloc (.map #[] 0)).alloc (.cells #[.pointer (some ⟨L, 0, none⟩), .int .u64 0, .int .i64 0, .int .u64 0, .string ⟨#[]⟩, .map (some m)] 89) := ⟨_, rfl⟩
  rw [← hV]
  obtain ⟨B, hB⟩ : ∃ B, B = W1.heap.size + 1 := ⟨_, rfl⟩
  rw [← hB]
  have b1 : Below W1.heap.size W1 V := by
    rw [hV]
    exact ((Below.refl _ W1).alloc (Nat.le_refl _) _).alloc (by simp) _
  have s0 : (W1.alloc (.map #[] 0)).heap.size = B := by rw [hB]; exact Array.size_push _
  have kB : V.heap[B]? = some (.cells (cellsS L m SM.new) 89 (0, 0)) := by rw [hV, ← s0]; exact World.alloc_heap_new _ _
  have kM : MapQV V m [] := by
    refine HM.out.2.keep ?_
    rw [hV]
    exact ((Below.refl (W1.alloc (.map #[] 0)).heap.size (W1.alloc (.map #[] 0))).alloc (Nat.le_refl _) _).block m (by rw [s0, HM.out.1]; omega)
  have S0 := Lib.hid (show OpI V B m L rows s 0 SM.new V from ⟨HR.out.2.2, ⟨kB, kM⟩, Only.refl _ _, B0_ok, List.Pairwise.nil, Nat.le_refl _⟩)
  have HV := Lib.hid (And.intro b1 (show W1.heap.size ≤ B ∧ W1.heap.size ≤ m by have := HM.out.1; omega))
  have hNi : (N : Int) ≤ 200000 := by have := HNN.out; have := HR.out.2.1; omega
  clear hV hB b1 s0 kB kM hmk HM
  have HRV := Lib.hid (HRW.out.grew HV.out.1)
  go_wp2
  go_loopw [27] (fun v27 wr => ∃ i : Nat, i ≤ N ∧ v27 = .int .i64 (i : Int) ∧ Hid (∃ si, OpI V B m L rows s i si wr)) (fun v _ => N - (intOf v).toNat)
  case atStart => exact ⟨0, Nat.zero_le _, rfl, Lib.hid ⟨_, S0.out⟩⟩
  case round =>
    obtain ⟨i, hi, rfl, HI⟩ := hrel
    by_cases hlt : i < N
    · have hii : (i : Int) < N := by omega
      have hir : i < rows.length := by have := HNN.out; omega
      obtain ⟨si, hsi⟩ := HI.out
      have HSI := Lib.hid hsi
      obtain ⟨u, hu1, hu2, hu3⟩ := ofS_step hsi.left hir
      have hrw : BBn (fun k => k < W1.heap.size) wr (.slice A N c) rows := HRV.out.keep hsi.only (fun k hk e => by have := HV.out.2; omega)
      obtain ⟨b, o, A', L', c', hA, hb, hcell, hL', hc', hhas⟩ := hrw.row.2.2 i hir
      subst hA
      have hfi := HR.out.1 _ (List.getElem_mem hir)
      have HRD := Lib.hid (read_c hu1 hfi.2 A' L' c' hL' hhas)
      obtain ⟨r1, r2, r3, r4, -, hk13, -, -, -, -, hus, hub, hux⟩ := readUM_some hu1 hfi.2
      have HU := Lib.hid (And.intro hu2 (And.intro hu3 (And.intro hk13 (And.intro hus (And.intro hub hux)))))
      have HJ := Lib.hid (fun (W : World) (hW : SkC W B m L si) => judge_c hW hsi.p u hub)
      have HD := Lib.hid (fun (W : World) (hW : SkC W B m L si) => do_c hW hsi.sorted (Nat.lt_of_le_of_lt hsi.len (by have := HR.out.2.1; simp only [maxLen]; omega)) u hk13.1 hk13.2 hus (Nat.le_trans hux (by decide)))
      obtain ⟨k, us, ub, ux⟩ := u
      simp only [valU, cellsU] at HRD HJ HD
      have HLT := Lib.hid (And.intro hlt hir)
      clear hsi HI hu1 hu2 hu3 hrw hb hL' hc' hhas hfi hk13 hus hub hux hlt hi hir
      go_wp2_with fail
      refine HRD.out.mono ?_
      rintro e W2 ⟨rfl, b2⟩
      have H2 := Lib.hid b2
      clear b2 hcell HRD
      go_upto_region 9 with (fail)
      obtain ⟨W3, hW3⟩ : ∃ W3, W3 = W2.alloc (.cells #[.int .u64 (k : Int), .int .u64 (us : Int), .int .u64 (ub.n : Int), .int .i64 ub.r, .string (str ux)] 91) := ⟨_, rfl⟩
      rw [← hW3]
      obtain ⟨b3, k3, _⟩ := boxU (u := ⟨k, us, ub, ux⟩) hW3
      obtain ⟨p, hp⟩ : ∃ p, p = W2.heap.size := ⟨_, rfl⟩
      rw [← hp] at k3 ⊢
      have b23 := Lib.hid (H2.out.trans (Below.mono b3 H2.out.size))
      have K3 := Lib.hid (And.intro k3 (show wr.heap.size ≤ p by rw [hp]; exact H2.out.size))
      have S3 := HSI.out.st.below b23.out
      have HJJ := HJ.out W3 S3
      rw [HU.out.1] at HJJ
      have HJ2 := Lib.hid HJJ
      have y0 : W3.cell? ⟨p, 0, none⟩ = some (.int .u64 (k : Int)) := blk_cell k3 0
      have y1 : W3.cell? ⟨p, 1, none⟩ = some (.int .u64 (us : Int)) := blk_cell k3 1
      have y2 : W3.cell? ⟨p, 2, none⟩ = some (.int .u64 (ub.n : Int)) := blk_cell k3 2
      have y3 : W3.cell? ⟨p, 3, none⟩ = some (.int .i64 ub.r) := blk_cell k3 3
      have y4 : W3.cell? ⟨p, 4, none⟩ = some (.string (str ux)) := blk_cell k3 4
      clear hW3 b3 k3 hp S3 HJJ HJ
      go_wp2_with fail
      refine HJ2.out.mono ?_
      rintro e W4 ⟨rfl, b4⟩
      have k4 := (b4.block p (Array.getElem?_eq_some_iff.1 K3.out.1).1).trans K3.out.1
      have b24 := Lib.hid (b23.out.trans (Below.mono b4 b23.out.size))
      have HDD := Lib.hid (HD.out W4 (HSI.out.st.below b24.out))
      clear y0 y1 y2 y3 y4 b4 HJ2 HD
      have y0 : W4.cell? ⟨p, 0, none⟩ = some (.int .u64 (k : Int)) := blk_cell k4 0
      have y1 : W4.cell? ⟨p, 1, none⟩ = some (.int .u64 (us : Int)) := blk_cell k4 1
      have y2 : W4.cell? ⟨p, 2, none⟩ = some (.int .u64 (ub.n : Int)) := blk_cell k4 2
      have y3 : W4.cell? ⟨p, 3, none⟩ = some (.int .i64 ub.r) := blk_cell k4 3
      have y4 : W4.cell? ⟨p, 4, none⟩ = some (.string (str ux)) := blk_cell k4 4
      clear k4
      go_wp2_with fail
      refine HDD.out.mono ?_
      rintro e W5 ⟨rfl, h5, o5⟩
      have HS5 := Lib.hid (show OpI V B m L rows s (i + 1) (si.upd ⟨k, us, ub, ux⟩) W5 from
        ⟨HU.out.2.1, h5, (HSI.out.only.grew b24.out).trans o5 (fun _ => .inl), upd_p HSI.out.p HU.out.2.2.2.2.1, upd_sorted HSI.out.sorted, by have := upd_len si ⟨k, us, ub, ux⟩; have := HSI.out.len; omega⟩)
      have hlt := HLT.out.1
      have HL1 := Lib.hid hlt
      clear h5 o5 HDD y0 y1 y2 y3 y4 hlt
      go_wp2
      exact ⟨⟨i + 1, by have := HL1.out; omega, rfl, Lib.hid ⟨_, HS5.out⟩⟩, by have := HL1.out; simp only [intOf]; omega⟩
    · obtain rfl : i = N := by omega
      have hii : ¬ (i : Int) < (i : Int) := by omega
      have HE := HI
      clear HI hlt hi
      go_wp2
      obtain ⟨si, hsi⟩ := HE.out
      have hsi' : si = s := by
        have h := hsi.left
        rw [HNN.out, List.drop_length] at h
        exact Option.some.inj h
      subst hsi'
      obtain ⟨p1, l1, o1, f1, g1⟩ := HO.out
      obtain ⟨b1, hBm⟩ := HV.out
      have sz1 := o1.size
      have dF : ∀ k, F' k → ¬ (k = B ∨ k = m) := fun k hk e => by have := P.lt p1 k hk; omega
      have dL : ∀ k, Lg k → ¬ (k = B ∨ k = m) := fun k hk e => by have := K.lt l1 k hk; omega
      have og := Only.of_grew (F := fun _ => False) b1
      have oW : Only (fun k => k = B ∨ k = m) W1 wr := (Only.of_grew b1).trans hsi.only (fun _ => .inl)
      refine bodyPost_ret (v := .tuple #[.pointer (some ⟨B, 0, none⟩), .int .i64 0]) (by simp [results, Tryz.results13, go_sem]) rfl ⟨B, rfl, F', P.keep p1 oW dF, fun k => (k = B ∨ k = m) ∨ Lg k, ⟨L, m, Lg, hsi.st, K.keep l1 oW dL, fun h => dL B h (.inl rfl), fun h => dL m h (.inr rfl), fun k => Iff.rfl⟩, ?_, f1, ?_⟩
      · exact o1.trans oW (fun k hk => .inr (by omega))
      · rintro k (hk | hk)
        · exact ⟨by omega, fun h => dF k h hk⟩
        · exact g1 k hk
end
end Go.Proofs.YtdiihaeelcbjbaaGreatDoor
