/- A store over a log of the program; a set. SetPromise, SetVote, SetSnap, Sync. -/
import Derived.Test.YtdiihaeelcbjbaaGreatDoorMSF
-- SbI
namespace Go.Proofs.YtdiihaeelcbjbaaGreatDoor
open Go.RowKit Go.Maps Go.WideMaps

/-- A store at block B, over a log on the disk R. -/
def StQ {P : DiskK} (K : RecK P) (G : Nat → Prop) (w : World) (B R : Nat) (s : SM) : Prop := ∃ L m Lg, SkC w B m L s ∧ K.Lg Lg w L R ∧ ¬ Lg B ∧ ¬ Lg m ∧ ∀ k, G k ↔ (k = B ∨ k = m) ∨ Lg k
section
variable {P : DiskK} {K : RecK P} {F G : Nat → Prop} {w w' : World} {B R : Nat} {s : SM}
theorem StQ.keep (h : StQ K G w B R s) (o : Only F w w') (hd : ∀ k, G k → ¬ F k) : StQ K G w' B R s := by
  obtain ⟨L, m, Lg, h1, h2, h3, h4, h5⟩ := h
  exact ⟨L, m, Lg, h1.only o (hd B ((h5 B).2 (.inl (.inl rfl)))) (hd m ((h5 m).2 (.inl (.inr rfl)))), K.keep h2 o (fun k hk => hd k ((h5 k).2 (.inr hk))), h3, h4, h5⟩
theorem StQ.lt (h : StQ K G w B R s) : ∀ k, G k → k < w.heap.size := by
  obtain ⟨L, m, Lg, h1, h2, h3, h4, h5⟩ := h
  intro k hk
  rcases (h5 k).1 hk with (rfl | rfl) | hk
  · exact h1.lt
  · exact h1.mlt
  · exact K.lt h2 k hk
end
/-- What an Append of the log leaves. -/
def AppP {P : DiskK} (K : RecK P) (F Lg : Nat → Prop) (w : World) (L R : Nat) (d : DS) (W' : World) : Prop := ∃ F' Lg', P.Pl F' W' R d ∧ K.Lg Lg' W' L R ∧ (∀ k, Lg' k → ¬ F' k) ∧ Only (fun k => F k ∨ Lg k) w W' ∧ ∀ k, F' k ∨ Lg' k → F k ∨ Lg k ∨ w.heap.size ≤ k
theorem set_fin {P : DiskK} {K : RecK P} {F G Lg : Nat → Prop} {w w1 w2 w3 : World} {B R L m : Nat} {s s' : SM} {d' : DS} (h1 : SkC w B m L s) (h3 : ¬ Lg B) (h4 : ¬ Lg m) (h5 : ∀ k, G k ↔ (k = B ∨ k = m) ∨ Lg k) (hd : ∀ k, G k → ¬ F k)
    (b1 : Below w.heap.size w w1) (ha : AppP K F Lg w1 L R d' w2) (hs : SkC w3 B m L s') (o3 : Only (fun k => k = B ∨ k = m) w2 w3) :
    ∃ F' G', P.Pl F' w3 R d' ∧ StQ K G' w3 B R s' ∧ (∀ k, G' k → ¬ F' k) ∧ Only (fun k => F k ∨ G k) w w3 ∧ ∀ k, F' k ∨ G' k → F k ∨ G k ∨ w.heap.size ≤ k := by
  obtain ⟨F', Lg', a1, a2, a3, a4, a5⟩ := ha
  have sz := b1.size
  have nn : ∀ k, (k = B ∨ k = m) → ¬ (F' k ∨ Lg' k) := fun k hk hf => by
    have hlt : k < w.heap.size := by
      rcases hk with rfl | rfl
      · exact h1.lt
      · exact h1.mlt
    rcases a5 k hf with h | h | h
    · exact hd k ((h5 k).2 (.inl hk)) h
    · rcases hk with rfl | rfl
      · exact h3 h
      · exact h4 h
    · omega
  refine ⟨F', fun k => (k = B ∨ k = m) ∨ Lg' k, P.keep a1 o3 (fun k hk hb => nn k hb (.inl hk)), ⟨L, m, Lg', hs, K.keep a2 o3 (fun k hk hb => nn k hb (.inr hk)), fun h => nn B (.inl rfl) (.inr h), fun h => nn m (.inr rfl) (.inr h), fun k => Iff.rfl⟩, ?_, ?_, ?_⟩
  · rintro k (hk | hk)
    · exact fun h => nn k hk (.inl h)
    · exact a3 k hk
  · have o1 : Only (fun k => F k ∨ G k) w w2 := (Only.of_grew b1).trans (a4.mono (G := fun k => F k ∨ G k) fun k _ hk => hk.imp id (fun h => (h5 k).2 (.inr h))) (fun _ => .inl)
    exact o1.trans o3 (fun k hk => .inl (.inr ((h5 k).2 (.inl hk))))
  · rintro k (hk | hk | hk)
    · rcases a5 k (.inl hk) with h | h | h
      · exact .inl h
      · exact .inr (.inl ((h5 k).2 (.inr h)))
      · exact .inr (.inr (by omega))
    · exact .inr (.inl ((h5 k).2 (.inl hk)))
    · rcases a5 k (.inr hk) with h | h | h
      · exact .inl h
      · exact .inr (.inl ((h5 k).2 (.inr h)))
      · exact .inr (.inr (by omega))
set_option maxRecDepth 100000 in
set_option maxHeartbeats 4000000 in
theorem set_c {P : DiskK} {K : RecK P} {F G : Nat → Prop} {w : World} {B R : Nat} {d : DS} {s : SM} (u : UM) (hT : Tab w) (hP : P.Pl F w R d) (hS : StQ K G w B R s) (hd : ∀ k, G k → ¬ F k) (hok : s.ok) (hn : s.vs.length < maxLen) (hl : d.A.length ≤ 10000000) (hu : u.ok) (hx : u.x.length ≤ 60000) (hc : ∀ k, F k ∨ G k → 0 < k) :
    Calls Tryz.prog 47 #[.pointer (some ⟨B, 0, none⟩), valU u] w (TurnsS P.Pl (StQ K) F G w R B (s.on d u)) := by
  obtain ⟨L, m, Lg, h1, h2, h3, h4, h5⟩ := hS
  obtain ⟨r, hr⟩ : ∃ r, r = s.on d u := ⟨_, rfl⟩
  obtain ⟨em, hem⟩ : ∃ e, e = s.may u := ⟨_, rfl⟩
  have HJ := fun (W : World) (hW : SkC W B m L s) => judge_c hW hok.p u hu.b
  have HD := fun (W : World) (hW : SkC W B m L s) => do_c hW hok.sorted hn u hu.k1 hu.k3 hu.s (Nat.le_trans hu.x (by decide))
  have HR := fun (W : World) (hm : em = 0) => record_c u hu (may_fit (by rw [← hem]; exact hm)) W
  have hrl : em = 0 → (bytesUM u).length ≤ 200000 := fun hm => by
    have := bytesUM_len hu (may_fit (by rw [← hem]; exact hm))
    omega
  have HSt := Lib.hid (And.intro h1 (And.intro h3 (And.intro h4 (And.intro h5 hd))))
  have HA : ∀ W, Below w.heap.size w W → em = 0 → ∀ w', Below W.drew.heap.size W.drew w' → ∀ g M c, w'.ownsRow W.drew.heap.size 5 1 (.slice (some ⟨g, 0, none⟩) M c) M ((bytesUM u).map enc) → Calls Tryz.prog 79 #[.pointer (some ⟨L, 0, none⟩), .slice (some ⟨g, 0, none⟩) M c] w' fun e W' => e = .returned (.int .i64 ((d.recd (bytesUM u)).2 : Int)) ∧ AppP K F Lg W.drew L R (d.recd (bytesUM u)).1 W' := fun W hb hm w' hb' g M c ho => by
    have hbw : Below w.heap.size w w' := hb.drew.trans (Below.mono hb' hb.size)
    have og := Only.of_grew (F := fun _ => False) hbw
    have hM := own_len ho
    have hMc : M ≤ c := by
      rcases ho.2 with ⟨_, h0⟩ | ⟨g', cap, cur, hv, _, _, h6, _⟩
      · omega
      · cases hv
        exact h6
    have hlen := hrl hm
    refine (K.app (some ⟨g, 0, none⟩) M c (bytesUM u) (hT.grew hbw) (P.keep hP og (fun _ _ => id)) (K.keep h2 og (fun _ _ => id)) (fun k hk => hd k ((h5 k).2 (.inr hk))) hM hMc (by omega) (by omega) (HasA.of_own ho) (fun k hk => hc k (hk.imp id fun h => (h5 k).2 (.inr h)))).mono ?_
    rintro e W' ⟨he, F', Lg', a1, a2, a3, a4, a5⟩
    refine ⟨he, F', Lg', a1, a2, a3, (Only.of_grew hb').trans a4 (fun _ => .inl), fun k hk => ?_⟩
    rcases a5 k hk with h | h | h
    · exact .inl h
    · exact .inr (.inl h)
    · exact .inr (.inr (Nat.le_trans hb'.size h))
  have HON : r = if em ≠ 0 then ((d, s), em) else (((d.recd (bytesUM u)).1, if (d.recd (bytesUM u)).2 = 0 then s.upd u else s), (d.recd (bytesUM u)).2) := by rw [hr, hem]; rfl
  have HKP : ∀ W, Below w.heap.size w W → ∃ F' G', P.Pl F' W R d ∧ StQ K G' W B R s ∧ (∀ k, G' k → ¬ F' k) ∧ Only (fun k => F k ∨ G k) w W ∧ ∀ k, F' k ∨ G' k → F k ∨ G k ∨ w.heap.size ≤ k := fun W hb =>
    have og := Only.of_grew (F := fun _ => False) hb
    ⟨F, G, P.keep hP og (fun _ _ => id), StQ.keep ⟨L, m, Lg, h1, h2, h3, h4, h5⟩ og (fun _ _ => id), hd, Only.of_grew hb, fun k hk => hk.elim .inl (fun h => .inr (.inl h))⟩
  have HLT := Lib.hid (show ∀ k, F k ∨ Lg k → k < w.heap.size from fun k hk => hk.elim (P.lt hP k) (K.lt h2 k))
  have H1 := Lib.hid h1
  have HHA := Lib.hid HA
  have HHON := Lib.hid HON
  have HHKP := Lib.hid HKP
  rw [← hr]
  rw [← hem] at HJ
  obtain ⟨k, us, ub, ux⟩ := u
  simp only [valU, cellsU] at HJ HD HR ⊢
  have HHJ := Lib.hid HJ
  have HHD := Lib.hid HD
  have HHR := Lib.hid HR
  clear HJ HD HR hrl HA HON HKP h1 h2 h3 h4 h5 hT hP hd hok hn hl hu hx hc hr hem
  go_enter Tryz.func47, Tryz.ntmps47
  go_upto_region 1 with (fail)
  obtain ⟨W0, hW0⟩ : ∃ W0, W0 = w.alloc (.cells #[.int .u64 (k : Int), .int .u64 (us : Int), .int .u64 (ub.n : Int), .int .i64 ub.r, .string (str ux)] 91) := ⟨_, rfl⟩
  rw [← hW0]
  obtain ⟨b0, k0, _⟩ := boxU (u := ⟨k, us, ub, ux⟩) hW0
  obtain ⟨p, hp⟩ : ∃ p, p = w.heap.size := ⟨_, rfl⟩
  have HB0 := Lib.hid b0
  rw [← hp] at k0 ⊢
  have K0 := Lib.hid k0
  have y0 : W0.cell? ⟨p, 0, none⟩ = some (.int .u64 (k : Int)) := blk_cell k0 0
  have y1 : W0.cell? ⟨p, 1, none⟩ = some (.int .u64 (us : Int)) := blk_cell k0 1
  have y2 : W0.cell? ⟨p, 2, none⟩ = some (.int .u64 (ub.n : Int)) := blk_cell k0 2
  have y3 : W0.cell? ⟨p, 3, none⟩ = some (.int .i64 ub.r) := blk_cell k0 3
  have y4 : W0.cell? ⟨p, 4, none⟩ = some (.string (str ux)) := blk_cell k0 4
  have HPW := Lib.hid (show w.heap.size ≤ p by omega)
  have HC := Lib.hid (HHJ.out W0 (H1.out.below b0))
  clear hW0 b0 k0 hp
  go_wp2_with fail
  refine HC.out.mono ?_
  rintro e W1 ⟨rfl, b1⟩
  have HB1 := Lib.hid (HB0.out.trans (Below.mono b1 HB0.out.size))
  have K1 := Lib.hid ((b1.block p (Array.getElem?_eq_some_iff.1 K0.out).1).trans K0.out)
  clear b1 y0 y1 y2 y3 y4 K0 HC HB0
  by_cases he : em = 0
  case neg =>
    have hei : ((em : Int) != 0) = true := by simp; omega
    have hr : r = ((d, s), em) := by rw [HHON.out, if_pos he]
    have HRR := Lib.hid hr
    clear he hr
    go_wp2
    go_ret
    rw [HRR.out]
    exact ⟨rfl, HHKP.out W1 HB1.out⟩
  have HE := Lib.hid he
  subst he
  go_upto_region 6 with (fail)
  have hA := HHA.out W1 HB1.out trivial
  have hR := fun W => HHR.out W trivial
  have hON := HHON.out
  rw [if_neg (by decide)] at hON
  obtain ⟨X, hX⟩ : ∃ X, X = bytesUM ⟨k, us, ub, ux⟩ := ⟨_, rfl⟩
  rw [← hX] at hA hR hON
  obtain ⟨rc, hrc⟩ : ∃ rc, rc = d.recd X := ⟨_, rfl⟩
  rw [← hrc] at hA hON
  obtain ⟨d', er⟩ := rc
  simp only at hA hON
  have h1 := H1.out.below HB1.out
  have HON2 := Lib.hid hON
  clear hX hrc hON HHA HHR HHON HHJ HE
  refine set_r B p k us L er ub ux X (AppP K F Lg W1.drew L R d') _ W1 _ rfl rfl rfl (show p < W1.drew.heap.size from (Array.getElem?_eq_some_iff.1 K1.out).1) (show B < W1.drew.heap.size from h1.lt) (show W1.cell? ⟨p, 0, none⟩ = _ from blk_cell K1.out 0) (show W1.cell? ⟨p, 1, none⟩ = _ from blk_cell K1.out 1) (show W1.cell? ⟨p, 2, none⟩ = _ from blk_cell K1.out 2) (show W1.cell? ⟨p, 3, none⟩ = _ from blk_cell K1.out 3) (show W1.cell? ⟨p, 4, none⟩ = _ from blk_cell K1.out 4) (show W1.cell? ⟨B, 0, none⟩ = _ from h1.at 0) hR hA ⟨fun _ => Below.refl _ _, (fun h => by cases h), (fun h => by cases h)⟩ ?_
  intro uv W2 hws
  have hap := hws.2.2 rfl
  have b1d : Below w.heap.size w W1.drew := HB1.out.drew
  have HAP := Lib.hid hap
  have hs2 : SkC W2 B m L s ∧ W2.heap[p]? = some (.cells (cellsU ⟨k, us, ub, ux⟩) 91 (0, 0)) := by
    obtain ⟨F', Lg', a1, a2, a3, a4, a5⟩ := hap
    refine ⟨(h1.keep rfl rfl : SkC W1.drew B m L s).only a4 ?_ ?_, (a4.block p (show p < W1.drew.heap.size from (Array.getElem?_eq_some_iff.1 K1.out).1) ?_).trans K1.out⟩
    · rintro (h | h)
      · exact HSt.out.2.2.2.2 B ((HSt.out.2.2.2.1 B).2 (.inl (.inl rfl))) h
      · exact HSt.out.2.1 h
    · rintro (h | h)
      · exact HSt.out.2.2.2.2 m ((HSt.out.2.2.2.1 m).2 (.inl (.inr rfl))) h
      · exact HSt.out.2.2.1 h
    · intro h
      have := HLT.out p h
      have := HPW.out
      omega
  simp only [puts, List.foldl_cons, List.foldl_nil, Act.put, List.setIfInBounds_toArray, List.set_cons_succ, List.set_cons_zero]
  have HS2 := Lib.hid hs2
  clear hws hap hs2 hA hR h1 b1d
  by_cases hz : er = 0
  case neg =>
    have hei : ((er : Int) != 0) = true := by simp; omega
    have hr : r = ((d', s), er) := by rw [HON2.out, if_neg hz]
    have HRR := Lib.hid hr
    clear hz hr
    go_wp2
    go_ret
    rw [HRR.out]
    exact ⟨rfl, set_fin H1.out HSt.out.2.1 HSt.out.2.2.1 HSt.out.2.2.2.1 HSt.out.2.2.2.2 HB1.out.drew HAP.out HS2.out.1 (Only.refl _ _)⟩
  subst hz
  have hr : r = ((d', s.upd ⟨k, us, ub, ux⟩), 0) := by rw [HON2.out, if_pos rfl]
  have HRR := Lib.hid hr
  clear hr HON2
  have y0 : W2.cell? ⟨p, 0, none⟩ = some (.int .u64 (k : Int)) := blk_cell HS2.out.2 0
  have y1 : W2.cell? ⟨p, 1, none⟩ = some (.int .u64 (us : Int)) := blk_cell HS2.out.2 1
  have y2 : W2.cell? ⟨p, 2, none⟩ = some (.int .u64 (ub.n : Int)) := blk_cell HS2.out.2 2
  have y3 : W2.cell? ⟨p, 3, none⟩ = some (.int .i64 ub.r) := blk_cell HS2.out.2 3
  have y4 : W2.cell? ⟨p, 4, none⟩ = some (.string (str ux)) := blk_cell HS2.out.2 4
  have HC := Lib.hid (HHD.out W2 HS2.out.1)
  go_wp2_with fail
  refine HC.out.mono ?_
  rintro e W3 ⟨rfl, h3, o3⟩
  have H3 := Lib.hid (And.intro h3 o3)
  clear h3 o3 y0 y1 y2 y3 y4 HC
  go_wp2
  go_ret
  rw [HRR.out]
  exact ⟨rfl, set_fin H1.out HSt.out.2.1 HSt.out.2.2.1 HSt.out.2.2.2.1 HSt.out.2.2.2.2 HB1.out.drew HAP.out H3.out.1 H3.out.2⟩
end Go.Proofs.YtdiihaeelcbjbaaGreatDoor

-- SbJ
namespace Go.Proofs.YtdiihaeelcbjbaaGreatDoor
open Go.RowKit Go.Maps Go.WideMaps

theorem TurnsS.from {Pl : (Nat → Prop) → World → Nat → DS → Prop} {St : (Nat → Prop) → World → Nat → Nat → SM → Prop} {F G : Nat → Prop} {w W W' : World} {R B : Nat} {r : (DS × SM) × Nat} {e : Ending} (h : TurnsS Pl St F G W R B r e W') (hb : Below w.heap.size w W) : TurnsS Pl St F G w R B r e W' := by
  obtain ⟨he, F', G', a1, a2, a3, a4, a5⟩ := h
  exact ⟨he, F', G', a1, a2, a3, (Only.of_grew hb).trans a4 (fun _ => .inl), fun k hk => (a5 k hk).imp id fun h => h.imp id fun h => Nat.le_trans hb.size h⟩
section
variable {P : DiskK} {K : RecK P} {F G : Nat → Prop} {w : World} {B R : Nat} {d : DS} {s : SM}
/-- set, in any later world. -/
theorem set_at (u : UM) (hT : Tab w) (hP : P.Pl F w R d) (hS : StQ K G w B R s) (hd : ∀ k, G k → ¬ F k) (hok : s.ok) (hn : s.vs.length ≤ 1000) (hl : d.A.length ≤ 10000000) (hu : u.ok) (hx : u.x.length ≤ 60000) (hc : ∀ k, F k ∨ G k → 0 < k) :
    ∀ W, Below w.heap.size w W → Calls Tryz.prog 47 #[.pointer (some ⟨B, 0, none⟩), valU u] W (TurnsS P.Pl (StQ K) F G w R B (s.on d u)) := fun W hb =>
  have og := Only.of_grew (F := fun _ => False) hb
  (set_c u (hT.grew hb) (P.keep hP og (fun _ _ => id)) (hS.keep og (fun _ _ => id)) hd hok (Nat.lt_of_le_of_lt hn (by decide)) hl hu hx hc).mono fun _ _ h => h.from hb
set_option maxRecDepth 100000 in
theorem setP_c (b : BA) (hT : Tab w) (hP : P.Pl F w R d) (hS : StQ K G w B R s) (hd : ∀ k, G k → ¬ F k) (hok : s.ok) (hn : s.vs.length ≤ 1000) (hl : d.A.length ≤ 10000000) (hb : b.ok) (hc : ∀ k, F k ∨ G k → 0 < k) :
    Calls Tryz.prog 15 #[.pointer (some ⟨B, 0, none⟩), .agg #[.int .u64 (b.n : Int), .int .i64 b.r]] w (TurnsS P.Pl (StQ K) F G w R B (s.on d ⟨1, 0, b, []⟩)) := by
  obtain ⟨r, hr⟩ : ∃ r, r = s.on d ⟨1, 0, b, []⟩ := ⟨_, rfl⟩
  have HC := set_at ⟨1, 0, b, []⟩ hT hP hS hd hok hn hl (um1 hb) (Nat.zero_le _) hc
  rw [← hr] at HC ⊢
  have HH := Lib.hid (show ∀ W, Below w.heap.size w W → Calls Tryz.prog 47 #[.pointer (some ⟨B, 0, none⟩), .agg #[.int .u64 1, .int .u64 0, .int .u64 (b.n : Int), .int .i64 b.r, .string ⟨#[]⟩]] W (TurnsS P.Pl (StQ K) F G w R B r) from HC)
  clear HC hr hT hP hS hd hok hn hl hb hc
  go_enter Tryz.func15, Tryz.ntmps15
  go_upto_region 1 with (fail)
  obtain ⟨W0, hW0⟩ : ∃ W0, W0 = w.alloc (.cells #[.int .u64 (b.n : Int), .int .i64 b.r] 25) := ⟨_, rfl⟩
  rw [← hW0]
  obtain ⟨b0, k0, s0⟩ := boxBA hW0
  obtain ⟨g, hg⟩ : ∃ p, p = w.heap.size := ⟨_, rfl⟩
  have HB := Lib.hid b0
  rw [← hg] at k0 ⊢
  have z0 : W0.cell? ⟨g, 0, none⟩ = some (.int .u64 (b.n : Int)) := blk_cell k0 0
  have z1 : W0.cell? ⟨g, 1, none⟩ = some (.int .i64 b.r) := blk_cell k0 1
  have HS := Lib.hid (HH.out W0 HB.out)
  clear hW0 b0 k0 s0 hg HH
  go_wp2_with fail
  refine HS.out.mono ?_
  rintro e W1 ⟨rfl, h1⟩
  have H1 := Lib.hid h1
  clear h1 z0 z1 HS
  go_wp2
  go_ret
  exact ⟨rfl, H1.out⟩
set_option maxRecDepth 100000 in
theorem setV_c (n : Nat) (b : BA) (A : Option Addr) (L c : Nat) (x : List UInt8) (hT : Tab w) (hP : P.Pl F w R d) (hS : StQ K G w B R s) (hd : ∀ k, G k → ¬ F k) (hok : s.ok) (hn : s.vs.length ≤ 1000) (hl : d.A.length ≤ 10000000) (hs : n < 18446744073709551616) (hb : b.ok) (hL : L = x.length) (hx : L ≤ 1000) (hA : HasA w w.heap.size A x) (hc : ∀ k, F k ∨ G k → 0 < k) :
    Calls Tryz.prog 29 #[.pointer (some ⟨B, 0, none⟩), .agg #[.int .u64 (n : Int), .int .u64 (b.n : Int), .int .i64 b.r, .slice A L c]] w (TurnsS P.Pl (StQ K) F G w R B (s.on d ⟨2, n, b, x⟩)) := by
  obtain ⟨r, hr⟩ : ∃ r, r = s.on d ⟨2, n, b, x⟩ := ⟨_, rfl⟩
  have HC := set_at ⟨2, n, b, x⟩ hT hP hS hd hok hn hl (um2 hs hb (by omega)) (show x.length ≤ 60000 by omega) hc
  rw [← hr] at HC ⊢
  have HH := Lib.hid (show ∀ W, Below w.heap.size w W → Calls Tryz.prog 47 #[.pointer (some ⟨B, 0, none⟩), .agg #[.int .u64 2, .int .u64 (n : Int), .int .u64 (b.n : Int), .int .i64 b.r, .string (str x)]] W (TurnsS P.Pl (StQ K) F G w R B r) from HC)
  have HX := Lib.hid (And.intro hL hA)
  clear HC hr hT hP hS hd hok hn hl hb hc hs hL hx hA
  go_enter Tryz.func29, Tryz.ntmps29
  go_upto_region 1 with (fail)
  obtain ⟨W0, hW0⟩ : ∃ W0, W0 = w.alloc (.cells #[.int .u64 (n : Int), .int .u64 (b.n : Int), .int .i64 b.r, .slice A L c] 68) := ⟨_, rfl⟩
  rw [← hW0]
  obtain ⟨g, hg⟩ : ∃ p, p = w.heap.size := ⟨_, rfl⟩
  have b0 : Below w.heap.size w W0 := by rw [hW0]; exact (Below.refl _ w).alloc (Nat.le_refl _) _
  have k0 : W0.heap[g]? = some (.cells #[.int .u64 (n : Int), .int .u64 (b.n : Int), .int .i64 b.r, .slice A L c] 68 (0, 0)) := by rw [hW0, hg]; exact World.alloc_heap_new w _
  rw [← hg]
  have z0 : W0.cell? ⟨g, 0, none⟩ = some (.int .u64 (n : Int)) := blk_cell k0 0
  have z1 : W0.cell? ⟨g, 1, none⟩ = some (.int .u64 (b.n : Int)) := blk_cell k0 1
  have z2 : W0.cell? ⟨g, 2, none⟩ = some (.int .i64 b.r) := blk_cell k0 2
  have z3 : W0.cell? ⟨g, 3, none⟩ = some (.slice A L c) := blk_cell k0 3
  have hcv := run_conv (HX.out.2.below' b0) c Tryz.underlying39 Tryz.underlying5 Tryz.underlying9 HX.out.1
  have HS := Lib.hid (HH.out W0 b0)
  clear hW0 b0 k0 hg HH
  go_wp2_with fail
  refine HS.out.mono ?_
  rintro e W1 ⟨rfl, h1⟩
  have H1 := Lib.hid h1
  clear h1 z0 z1 z2 z3 HS hcv
  go_wp2
  go_ret
  exact ⟨rfl, H1.out⟩
set_option maxRecDepth 100000 in
theorem setS_c (n : Nat) (A : Option Addr) (L c : Nat) (x : List UInt8) (hT : Tab w) (hP : P.Pl F w R d) (hS : StQ K G w B R s) (hd : ∀ k, G k → ¬ F k) (hok : s.ok) (hn : s.vs.length ≤ 1000) (hl : d.A.length ≤ 10000000) (hs : n < 18446744073709551616) (hL : L = x.length) (hx : L ≤ 1000) (hA : HasA w w.heap.size A x) (hc : ∀ k, F k ∨ G k → 0 < k) :
    Calls Tryz.prog 17 #[.pointer (some ⟨B, 0, none⟩), .int .u64 (n : Int), .slice A L c] w (TurnsS P.Pl (StQ K) F G w R B (s.on d ⟨3, n, B0, x⟩)) := by
  obtain ⟨r, hr⟩ : ∃ r, r = s.on d ⟨3, n, B0, x⟩ := ⟨_, rfl⟩
  have HC := set_at ⟨3, n, B0, x⟩ hT hP hS hd hok hn hl (um3 hs (by omega)) (show x.length ≤ 60000 by omega) hc
  rw [← hr] at HC ⊢
  have HH := Lib.hid (show ∀ W, Below w.heap.size w W → Calls Tryz.prog 47 #[.pointer (some ⟨B, 0, none⟩), .agg #[.int .u64 3, .int .u64 (n : Int), .int .u64 0, .int .i64 0, .string (str x)]] W (TurnsS P.Pl (StQ K) F G w R B r) from HC)
  have hcv := run_conv hA c Tryz.underlying39 Tryz.underlying5 Tryz.underlying9 hL
  have HS := Lib.hid (HH.out w (Below.refl _ _))
  clear HC hr hT hP hS hd hok hn hl hc hs hL hx hA HH
  go_enter Tryz.func17, Tryz.ntmps17
  go_wp2_with fail
  refine HS.out.mono ?_
  rintro e W1 ⟨rfl, h1⟩
  have H1 := Lib.hid h1
  clear h1 HS hcv
  go_wp2
  go_ret
  exact ⟨rfl, H1.out⟩
set_option maxRecDepth 100000 in
theorem sync_c (hP : P.Pl F w R d) (hS : StQ K G w B R s) (hd : ∀ k, G k → ¬ F k) : Calls Tryz.prog 14 #[.pointer (some ⟨B, 0, none⟩)] w (TurnsS P.Pl (StQ K) F G w R B ((d.sync.1, s), d.sync.2)) := by
  obtain ⟨L, m, Lg, h1, h2, h3, h4, h5⟩ := hS
  have c0 : w.cell? ⟨B, 0, none⟩ = some (.pointer (some ⟨L, 0, none⟩)) := h1.at 0
  have HC := Lib.hid (K.sync hP h2 (fun k hk => hd k ((h5 k).2 (.inr hk))))
  have HST := Lib.hid (And.intro h1 (And.intro h3 (And.intro h4 (And.intro h5 hd))))
  clear h1 h2 h3 h4 h5 hP hd
  go_enter Tryz.func14, Tryz.ntmps14
  go_wp2_with fail
  refine HC.out.mono ?_
  rintro e W1 ⟨rfl, ha⟩
  have HA := Lib.hid (show AppP K F Lg w L R d.sync.1 W1 from ha)
  clear ha HC c0
  go_wp2
  go_ret
  obtain ⟨h1, h3, h4, h5, hd⟩ := HST.out
  have hs : SkC W1 B m L s := by
    obtain ⟨F', Lg', a1, a2, a3, a4, a5⟩ := HA.out
    refine h1.only a4 ?_ ?_
    · rintro (h | h)
      · exact hd B ((h5 B).2 (.inl (.inl rfl))) h
      · exact h3 h
    · rintro (h | h)
      · exact hd m ((h5 m).2 (.inl (.inr rfl))) h
      · exact h4 h
  exact ⟨rfl, set_fin h1 h3 h4 h5 hd (Below.refl _ _) HA.out hs (Only.refl _ _)⟩
end
end Go.Proofs.YtdiihaeelcbjbaaGreatDoor
