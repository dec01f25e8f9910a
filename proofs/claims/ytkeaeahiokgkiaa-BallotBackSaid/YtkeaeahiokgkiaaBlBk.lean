/- BallotBack's walk. -/
import Derived.Test.YtkeaeahiokgkiaaBlCa
namespace Go.Proofs.Ytkeaeahiokgkiaa
open Go.RowKit

theorem infoBA : (Try.prog.info? 25).map (fun i => (i.zero, i.size, i.bytes)) = some (some (.agg #[.int .u64 0, .int .i64 0]), 2, 16) := by kernel_rfl
theorem infoBA_parts : ∃ i, Try.prog.info? 25 = some i ∧ i.zero = some (.agg #[.int .u64 0, .int .i64 0]) ∧ i.size = 2 ∧ i.bytes = 16 := by
  have h := infoBA
  cases hi : Try.prog.info? 25 with
  | none => rw [hi] at h; cases h
  | some i => rw [hi] at h; simp at h; exact ⟨i, rfl, h.1, h.2.1, h.2.2⟩
def cellsBAs (l : List BA) : List Value := l.flatMap BA.cells
theorem cellsBAs_len : ∀ (l : List BA), (cellsBAs l).length = l.length * 2
  | [] => rfl
  | a :: l => by
    have := cellsBAs_len l
    unfold cellsBAs at this ⊢
    rw [List.flatMap_cons, List.length_append, this, show a.cells.length = 2 from rfl, List.length_cons]
    omega
theorem cellsBAs_one (l : List BA) : ∀ u ∈ cellsBAs l, u.oneCell' = true := by
  intro u hu
  obtain ⟨a, _, ha⟩ := List.mem_flatMap.1 hu
  simp [BA.cells] at ha
  rcases ha with rfl | rfl <;> rfl
/-- Ballots that a call owns. -/
def OwnBA (base : Nat) (w : World) (v : Value) (l : List BA) : Prop := w.ownsRow base 25 2 v l.length (cellsBAs l)
theorem OwnBA.form {base : Nat} {w : World} {v : Value} {l : List BA} (h : OwnBA base w v l) : ∃ A c, v = .slice A l.length c := by
  rcases h.2 with ⟨rfl, h0⟩ | ⟨g, cap, cur, rfl, _⟩
  · exact ⟨none, 0, by rw [h0]⟩
  · exact ⟨_, _, rfl⟩
theorem OwnBA.below {base : Nat} {w w' : World} {v : Value} {l : List BA} (h : OwnBA base w v l) (hb : Below w.heap.size w w') : OwnBA base w' v l := by
  refine World.ownsRow.kept h (grownBy_of_below (r := none) hb) ?_
  cases v.ownBlock with
  | none => exact .inl rfl
  | some x => exact .inr (by simp)
theorem OwnBA.has {base : Nat} {w : World} {A : Option Addr} {n c : Nat} {l : List BA} (h : OwnBA base w (.slice A n c) l) (hok : ∀ x ∈ l, x.ok) : HasBA w A l := fun hl => by
  have hl' : 0 < l.length := List.length_pos_iff.2 hl
  rcases h.2 with ⟨e, h0⟩ | ⟨g, cap, cur, e, _, hg, hn, _⟩
  · omega
  · cases e
    refine ⟨g, 0, rfl, (Array.getElem?_eq_some_iff.1 hg).1, fun j hj => ?_⟩
    have c0 := World.ownsRow.cells h (g := g) rfl (j * 2) _ (flat_two hj).1
    have c1 := World.ownsRow.cells h (g := g) rfl (j * 2 + 1) _ (flat_two hj).2
    rw [addr_add] at c0 c1
    exact ⟨hok _ (List.getElem_mem hj), c0, by rw [Nat.add_assoc]; exact c1⟩
theorem OwnBA.nil (base : Nat) (w : World) : OwnBA base w (.slice none 0 0) [] := World.ownsRow_nil _ _ _ _
theorem OwnBA.same {T : List TypeId} {b : Nat} {w w' : World} {v : Value} {l : List BA} (h : OwnBA b w v l) (hs : SameT T w w') (ht : 25 ∉ T) : OwnBA b w' v l := by
  refine ⟨h.1, ?_⟩
  rcases h.2 with h2 | ⟨g, cap, cur, e, hb, hg, rest⟩
  · exact .inl h2
  · exact .inr ⟨g, cap, cur, e, hb, hs _ _ _ ht hg, rest⟩
theorem OwnBA.lt {b : Nat} {w : World} {v : Value} {l : List BA} (h : OwnBA b w v l) : ∀ k, v.ownBlock = some k → b ≤ k ∧ ∃ cs, w.heap[k]? = some (.cells cs 25 (0, 0)) := fun k e => by
  rcases h.2 with ⟨rfl, _⟩ | ⟨g, cap, cur, rfl, hb, hg, _⟩
  · cases e
  · cases e; exact ⟨hb, _, hg⟩
/-- An append of a ballot to ballots that the call owns. -/
theorem wpList_append_BA {ops : Array Oper} {rest : List Oper} {o : Oper} {a : Act} {w : World} {Q : Exit → Act → World → Prop} (hgd : o.guard = none) (s x : Operand)
    (ho : o.op = .call { callee := .builtin .append, args := #[s, x], argTypes := #[22, 22] }) (base : Nat) (v : Value) (l : List BA) (hs : a.eval s = v) (hown : OwnBA base w v l)
    (p c : Nat) (y : BA) (hx : a.eval x = .slice (some ⟨p, 0, none⟩) 1 c) (h0 : w.cell? ⟨p, 0, none⟩ = some (.int .u64 (y.n : Int))) (h1 : w.cell? ⟨p, 1, none⟩ = some (.int .i64 y.r)) (hlen : l.length + 1 ≤ 1000000) (hbase : base ≤ w.heap.size)
    (h : ∀ v' w', OwnBA base w' v' (l ++ [y]) → w.grownBy w' v.ownBlock → wpList Try.prog ops Q rest (a.put o.dst v') w') : wpList Try.prog ops Q (o :: rest) a w := by
  obtain ⟨i, hi, hz, hsz, hby⟩ := infoBA_parts
  refine wpList_append_own_at w hgd s x 22 ho base 25 i _ 2 16 Try.underlying22 hi hz hsz hby rfl (by omega) v l.length (cellsBAs l) hs hown ⟨p, 0, none⟩ 1 c (cellsBAs [y]) hx rfl (fun j u hj => ?_) (cellsBAs_one [y]) (by simp only [maxLen]; omega) (by omega) hbase ?_
  · rw [addr_add, Nat.zero_add]
    match j, hj with
    | 0, hj => cases hj; exact h0
    | 1, hj => cases hj; exact h1
    | j + 2, hj => simp [cellsBAs, BA.cells] at hj
  · intro v' w' h1 h2 _ _
    refine h v' w' ?_ h2
    unfold OwnBA
    rw [show cellsBAs (l ++ [y]) = cellsBAs l ++ cellsBAs [y] by simp [cellsBAs], List.length_append]
    exact h1
/-- Those that are put of the first i. -/
def fitB (l : List BA) (i : Nat) : List BA := (l.take i).filter fun x => decide x.fit
theorem fitB_succ {l : List BA} {i : Nat} (h : i < l.length) : fitB l (i + 1) = fitB l i ++ (if l[i].fit then [l[i]] else []) := by
  unfold fitB
  rw [List.take_succ_eq_append_getElem h, List.filter_append]
  congr 1
  by_cases hf : l[i].fit
  · simp [hf]
  · simp [hf]
theorem fitB_len (l : List BA) (i : Nat) : (fitB l i).length ≤ i := by
  unfold fitB
  exact Nat.le_trans (List.length_filter_le _ _) (by rw [List.length_take]; omega)
theorem fitB_mem {l : List BA} {i : Nat} {x : BA} (h : x ∈ fitB l i) : x ∈ l ∧ x.fit := by
  unfold fitB at h
  rw [List.mem_filter] at h
  exact ⟨List.mem_of_mem_take h.1, by simpa using h.2⟩
theorem bytes_len : ∀ {l : List BA}, (∀ x ∈ l, x.ok ∧ x.fit) → (l.flatMap bytesBA).length ≤ 20 * l.length
  | [], _ => by simp
  | a :: l, h => by
    have h1 := bytesBA_len (h a List.mem_cons_self).1 (h a List.mem_cons_self).2
    have h2 := bytes_len (l := l) fun x hx => h x (List.mem_cons_of_mem _ hx)
    rw [List.flatMap_cons, List.length_append, List.length_cons]
    omega
/-- The first loop: what is put so far. -/
structure BkI (w : World) (l : List BA) (i : Nat) (v3 v4 : Value) (W : World) : Prop where
  below : Below w.heap.size w W
  bytes : ∃ A n c, v3 = .slice A n c ∧ W.ownsRow w.heap.size 5 1 v3 n (((fitB l i).flatMap bytesBA).map enc)
  row : OwnBA w.heap.size W v4 (fitB l i)
/-- The second loop: what is left to be read. -/
structure BkJ (w : World) (R : Nat) (ks : List BA) (i : Nat) (v4 : Value) (W : World) : Prop where
  below : Below w.heap.size w W
  hR : w.heap.size ≤ R
  rd : RdQ W R 100 ⟨0, (ks.drop i).flatMap bytesBA⟩
  row : OwnBA w.heap.size W v4 ks
theorem RdQ.typedB {w : World} {R lim : Nat} {s : RdS} (h : RdQ w R lim s) : ∀ r, some R = some r → ∃ cs, w.heap[r]? = some (.cells cs 52 (0, 0)) := fun r e => by
  cases e
  obtain ⟨bs', ⟨A, L, c, hh, _⟩, _⟩ := h
  exact ⟨_, hh⟩
set_option maxRecDepth 100000 in
set_option maxHeartbeats 4000000 in
theorem BallotBack_any (A : Option Addr) (L c : Nat) (l : List BA) (w : World) (hL : L = l.length) (hLm : L ≤ 140737488351232) (hA : HasBA w A l) :
    Calls Try.prog 7 #[.slice A L c] w fun e W' => e = .returned (.bool true) ∧ Below w.heap.size w W' := by
  have HL := Lib.hid (And.intro hL hA)
  have hLi : (L : Int) ≤ 140737488351232 := by omega
  have wk : ∀ W, Below w.heap.size w W → Calls Try.prog 8 #[] W fun e W' => e = .returned (.bool true) ∧ Below w.heap.size w W' := fun W hb => (wakes14_any W).mono fun e W' ⟨h1, h2⟩ => ⟨h1, hb.trans (Below.mono h2 hb.size)⟩
  have HWK := Lib.hid wk
  clear hL hLm hA wk
  go_enter Try.func7, Try.ntmps7
  by_cases hbig : 50 < L
  · have hbi : (50 : Int) < L := by omega
    clear hbig
    go_wp2_with fail
    refine (HWK.out _ (Below.refl _ _)).mono ?_
    rintro e W3 ⟨rfl, b3⟩
    have H3 := Lib.hid b3
    clear b3
    go_wp2
    go_ret
    exact ⟨rfl, H3.out⟩
  · have hbi : ¬ (50 : Int) < L := by omega
    have HS := Lib.hid (show L ≤ 50 by omega)
    clear hbig
    go_wp2
    go_loopw [3, 4, 5] (fun v3 v4 v5 wr => ∃ (i : Nat) (q4 : Value), i ≤ L ∧ q4 = v4 ∧ v5 = .int .i64 (i : Int) ∧ Hid (BkI w l i v3 q4 wr)) (fun _ _ i _ => L - (intOf i).toNat)
    case atStart => exact ⟨0, _, Nat.zero_le _, rfl, rfl, Lib.hid ⟨Below.refl _ _, ⟨none, 0, 0, rfl, World.ownsRow_nil _ _ _ _⟩, OwnBA.nil _ _⟩⟩
    case round =>
      obtain ⟨i, q4, hi, rfl, rfl, HI⟩ := hrel
      by_cases hlt : i < L
      · have hii : (i : Int) < L := by omega
        have hi1 : i < l.length := by have := HL.out.1; omega
        obtain ⟨bb, o, e1, l1, f1⟩ := HL.out.2 (by rintro rfl; simp at hi1)
        subst e1
        obtain ⟨hok, a0, a1⟩ := f1 i hi1
        obtain ⟨x, hx⟩ : ∃ x, x = l[i] := ⟨_, rfl⟩
        rw [← hx] at hok a0 a1
        have HX := Lib.hid (And.intro hx (And.intro hok l1))
        have HA := Lib.hid (And.intro a0 a1)
        obtain ⟨A3, n3, c3, rfl, ho3⟩ := HI.out.bytes
        obtain ⟨A4, c4, rfl⟩ := HI.out.row.form
        have hb := HI.out.below
        have d0 : wr.cell? ⟨bb, o + i * 2, none⟩ = some (.int .u64 (x.n : Int)) := (hb.cell (p := ⟨bb, _, none⟩) l1).trans a0
        have d1 : wr.cell? ⟨bb, o + i * 2 + 1, none⟩ = some (.int .i64 x.r) := (hb.cell (p := ⟨bb, _, none⟩) l1).trans a1
        have hall : ∀ y ∈ fitB l i, y.ok ∧ y.fit := fun y hy => ⟨HL.out.2.okAll y (fitB_mem hy).1, (fitB_mem hy).2⟩
        have hlen : ((fitB l i).flatMap bytesBA).length ≤ 1000 := by
          have h1 := bytes_len hall
          have h2 := fitB_len l i
          have := HS.out
          omega
        have HO3 := Lib.hid (And.intro ho3 hlen)
        have HB := Lib.hid hb
        clear hok a0 a1 f1 hx l1 ho3 hb hall hlen
        by_cases g0 : 0 ≤ x.r
        · by_cases g7 : x.r < 7
          · have hsucc : fitB l (i + 1) = fitB l i ++ [x] := by rw [fitB_succ hi1, ← HX.out.1, if_pos ⟨g0, g7⟩]
            have HSU := Lib.hid hsucc
            have HP := Lib.hid (put_any A3 n3 c3 ((fitB l i).flatMap bytesBA) x (own_len HO3.out.1) (by have := HO3.out.2; omega) HX.out.2.1 ⟨g0, g7⟩ wr (HasA.of_own HO3.out.1))
            clear hsucc
            go_wp2_with fail
            refine HP.out.mono ?_
            rintro e W5 ⟨g5, n5, c5, rfl, ho5, b5⟩
            have hb5 := HB.out.trans (Below.mono b5 HB.out.size)
            clear d0 d1
            have d0 : W5.cell? ⟨bb, o + i * 2, none⟩ = some (.int .u64 (x.n : Int)) := (hb5.cell (p := ⟨bb, _, none⟩) HX.out.2.2).trans HA.out.1
            have d1 : W5.cell? ⟨bb, o + i * 2 + 1, none⟩ = some (.int .i64 x.r) := (hb5.cell (p := ⟨bb, _, none⟩) HX.out.2.2).trans HA.out.2
            have H5 := Lib.hid (And.intro hb5 (And.intro (own_base ho5 HB.out.size) (HI.out.row.below b5)))
            clear hb5 ho5 b5 HP
            obtain ⟨W6, hW6⟩ : ∃ W, W = W5.alloc (.cells #[.int .u64 (x.n : Int), .int .i64 x.r] 25) := ⟨_, rfl⟩
            obtain ⟨hb6, k6, b6⟩ := alloc2 H5.out.1 hW6
            have H6 := Lib.hid (And.intro hb6 (And.intro (own_below H5.out.2.1 b6) (And.intro (H5.out.2.2.below b6) k6)))
            clear hb6 k6 b6
            go_wp2_with (at_builtin; rw [← hW6]; refine wpList_append_BA rfl (.tmp 40) (.tmp 45) rfl w.heap.size _ (fitB l i) rfl H6.out.2.2.1 W5.heap.size 1 x rfl (blk_cell H6.out.2.2.2 0) (blk_cell H6.out.2.2.2 1) (by have := fitB_len l i; have := HS.out; omega) H6.out.1.size ?_; intro v7 W7 ho7 hg7)
            have hst : SameT [25] W6 W7 := SameT.grown hg7 fun r e => (H6.out.2.2.1.lt r e).2
            have h7b : Below w.heap.size w W7 := H6.out.1.grown hg7 H6.out.1.size fun k e => (H6.out.2.2.1.lt k e).1
            have hby : W7.ownsRow w.heap.size 5 1 (.slice (some ⟨g5, 0, none⟩) n5 c5) n5 ((((fitB l (i + 1)).flatMap bytesBA)).map enc) := by
              rw [HSU.out, List.flatMap_append, List.flatMap_singleton]
              exact hst.own H6.out.2.1 (by decide)
            have H7 : Hid (BkI w l (i + 1) (.slice (some ⟨g5, 0, none⟩) n5 c5) v7 W7) := Lib.hid ⟨h7b, ⟨_, _, _, rfl, hby⟩, by rw [HSU.out]; exact ho7⟩
            clear hst h7b hby ho7 hg7 d0 d1
            go_wp2
            exact ⟨⟨i + 1, _, by omega, rfl, by congr 1, H7⟩, by simp only [intOf]; omega⟩
          · have hsucc : fitB l (i + 1) = fitB l i := by rw [fitB_succ hi1, ← HX.out.1, if_neg (fun h => g7 h.2), List.append_nil]
            have H7 : Hid (BkI w l (i + 1) (.slice A3 n3 c3) (.slice A4 (fitB l i).length c4) wr) := Lib.hid ⟨HB.out, ⟨_, _, _, rfl, by rw [hsucc]; exact HO3.out.1⟩, by rw [hsucc]; exact HI.out.row⟩
            clear hsucc
            go_wp2
            exact ⟨⟨i + 1, _, by omega, rfl, by congr 1, H7⟩, by simp only [intOf]; omega⟩
        · have hsucc : fitB l (i + 1) = fitB l i := by rw [fitB_succ hi1, ← HX.out.1, if_neg (fun h => g0 h.1), List.append_nil]
          have H7 : Hid (BkI w l (i + 1) (.slice A3 n3 c3) (.slice A4 (fitB l i).length c4) wr) := Lib.hid ⟨HB.out, ⟨_, _, _, rfl, by rw [hsucc]; exact HO3.out.1⟩, by rw [hsucc]; exact HI.out.row⟩
          clear hsucc
          go_wp2
          exact ⟨⟨i + 1, _, by omega, rfl, by congr 1, H7⟩, by simp only [intOf]; omega⟩
      · have hii : ¬ (i : Int) < L := by omega
        obtain ⟨A3, n3, c3, rfl, ho3⟩ := HI.out.bytes
        obtain ⟨A4, c4, e4⟩ := HI.out.row.form
        have hrow := HI.out.row
        have hbel := HI.out.below
        obtain ⟨ks, hks⟩ : ∃ ks, ks = fitB l i := ⟨_, rfl⟩
        rw [← hks] at e4 hrow ho3
        subst e4
        have hall : ∀ y ∈ ks, y.ok ∧ y.fit := fun y hy => by
          rw [hks] at hy
          exact ⟨HL.out.2.okAll y (fitB_mem hy).1, (fitB_mem hy).2⟩
        have hkl : ks.length ≤ 50 := by
          have h2 := fitB_len l i
          have := HS.out
          rw [hks]
          omega
        have hlen : (ks.flatMap bytesBA).length ≤ 1000 := by
          have h1 := bytes_len hall
          omega
        have HK := Lib.hid (And.intro hall hrow)
        have hkli : (ks.length : Int) ≤ 50 := by omega
        have HN := Lib.hid (NewR_q (w := wr) (lim := 100) A3 n3 c3 (ks.flatMap bytesBA) (own_len ho3) (by omega) (HasA.of_own ho3))
        have HB := Lib.hid hbel
        clear hall hrow hbel hlen ho3 hks hkl HI
        go_wp2_with fail
        refine HN.out.mono ?_
        rintro e W5 ⟨R, rfl, q5, hR, b5⟩
        have H5 : Hid (BkJ w R ks 0 (.slice A4 ks.length c4) W5) := Lib.hid ⟨HB.out.trans (Below.mono b5 HB.out.size), Nat.le_trans HB.out.size hR, q5, HK.out.2.below b5⟩
        clear q5 hR b5 HN HB
        go_wp2
        go_loopw [7, 8, 9] (fun v7 _ _ wr => ∃ k : Nat, k ≤ ks.length ∧ v7 = .int .i64 (k : Int) ∧ Hid (BkJ w R ks k (.slice A4 ks.length c4) wr)) (fun k _ _ _ => ks.length - (intOf k).toNat)
        case atStart => exact ⟨0, Nat.zero_le _, rfl, H5⟩
        case round =>
          obtain ⟨k, hk, rfl, HJ⟩ := hrel
          by_cases hlk : k < ks.length
          · have hki : (k : Int) < ks.length := by omega
            obtain ⟨x, hx⟩ : ∃ x, x = ks[k] := ⟨_, rfl⟩
            have hxm : x ∈ ks := by rw [hx]; exact List.getElem_mem hlk
            have hxx := HK.out.1 x hxm
            have hrd := HJ.out.rd
            rw [List.drop_eq_getElem_cons hlk, List.flatMap_cons, ← hx] at hrd
            have HT := take_any hrd
            rw [take_put hxx.1 hxx.2] at HT
            have HTT := Lib.hid HT
            have HRT := Lib.hid hrd.typedB
            have HX := Lib.hid (And.intro hx hxx)
            clear HT hrd hxx hxm hx
            go_wp2_with fail
            refine HTT.out.mono ?_
            rintro e W6 ⟨rfl, q6, g6⟩
            have hb6 := below_grown HJ.out.below HJ.out.below.size HJ.out.hR g6
            have hr6 := HJ.out.row.same (SameT.grown g6 HRT.out) (by decide)
            have H6 : Hid (BkJ w R ks (k + 1) (.slice A4 ks.length c4) W6) := Lib.hid ⟨hb6, HJ.out.hR, q6, hr6⟩
            clear hb6 hr6 q6 g6 HTT HRT
            go_upto_region 16 with (fail)
            obtain ⟨W7, hW7⟩ : ∃ W, W = W6.alloc (.cells #[.int .u64 (x.n : Int), .int .i64 x.r] 25) := ⟨_, rfl⟩
            rw [← hW7]
            obtain ⟨hb7, k7, b7⟩ := alloc2 H6.out.below hW7
            obtain ⟨px, hpx⟩ : ∃ p, p = W6.heap.size := ⟨_, rfl⟩
            rw [← hpx] at k7 ⊢
            have hr7 := H6.out.row.below b7
            have H7 : Hid (BkJ w R ks (k + 1) (.slice A4 ks.length c4) W7) := Lib.hid ⟨hb7, H6.out.hR, H6.out.rd.below b7, hr7⟩
            obtain ⟨bb, o, e1, l1, f1⟩ := hr7.has (fun y hy => (HK.out.1 y hy).1) (by rintro rfl; simp at hlk)
            subst e1
            obtain ⟨_, d0, d1⟩ := f1 k hlk
            rw [← HX.out.1] at d0 d1
            refine back_same bb o ks.length c4 px k x _ W7 _ rfl rfl rfl rfl rfl l1 hlk d0 d1 k7 ?_
            intro W8 b8
            have H8 : Hid (BkJ w R ks (k + 1) (.slice (some ⟨bb, o, none⟩) ks.length c4) W8) := Lib.hid ⟨H7.out.below.trans (Below.mono b8 H7.out.below.size), H7.out.hR, H7.out.rd.below b8, H7.out.row.below b8⟩
            simp only [puts, List.foldl_cons, List.foldl_nil, Act.put, List.setIfInBounds_toArray, List.set_cons_succ, List.set_cons_zero]
            clear b8 hW7 hb7 k7 b7 hpx hr7 l1 f1 d0 d1 H6 H7
            go_wp2
            exact ⟨⟨k + 1, by omega, by congr 1, H8⟩, by simp only [intOf]; omega⟩
          · have hki : ¬ (k : Int) < ks.length := by omega
            have hrd := HJ.out.rd
            rw [List.drop_eq_nil_of_le (by omega), List.flatMap_nil] at hrd
            have HD := Lib.hid (DoneR_q hrd)
            rw [show (⟨0, []⟩ : RdS).done = 0 from rfl] at HD
            clear hrd
            go_wp2_with fail
            refine HD.out.mono ?_
            rintro e W6 ⟨rfl, g6⟩
            have H6 := Lib.hid (below_grown HJ.out.below HJ.out.below.size HJ.out.hR g6)
            clear g6 HD
            go_wp2_with fail
            refine (HWK.out _ H6.out).mono ?_
            rintro e W7 ⟨rfl, b7⟩
            have H7 := Lib.hid b7
            clear b7
            go_wp2
            go_ret
            exact ⟨rfl, H7.out⟩
end Go.Proofs.Ytkeaeahiokgkiaa
