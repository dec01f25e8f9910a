/- slices.Sort of a row of numbers that the call owns, slices.Collect, slices.Sorted of a map's clients. -/
import Derived.Test.YtelbgjnaceffeaaSqN
import Derived.Test.YtelbgjnaceffeaaShelfL
namespace Go.Proofs.Ytelbgjnaceffeaa
open Go.RowKit Go.Maps Go.Sort

set_option maxHeartbeats 4000000 in
theorem ins_nil (w : World) : Calls Try.prog 43 #[.slice none 0 0, .int .i64 0, .int .i64 0] w fun e W' => e = .returned (.tuple #[]) ∧ W' = w := by
  go_enter Try.func43, Try.ntmps43
  go_wp2
  refine wp_loop_rounds 1 ?_
  rw [rounds_succ]
  go_wp2
  go_end0
  exact ⟨rfl, rfl⟩
set_option maxHeartbeats 4000000 in
theorem pdq_nil (w : World) (lim : Nat) : Calls Try.prog 41 #[.slice none 0 0, .int .i64 0, .int .i64 0, .int .i64 (lim : Int)] w fun e W' => e = .returned (.tuple #[]) ∧ W' = w := by
  go_enter Try.func41, Try.ntmps41
  go_wp2
  refine wp_loop_rounds 1 ?_
  rw [rounds_succ]
  go_wp2_with (go_at_call 43; refine (ins_nil w).mono ?_; rintro e1 W1 ⟨rfl, rfl⟩)
  go_returns
  exact ⟨rfl, rfl⟩
theorem ownU_mono {w : World} {b b' n : Nat} {e : TypeId} {v : Value} {xs : List Value} (h : w.ownsRow b e 1 v n xs) (hb : b' ≤ b) : w.ownsRow b' e 1 v n xs :=
  ⟨h.1, h.2.imp id fun ⟨g, cap, cur, e, h1, r⟩ => ⟨g, cap, cur, e, Nat.le_trans hb h1, r⟩⟩
def SortedN (ss : List Nat) : Prop := ss.Pairwise (· ≤ ·)
theorem sorted_of {n : Nat} {ss : List Nat} {d : Array Int} (hn : d.size = n) (hp : PermIn 0 n (ss.map Int.ofNat).toArray d) (hs : SortedIn ltInt 0 n d) (hl : ss.length = n) : ∃ ss' : List Nat, ss'.Perm ss ∧ SortedN ss' ∧ d.toList.map nV = ss'.map cV := by
  have h1 : d.toList.Perm (ss.map Int.ofNat) := by
    have := hp.2.2
    rw [← hn] at this
    rw [Array.extract_size] at this
    rw [hn, ← hl, show ss.length = ((ss.map Int.ofNat).toArray).size by simp, Array.extract_size] at this
    simpa using this
  have h2 : ∀ x ∈ d.toList, 0 ≤ x := fun x hx => by
    obtain ⟨a, _, rfl⟩ := List.mem_map.1 ((h1.mem_iff).1 hx)
    exact Int.natCast_nonneg a
  refine ⟨d.toList.map Int.toNat, ?_, ?_, ?_⟩
  · have := h1.map Int.toNat
    rw [List.map_map, show Int.toNat ∘ Int.ofNat = id from rfl, List.map_id] at this
    exact this
  · unfold SortedN
    rw [List.pairwise_map, List.pairwise_iff_getElem]
    intro i j hi hj hij
    have hi' : i < d.size := by simpa using hi
    have hj' : j < d.size := by simpa using hj
    have := hs i j (Nat.zero_le _) hij (by omega)
    rw [getElem!_pos d i hi', getElem!_pos d j hj'] at this
    simp only [ltInt, decide_eq_false_iff_not] at this
    simp only [Array.getElem_toList]
    omega
  · rw [List.map_map]
    apply List.map_congr_left
    intro x hx
    have := h2 x hx
    simp only [Function.comp, nV, cV]
    congr 1
    omega
set_option maxHeartbeats 4000000 in
theorem sort_any {w : World} {base : Nat} {v : Value} {ss : List Nat} (h : w.ownsRow base 34 1 v ss.length (ss.map cV)) (hl : ss.length ≤ 1000000) :
    Calls Try.prog 37 #[v] w fun e W' => e = .returned (.tuple #[]) ∧ ∃ ss' : List Nat, ss'.Perm ss ∧ SortedN ss' ∧ W'.ownsRow base 34 1 v ss.length (ss'.map cV) ∧ w.grownBy W' v.ownBlock := by
  obtain ⟨n, hn⟩ : ∃ n, n = ss.length := ⟨_, rfl⟩
  rw [← hn] at h hl ⊢
  have hbl : Lib.bitLen n ≤ 64 := Lib.bitLen_le n 64 (Nat.le_refl _) (by omega)
  obtain ⟨lim, hlim⟩ : ∃ x, x = Lib.bitLen n := ⟨_, rfl⟩
  have hbits : ∀ W : World, Calls Try.prog 42 #[.int .u64 (n : Int)] W fun e w' => e = .returned (.int .i64 (lim : Int)) ∧ w' = W := fun W => by
    have := lay_bits_Len (n : Int) W (by omega) (by omega)
    rw [Int.toNat_natCast, ← hlim] at this
    exact this
  rw [← hlim] at hbl
  rcases h.2 with ⟨rfl, h0⟩ | ⟨g, cap, cur, rfl, hbg, hg, hnc, hcm, hcs, htk⟩
  · subst h0
    have hss : ss = [] := List.length_eq_zero_iff.1 hn.symm
    subst hss
    clear hn h
    have HB := Lib.hid hbits
    clear hbits hlim hbl
    go_enter Try.func37, Try.ntmps37
    go_wp2_with (first
      | (go_at_call 42; refine (HB.out _).mono ?_; rintro e1 W1 ⟨rfl, rfl⟩)
      | (go_at_call 41; refine (pdq_nil _ lim).mono ?_; rintro e1 W1 ⟨rfl, rfl⟩))
    go_end0
    exact ⟨rfl, [], List.Perm.refl _, List.Pairwise.nil, World.ownsRow_nil _ _ _ _, ⟨rfl, rfl, rfl, Nat.le_refl _, fun _ _ _ => rfl⟩⟩
  · have hcur : cur = rowZ [] (ss.map Int.ofNat).toArray (cur.toList.drop n) := by
      unfold rowZ
      have e1 : (ss.map Int.ofNat).toArray.toList.map nV = ss.map cV := by simp [cV, nV]
      rw [e1, ← htk, Nat.mul_one, List.nil_append, List.take_append_drop]
    have hsr : SR w g 0 n [] (cur.toList.drop n) (ss.map Int.ofNat).toArray w := ⟨by simp [hn], rfl, by rw [← hcur]; exact hg, ⟨rfl, rfl, rfl, Nat.le_refl _, fun _ _ _ => rfl⟩⟩
    have HP := Lib.hid (pdq_n (by omega) (n + 1) cap 0 n lim _ w (by omega) hsr (Nat.zero_le _) (Nat.le_refl _) (by omega) (.inl rfl))
    have HB := Lib.hid hbits
    have HH := Lib.hid (And.intro hn (And.intro hbg (And.intro hnc (And.intro hcm (And.intro hcs hl)))))
    have hn60 : n ≤ 1000000 := hl
    clear hbits hlim hbl h hg hn hbg hnc hcm hcs htk hcur hsr hl
    go_enter Try.func37, Try.ntmps37
    go_wp2_with (first
      | (go_at_call 42; refine (HB.out _).mono ?_; rintro e1 W1 ⟨rfl, rfl⟩)
      | (go_at_call 41; refine HP.out.mono ?_; rintro e1 W1 ⟨rfl, hs⟩))
    go_end0
    obtain ⟨hn, hbg, hnc, hcm, hcs, _⟩ := HH.out
    obtain ⟨d', hp, hso, hr⟩ := hs
    obtain ⟨ss', q1, q2, q3⟩ := sorted_of hr.size hp hso hn.symm
    have hlen : (ss'.map cV).length = n := by rw [List.length_map, q1.length_eq, hn]
    refine ⟨rfl, ss', q1, q2, ⟨by rw [hlen, Nat.mul_one], .inr ⟨g, cap, _, rfl, hbg, hr.row, hnc, hcm, ?_, ?_⟩⟩, hr.grown⟩
    · unfold rowZ
      rw [q3]
      simp only [List.size_toArray, List.length_append, List.length_nil, hlen, List.length_drop, Array.length_toList, hcs]
      omega
    · unfold rowZ
      rw [q3, Nat.mul_one, List.nil_append, List.toList_toArray, ← hlen, List.take_left']
      rfl
set_option maxHeartbeats 4000000 in
theorem collect_any {w : World} {p : Option Nat} {l : List SE} (h : MapO w p l) (hs : SortedE l) (hl : l.length ≤ 1000000) :
    Calls Try.prog 36 #[keysV w.heap.size] (w.alloc (.cells #[.map p] 64)) fun e W' => ∃ (v : Value) (ss : List Nat), e = .returned v ∧ ss.Perm (l.map (·.cl)) ∧ W'.ownsRow (w.heap.size + 1) 34 1 v ss.length (ss.map cV) ∧ Go.RowKit.Below (w.heap.size + 1) (w.alloc (.cells #[.map p] 64)) W' := by
  have hsz : (w.alloc (.cells #[.map p] 64)).heap.size = w.heap.size + 1 := Array.size_push _
  have hnew := World.alloc_heap_new w (.cells #[.map p] 64)
  have hbel : Go.RowKit.Below w.heap.size w (w.alloc (.cells #[.map p] 64)) := (Go.RowKit.Below.refl _ w).alloc (Nat.le_refl _) _
  have hmo := MapO.below h hbel
  obtain ⟨W0, hW0⟩ : ∃ W0, W0 = w.alloc (.cells #[.map p] 64) := ⟨_, rfl⟩
  rw [← hW0] at hsz hnew hmo ⊢
  obtain ⟨g, hg⟩ : ∃ g, g = w.heap.size := ⟨_, rfl⟩
  rw [← hg] at hnew hsz ⊢
  clear hW0 hbel h
  have hA : Calls Try.prog 40 #[.slice none 0 0, keysV g] W0 fun e W' => ∃ (v : Value) (ss : List Nat), e = .returned v ∧ ss.Perm (l.map (·.cl)) ∧ W'.ownsRow (g + 1) 34 1 v ss.length (ss.map cV) ∧ Go.RowKit.Below (g + 1) W0 W' := by
    cases p with
    | none =>
      obtain rfl : l = [] := hmo
      refine ((callsIn_wide (n := 5)).1 (apps_nil_in g W0 hnew)).mono ?_
      rintro e W' ⟨rfl, hb⟩
      exact ⟨_, [], rfl, List.Perm.refl _, World.ownsRow_nil _ _ _ _, by rw [← hsz]; exact hb⟩
    | some b =>
      refine ((callsIn_wide (n := 5)).1 (apps_in g b l hs hl W0 hmo hnew)).mono ?_
      rintro e W' ⟨v, ss, rfl, hp, ho, hb⟩
      exact ⟨v, ss, rfl, hp, by rw [← hsz]; exact ho, by rw [← hsz]; exact hb⟩
  have HA := Lib.hid hA
  clear hA hmo hnew hsz hs hl hg
  unfold keysV at HA ⊢
  go_enter Try.func36, Try.ntmps36
  go_wp2_with (go_at_call 40; refine HA.out.mono ?_; rintro e1 W1 ⟨v, ss, rfl, hr⟩)
  go_returns
  exact ⟨v, ss, rfl, hr⟩
theorem clients_eq {l : List SE} (hs : SortedE l) {ss : List Nat} (hp : ss.Perm (l.map (·.cl))) (h : SortedN ss) : ss = l.map (·.cl) := by
  refine List.Perm.eq_of_pairwise (le := (· ≤ ·)) (fun a b _ _ h1 h2 => Nat.le_antisymm h1 h2) h ?_ hp
  rw [List.pairwise_map]
  exact hs.imp fun h => Nat.le_of_lt h
set_option maxHeartbeats 4000000 in
theorem sorted_any {w : World} {p : Option Nat} {l : List SE} (h : MapO w p l) (hs : SortedE l) (hl : l.length ≤ 1000000) :
    Calls Try.prog 30 #[keysV w.heap.size] (w.alloc (.cells #[.map p] 64)) fun e W' => ∃ v, e = .returned v ∧ W'.ownsRow w.heap.size 34 1 v l.length ((l.map (·.cl)).map cV) ∧ Go.RowKit.Below w.heap.size w W' := by
  have HC := Lib.hid (collect_any h hs hl)
  have hsz : (w.alloc (.cells #[.map p] 64)).heap.size = w.heap.size + 1 := Array.size_push _
  have hbel : Go.RowKit.Below w.heap.size w (w.alloc (.cells #[.map p] 64)) := (Go.RowKit.Below.refl _ w).alloc (Nat.le_refl _) _
  obtain ⟨W0, hW0⟩ : ∃ W0, W0 = w.alloc (.cells #[.map p] 64) := ⟨_, rfl⟩
  rw [← hW0] at hsz hbel HC ⊢
  have HH := Lib.hid (And.intro hsz (And.intro hbel (And.intro hs hl)))
  clear hW0 hsz hbel h hs hl
  obtain ⟨g, hg⟩ : ∃ g, g = w.heap.size := ⟨_, rfl⟩
  rw [← hg] at HC HH ⊢
  clear hg
  unfold keysV at HC ⊢
  go_enter Try.func30, Try.ntmps30
  go_wp2_with (first
    | (go_at_call 36; refine HC.out.mono ?_; rintro e1 W1 ⟨v, ss, rfl, hp, ho, hb⟩
       have hlen : ss.length = l.length := by rw [hp.length_eq, List.length_map]
       have HO := Lib.hid (And.intro hp (And.intro ho (And.intro hb hlen)))
       have HS := Lib.hid (sort_any ho (by rw [hlen]; exact HH.out.2.2.2))
       clear hp ho hb hlen)
    | (go_at_call 37; refine HS.out.mono ?_; rintro e2 W2 ⟨rfl, hr⟩))
  go_returns
  obtain ⟨ss', q1, q2, q3, q4⟩ := hr
  obtain ⟨hp, ho, hb, hlen⟩ := HO.out
  obtain ⟨hsz, hbel, hs, hl⟩ := HH.out
  have e1 := clients_eq hs (q1.trans hp) q2
  rw [e1, hlen] at q3
  refine ⟨v, rfl, ownU_mono q3 (Nat.le_succ g), ?_⟩
  exact (hbel.trans (Go.RowKit.Below.mono hb (Nat.le_succ g))).grown q4 (by have := hbel.size; have := hb.size; omega) fun k e => Nat.le_of_succ_le (ho.lt k e).1
end Go.Proofs.Ytelbgjnaceffeaa
