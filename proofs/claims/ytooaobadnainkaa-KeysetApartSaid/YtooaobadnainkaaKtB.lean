/- Whether a text lies in a row, whether two rows have one in common (the library's search, by the program's own test); the program's moreThan, shareKey, Lone, Way. -/
import Derived.Test.YtooaobadnainkaaLitB
import Derived.Deep.QuietTactic
import Derived.BigQuiet
import Derived.Handy
import Derived.Test.YtooaobadnainkaaKsGm
import Derived.Test.YtooaobadnainkaaKsK
import Derived.LoopTactic
namespace Go.Proofs.Ytooaobadnainkaa
open Go.RowKit

/-- A place, or none. -/
structure IdxW (b : Bool) (z : Int) : Prop where
  lo : -1 ≤ z
  hi : z < 9223372036854775807
  yes : b = true → 0 ≤ z
  no : b = false → z = -1
theorem toList_injW {a b : ByteArray} : a.toList = b.toList ↔ a = b :=
  ⟨fun h => ByteArray.ext (Array.ext' (by simpa [ByteArray.toList_eq] using h)), fun h => by rw [h]⟩
/-- No text of the first ones is such. -/
def noneTo (p : ByteArray → Bool) (ks : List ByteArray) (k : Nat) : Prop := ∀ j (h : j < ks.length), j < k → p ks[j] = false
theorem noneTo_all {p : ByteArray → Bool} {ks : List ByteArray} (h : noneTo p ks ks.length) : ks.any p = false := by
  rw [List.any_eq_false]
  intro x hx
  obtain ⟨j, hj, rfl⟩ := List.getElem_of_mem hx
  simp [h j hj hj]
theorem noneTo_succ {p : ByteArray → Bool} {ks : List ByteArray} {k : Nat} {X : ByteArray} (h : noneTo p ks k) (hX : ∀ h : k < ks.length, X = ks[k]) (hp : p X = false) : noneTo p ks (k + 1) := fun j hj hjk => by
  rcases Nat.lt_or_ge j k with h1 | h1
  · exact h j hj h1
  · obtain rfl : j = k := by omega
    rw [← hX hj]; exact hp
/-- Whether a text is that one. -/
def isK (k x : ByteArray) : Bool := decide (x = k)
set_option maxRecDepth 100000 in
set_option maxHeartbeats 4000000 in
theorem idx_any (A : Option Addr) (L c : Nat) (ks : List ByteArray) (k : ByteArray) (hL : L = ks.length) (hm : L ≤ 1000000) (w : World) (hA : HasS w A ks) :
    Calls Try.prog 38 #[.slice A L c, .string k] w fun e W' => ∃ z : Int, e = .returned (.int .i64 z) ∧ IdxW (ks.any (isK k)) z ∧ W' = w := by
  have HL := Lib.hid hL
  have HA := Lib.hid hA
  have hLi : (L : Int) ≤ 1000000 := by omega
  clear hL hA hm
  go_enter Try.func38, Try.ntmps38
  go_wp2
  go_loopw [5, 8] (fun v5 i wr => wr = w ∧ ∃ j : Nat, j ≤ L ∧ i = .int .i64 (j : Int) ∧ Hid (noneTo (isK k) ks j)) (fun _ i _ => L - (intOf i).toNat)
  case atStart => exact ⟨rfl, 0, Nat.zero_le _, rfl, Lib.hid (fun j _ h => by omega)⟩
  case round =>
    obtain ⟨rfl, j, hj, rfl, hb⟩ := hrel
    by_cases hlt : j < L
    · have hji : (j : Int) < L := by omega
      have hj1 : j < ks.length := by have := HL.out; omega
      obtain ⟨bk, o1, e1, l1, f1⟩ := HA.out (by rintro rfl; simp at hj1)
      subst e1
      have g1 := f1 j hj1
      obtain ⟨X, hX⟩ : ∃ X, X = ks[j] := ⟨_, rfl⟩
      rw [← hX] at g1
      have HX := Lib.hid hX
      clear hX f1
      by_cases he : X = k
      · subst he
        have hy : ks.any (isK X) = true := by rw [List.any_eq_true]; exact ⟨X, by rw [HX.out]; exact List.getElem_mem hj1, by simp [isK]⟩
        have HY := Lib.hid hy
        clear hy
        go_wp2
        go_ret
        exact ⟨_, rfl, ⟨by omega, by omega, fun _ => by omega, fun h => by rw [HY.out] at h; cases h⟩, rfl⟩
      · have hne : ¬ k.toList = X.toList := fun h => he (toList_injW.1 h.symm)
        have hneb : (k.toList == X.toList) = false := by simpa using hne
        have hn1 : isK k X = false := by simpa [isK] using he
        have HN := Lib.hid (noneTo_succ hb.out (fun _ => HX.out) hn1)
        clear hn1
        go_wp2
        exact ⟨⟨trivial, j + 1, by omega, by congr 1, HN⟩, by simp only [intOf]; omega⟩
    · obtain rfl : j = L := by omega
      have hji : ¬ (j : Int) < j := by omega
      have hn : ks.any (isK k) = false := noneTo_all (by have := hb.out; rwa [HL.out] at this)
      have HN := Lib.hid hn
      clear hn hlt
      go_wp2
      go_ret
      exact ⟨_, rfl, ⟨by omega, by omega, fun h => (by rw [HN.out] at h; cases h), fun _ => rfl⟩, rfl⟩
set_option maxRecDepth 100000 in
theorem cont_any (A : Option Addr) (L c : Nat) (ks : List ByteArray) (k : ByteArray) (hL : L = ks.length) (hm : L ≤ 1000000) (w : World) (hA : HasS w A ks) :
    Calls Try.prog 31 #[.slice A L c, .string k] w fun e W' => e = .returned (.bool (ks.any (isK k))) ∧ W' = w := by
  have h := idx_any A L c ks k hL hm w hA
  obtain ⟨b, hb⟩ : ∃ b, b = ks.any (isK k) := ⟨_, rfl⟩
  rw [← hb] at h ⊢
  have H := Lib.hid h
  clear hb h hL hm hA
  go_enter Try.func31, Try.ntmps31
  go_wp2_with fail
  refine H.out.mono ?_
  rintro e W1 ⟨z, rfl, hz, rfl⟩
  cases b with
  | true =>
    have h0 := hz.yes rfl
    clear hz
    go_wp2
    go_ret
    exact ⟨rfl, rfl⟩
  | false =>
    have h0 := hz.no rfl
    subst h0
    clear hz
    go_wp2
    go_ret
    exact ⟨rfl, rfl⟩
set_option maxRecDepth 100000 in
theorem test_any (g : Nat) (A : Option Addr) (L c : Nat) (ks : List ByteArray) (k : ByteArray) (hL : L = ks.length) (hm : L ≤ 1000000) (w : World) (hA : HasS w A ks) (hg : w.cell? ⟨g, 0, none⟩ = some (.slice A L c)) :
    Calls Try.prog 30 #[.string k, .pointer (some ⟨g, 0, none⟩)] w fun e W' => e = .returned (.bool (ks.any (isK k))) ∧ W' = w := by
  have h := cont_any A L c ks k hL hm w hA
  obtain ⟨b, hb⟩ : ∃ b, b = ks.any (isK k) := ⟨_, rfl⟩
  rw [← hb] at h ⊢
  have H := Lib.hid h
  clear hb h hL hm hA
  go_enter Try.func30, Try.ntmps30
  go_wp2_with fail
  refine H.out.mono ?_
  rintro e W1 ⟨rfl, rfl⟩
  go_wp2
  go_ret
  exact ⟨rfl, rfl⟩
/-- The program's test: whether a text lies in the captured row. -/
def testV (g : Nat) : Value := .func (.func 30) #[] #[.pointer (some ⟨g, 0, none⟩)]
set_option maxRecDepth 100000 in
set_option maxHeartbeats 4000000 in
theorem idxf_any (g : Nat) (A : Option Addr) (L c : Nat) (ks : List ByteArray) (B : Option Addr) (M d : Nat) (js : List ByteArray) (hL : L = ks.length) (hm : L ≤ 1000000) (hM : M = js.length) (hmM : M ≤ 1000000) (w : World) (hA : HasS w A ks) (hB : HasS w B js) (hg : w.cell? ⟨g, 0, none⟩ = some (.slice A L c)) :
    Calls Try.prog 37 #[.slice B M d, testV g] w fun e W' => ∃ z : Int, e = .returned (.int .i64 z) ∧ IdxW (js.any fun j => ks.any (isK j)) z ∧ W' = w := by
  have HC : Hid (∀ k, Calls Try.prog 30 #[.string k, .pointer (some ⟨g, 0, none⟩)] w fun e W' => e = .returned (.bool (ks.any (isK k))) ∧ W' = w) := Lib.hid (fun k => test_any g A L c ks k hL hm w hA hg)
  obtain ⟨p, hp⟩ : ∃ p : ByteArray → Bool, p = fun j => ks.any (isK j) := ⟨_, rfl⟩
  have HC2 : Hid (∀ k, Calls Try.prog 30 #[.string k, .pointer (some ⟨g, 0, none⟩)] w fun e W' => e = .returned (.bool (p k)) ∧ W' = w) := Lib.hid (by rw [hp]; exact HC.out)
  rw [← hp]
  have HL := Lib.hid hM
  have HB := Lib.hid hB
  have hLi : (M : Int) ≤ 1000000 := by omega
  clear hL hA hm hB hM hg HC hp hmM
  unfold testV
  go_enter Try.func37, Try.ntmps37
  go_wp2
  go_loopw [5, 8] (fun v5 i wr => wr = w ∧ ∃ j : Nat, j ≤ M ∧ i = .int .i64 (j : Int) ∧ Hid (noneTo p js j)) (fun _ i _ => M - (intOf i).toNat)
  case atStart => exact ⟨rfl, 0, Nat.zero_le _, rfl, Lib.hid (fun j _ h => by omega)⟩
  case round =>
    obtain ⟨rfl, j, hj, rfl, hb⟩ := hrel
    by_cases hlt : j < M
    · have hji : (j : Int) < M := by omega
      have hj1 : j < js.length := by have := HL.out; omega
      obtain ⟨bk, o1, e1, l1, f1⟩ := HB.out (by rintro rfl; simp at hj1)
      subst e1
      have g1 := f1 j hj1
      obtain ⟨X, hX⟩ : ∃ X, X = js[j] := ⟨_, rfl⟩
      rw [← hX] at g1
      have HX := Lib.hid hX
      clear hX f1
      obtain ⟨b, hb2⟩ : ∃ b, b = p X := ⟨_, rfl⟩
      have HBB := Lib.hid hb2
      clear hb2
      go_wp2_with fail
      refine (HC2.out X).mono ?_
      rintro e W1 ⟨rfl, rfl⟩
      rw [← HBB.out]
      cases b with
      | true =>
        have hy : js.any p = true := by
          rw [List.any_eq_true]
          exact ⟨X, by rw [HX.out]; exact List.getElem_mem hj1, HBB.out.symm⟩
        have HY := Lib.hid hy
        clear hy
        go_wp2
        go_ret
        exact ⟨_, rfl, ⟨by omega, by omega, fun _ => by omega, fun h => by rw [HY.out] at h; cases h⟩, rfl⟩
      | false =>
        have HN := Lib.hid (noneTo_succ hb.out (fun _ => HX.out) HBB.out.symm)
        go_wp2
        exact ⟨⟨trivial, j + 1, by omega, by congr 1, HN⟩, by simp only [intOf]; omega⟩
    · obtain rfl : j = M := by omega
      have hji : ¬ (j : Int) < j := by omega
      have hn : js.any p = false := noneTo_all (by have := hb.out; rwa [HL.out] at this)
      have HN := Lib.hid hn
      clear hn hlt
      go_wp2
      go_ret
      exact ⟨_, rfl, ⟨by omega, by omega, fun h => (by rw [HN.out] at h; cases h), fun _ => rfl⟩, rfl⟩
set_option maxRecDepth 100000 in
theorem contf_any (g : Nat) (A : Option Addr) (L c : Nat) (ks : List ByteArray) (B : Option Addr) (M d : Nat) (js : List ByteArray) (hL : L = ks.length) (hm : L ≤ 1000000) (hM : M = js.length) (hmM : M ≤ 1000000) (w : World) (hA : HasS w A ks) (hB : HasS w B js) (hg : w.cell? ⟨g, 0, none⟩ = some (.slice A L c)) :
    Calls Try.prog 29 #[.slice B M d, testV g] w fun e W' => e = .returned (.bool (js.any fun j => ks.any (isK j))) ∧ W' = w := by
  have h := idxf_any g A L c ks B M d js hL hm hM hmM w hA hB hg
  obtain ⟨b, hb⟩ : ∃ b, b = js.any fun j => ks.any (isK j) := ⟨_, rfl⟩
  rw [← hb] at h ⊢
  obtain ⟨f, hf⟩ : ∃ f, f = testV g := ⟨_, rfl⟩
  rw [← hf] at h ⊢
  have H := Lib.hid h
  clear hb h hL hm hA hB hM hmM hg hf
  go_enter Try.func29, Try.ntmps29
  go_wp2_with fail
  refine H.out.mono ?_
  rintro e W1 ⟨z, rfl, hz, rfl⟩
  cases b with
  | true =>
    have h0 := hz.yes rfl
    clear hz
    go_wp2
    go_ret
    exact ⟨rfl, rfl⟩
  | false =>
    have h0 := hz.no rfl
    subst h0
    clear hz
    go_wp2
    go_ret
    exact ⟨rfl, rfl⟩
/-- The program's test of keys: whether there are more than the limit that it holds. -/
def loneV (g : Nat) : Value := .func (.func 25) #[] #[.pointer (some ⟨g, 0, none⟩)]
set_option maxRecDepth 100000 in
theorem more_any (w : World) : Calls Try.prog 17 #[.int .i64 4] w fun e W' => e = .returned (loneV w.heap.size) ∧ W' = w.alloc (.cells #[.int .i64 4] 3) := by
  have hmf : ∀ (fn : Fn) (first cap : Array Value) (w : World), (Instr.makeFunc fn first cap).run Try.prog w = .ok (.func fn first cap) w := fun _ _ _ _ => rfl
  go_enter Try.func17, Try.ntmps17
  go_wp2
  go_ret
  exact ⟨rfl, rfl⟩
set_option maxRecDepth 100000 in
theorem more1_any (g : Nat) (A : Option Addr) (L c : Nat) (hm : L ≤ 1000000) (w : World) (hg : w.cell? ⟨g, 0, none⟩ = some (.int .i64 4)) :
    Calls Try.prog 25 #[.slice A L c, .pointer (some ⟨g, 0, none⟩)] w fun e W' => e = .returned (.bool (decide (4 < L))) ∧ W' = w := by
  have hLi : (L : Int) ≤ 1000000 := by omega
  by_cases h : 4 < L
  · have hi : (4 : Int) < L := by omega
    rw [show decide (4 < L) = true from decide_eq_true h]
    go_enter Try.func25, Try.ntmps25
    go_wp2
    go_ret
    exact ⟨rfl, rfl⟩
  · have hi : ¬ (4 : Int) < L := by omega
    rw [show decide (4 < L) = false from decide_eq_false h]
    go_enter Try.func25, Try.ntmps25
    go_wp2
    go_ret
    exact ⟨rfl, rfl⟩
end Go.Proofs.Ytooaobadnainkaa
