/- Parts of the proof: WvK. -/
import Derived.Test.YtfjmdkhemnmkpaaGreatDoorA13
import Derived.Test.YtfjmdkhemnmkpaaGreatDoorA14
namespace Go.Proofs.YtfjmdkhemnmkpaaGreatDoor
open Go.RowKit
structure DV where
  cd : Nat
  tx : ByteArray
  fr : Bool
  wv : Nat
  tn : Nat
def DV.cells (d : DV) : Array Value := #[.int .u8 (d.cd : Int), .string d.tx, .bool d.fr, .int .i64 (d.wv : Int), .int .i64 (d.tn : Int)]
def HasD (w : World) (A : Option Addr) (ds : List DV) : Prop := ds ≠ [] → ∃ b o, A = some ⟨b, o, none⟩ ∧ b < w.heap.size ∧ ∀ j (h : j < ds.length) i u, ds[j].cells[i]? = some u → w.cell? ⟨b, o + j * 5 + i, none⟩ = some u
theorem HasD.below {w W : World} {A : Option Addr} {ds : List DV} (h : HasD w A ds) (hb : Below w.heap.size w W) : HasD W A ds := fun hl => by
  obtain ⟨b, o, e, h1, h2⟩ := h hl
  exact ⟨b, o, e, Nat.lt_of_lt_of_le h1 hb.size, fun j hj i u hu => (hb.cell (p := ⟨b, o + j * 5 + i, none⟩) h1).trans (h2 j hj i u hu)⟩
def NotF (B : Nat) (F : Nat → Prop) (A : Option Addr) : Prop := ∀ b o m, A = some ⟨b, o, m⟩ → B ≤ b ∧ ¬ F b
theorem HasD.only {F : Nat → Prop} {w W : World} {A : Option Addr} {ds : List DV} (h : HasD w A ds) (ho : Only F w W) (hn : ∀ b o m, A = some ⟨b, o, m⟩ → ¬ F b) : HasD W A ds := fun hl => by
  obtain ⟨b, o, e, h1, h2⟩ := h hl
  exact ⟨b, o, e, Nat.lt_of_lt_of_le h1 ho.size, fun j hj i u hu => (World.cell?_of_block (ho.block b h1 (hn b o none e))).trans (h2 j hj i u hu)⟩
def Agree (B : Nat) (w W : World) : Prop := B ≤ W.heap.size ∧ ∀ k, k < B → W.heap[k]? = w.heap[k]?
theorem Agree.cell {B : Nat} {w W : World} (h : Agree B w W) {p : Addr} (hp : p.block < B) : W.cell? p = w.cell? p := World.cell?_of_block (h.2 p.block hp)
theorem HasS.agree {w W : World} {A : Option Addr} {l : List ByteArray} (h : HasS w A l) (ha : Agree w.heap.size w W) : HasS W A l := fun hl => by
  obtain ⟨b, o, e, h1, h2⟩ := h hl
  exact ⟨b, o, e, Nat.lt_of_lt_of_le h1 ha.1, fun j hj => (ha.cell (p := ⟨b, o + j, none⟩) h1).trans (h2 j hj)⟩
theorem CmdV.ok.agree {w W : World} {a : CmdV} (h : a.ok w) (ha : Agree w.heap.size w W) : a.ok W := ⟨h.cl, h.sq, h.kd, h.n, h.len, h.max, h.has.agree ha, h.each, h.old, h.new⟩
theorem HasC.agree {w W : World} {A : Option Addr} {l : List CmdV} (h : HasC w A l) (ha : Agree w.heap.size w W) : HasC W A l := fun hl => by
  obtain ⟨b, o, e, h1, h2⟩ := h hl
  exact ⟨b, o, e, Nat.lt_of_lt_of_le h1 ha.1, fun j hj => ⟨fun i u hu => (ha.cell (p := ⟨b, o + j * 7 + i, none⟩) h1).trans ((h2 j hj).1 i u hu), (h2 j hj).2.agree ha⟩⟩
def HasCF (F : Nat → Prop) (w : World) (A : Option Addr) (l : List CmdV) : Prop := ∀ W, w.heap.size ≤ W.heap.size → (∀ k, k < w.heap.size → ¬ F k → W.heap[k]? = w.heap[k]?) → HasC W A l
theorem HasC.out {F : Nat → Prop} {w V : World} {A : Option Addr} {l : List CmdV} (h : HasC w A l) (hb : Below w.heap.size w V) (hF : ∀ k, F k → w.heap.size ≤ k) : HasCF F V A l := fun W h1 h2 => h.agree ⟨Nat.le_trans hb.size h1, fun k hk => (h2 k (Nat.lt_of_lt_of_le hk hb.size) (fun hf => by have := hF k hf; omega)).trans (hb.block k hk)⟩
theorem HasCF.has {F : Nat → Prop} {w : World} {A : Option Addr} {l : List CmdV} (h : HasCF F w A l) : HasC w A l := h w (Nat.le_refl _) fun _ _ _ => rfl
def toldO (g : Nat → Option ((Nat × ByteArray) × Bool)) (i : Nat) : (Nat × ByteArray) × Bool := (g i).getD ((0, ⟨#[]⟩), false)
noncomputable def runD (pk : Nat → Nat → Nat → Int) (ms : List CM) (a : AM) : List DV := (List.range ms.length).map fun i =>
  ⟨(toldO (runO (atM ms) (orderM pk ms) a).2 i).1.1, (toldO (runO (atM ms) (orderM pk ms) a).2 i).1.2, (toldO (runO (atM ms) (orderM pk ms) a).2 i).2, waveI ms i, (orderM pk ms).idxOf i⟩
noncomputable def endR (pk : Nat → Nat → Nat → Int) (ms : List CM) (a : AM) : AM := (runO (atM ms) (orderM pk ms) a).1
noncomputable def oneD (ms : List CM) (a : AM) : List DV := (List.range ms.length).map fun i =>
  ⟨(toldO (runO (atM ms) (List.range ms.length) a).2 i).1.1, (toldO (runO (atM ms) (List.range ms.length) a).2 i).1.2, (toldO (runO (atM ms) (List.range ms.length) a).2 i).2, 0, i⟩
noncomputable def endO (ms : List CM) (a : AM) : AM := (runO (atM ms) (List.range ms.length) a).1
structure PickF (F : Nat → Prop) (w0 : World) (f : Value) (pk : Nat → Nat → Nat → Int) : Prop where
  ex : ∃ fid first cap, f = .func (.func fid) first cap ∧ (∀ args w, (callFunc fid args).run Tryz.prog w = .ok (.enter fid args) w) ∧ ∀ (wv k n : Nat) (W : World), wv ≤ 1000000 → k ≤ 1000000 → n ≤ 1000000 → Only F w0 W →
    Calls Tryz.prog fid (first ++ #[.int .i64 (wv : Int), .int .i64 (k : Int), .int .i64 (n : Int)] ++ cap) W fun e W' => e = .returned (.int .i64 (pk wv k n)) ∧ Below W.heap.size W W'
  lim : ∀ wv k n, -9223372036854775808 ≤ pk wv k n ∧ pk wv k n ≤ 9223372036854775807
structure WvK (T : World → Prop) where
  grew : ∀ {w w' : World}, T w → Below w.heap.size w w' → T w'
  Pl : (Nat → Prop) → World → Nat → AM → Prop
  keep : ∀ {F G : Nat → Prop} {w w' : World} {R : Nat} {a : AM}, Pl F w R a → Only G w w' → (∀ k, F k → ¬ G k) → Pl F w' R a
  lt : ∀ {F : Nat → Prop} {w : World} {R : Nat} {a : AM}, Pl F w R a → ∀ k, F k → k < w.heap.size
  sorted : ∀ {F : Nat → Prop} {w : World} {R : Nat} {a : AM}, Pl F w R a → SortedA a
  new : ∀ (w : World), T w → Calls Tryz.prog 18 #[] w fun e W' => ∃ F R, e = .returned (.pointer (some ⟨R, 0, none⟩)) ∧ Pl F W' R ⟨[], [], 0⟩ ∧ (∀ k, F k → w.heap.size ≤ k) ∧ Below w.heap.size w W'
  fold : ∀ (A : Option Addr) (L c : Nat) (l : List CmdV) (w : World), T w → L = l.length → L ≤ 100 → HasC w A l → (∀ v ∈ l, ¬ v.great) → Calls Tryz.prog 7 #[.slice A L c] w fun e W' => ∃ F R, e = .returned (.pointer (some ⟨R, 0, none⟩)) ∧ Pl F W' R (oneO (l.map (·.m)) ⟨[], [], 0⟩) ∧ (∀ k, F k → w.heap.size ≤ k) ∧ Below w.heap.size w W'
  same : ∀ {F G : Nat → Prop} {w : World} {R S : Nat} {a : AM}, T w → Pl F w R a → Pl G w S a → Calls Tryz.prog 16 #[.pointer (some ⟨R, 0, none⟩), .pointer (some ⟨S, 0, none⟩)] w fun e W' => e = .returned (.bool true) ∧ Below w.heap.size w W'
  run : ∀ {F : Nat → Prop} {w : World} {R : Nat} {a : AM} (A : Option Addr) (L c : Nat) (l : List CmdV) (f : Value) (pk : Nat → Nat → Nat → Int), Pl F w R a → T w → LimAn 1000 a → L = l.length → L ≤ 100 → HasCF F w A l → (∀ v ∈ l, ¬ v.great) → PickF F w f pk →
    Calls Tryz.prog 12 #[.pointer (some ⟨R, 0, none⟩), .slice A L c, f] w fun e W' => ∃ A' c', e = .returned (.slice A' L c') ∧ L ≤ c' ∧ HasD W' A' (runD pk (l.map (·.m)) a) ∧ ∃ F', Pl F' W' R (endR pk (l.map (·.m)) a) ∧ Only F w W' ∧ (∀ k, F' k → F k ∨ w.heap.size ≤ k) ∧ NotF w.heap.size F' A'
structure WvO {T : World → Prop} (K : WvK T) : Prop where
  one : ∀ {F : Nat → Prop} {w : World} {R : Nat} {a : AM} (A : Option Addr) (L c : Nat) (l : List CmdV), K.Pl F w R a → T w → LimAn 1000 a → L = l.length → L ≤ 100 → HasCF F w A l → (∀ v ∈ l, ¬ v.great) →
    Calls Tryz.prog 17 #[.pointer (some ⟨R, 0, none⟩), .slice A L c] w fun e W' => ∃ A' c', e = .returned (.slice A' L c') ∧ L ≤ c' ∧ HasD W' A' (oneD (l.map (·.m)) a) ∧ ∃ F', K.Pl F' W' R (endO (l.map (·.m)) a) ∧ Only F w W' ∧ (∀ k, F' k → F k ∨ w.heap.size ≤ k) ∧ NotF w.heap.size F' A'
theorem endR_same (pk : Nat → Nat → Nat → Int) (ms : List CM) {a : AM} (ha : SortedA a) : endR pk ms a = endO ms a := by
  unfold endR endO
  rw [orderM_same pk ms a ha]
theorem runD_get (pk : Nat → Nat → Nat → Int) (ms : List CM) {a : AM} (ha : SortedA a) {i : Nat} (hi : i < ms.length) : ∃ (h1 : i < (runD pk ms a).length) (h2 : i < (oneD ms a).length) (r : (Nat × ByteArray) × Bool),
    (runD pk ms a)[i] = ⟨r.1.1, r.1.2, r.2, waveI ms i, (orderM pk ms).idxOf i⟩ ∧ (oneD ms a)[i] = ⟨r.1.1, r.1.2, r.2, 0, i⟩ := by
  refine ⟨by simpa [runD] using hi, by simpa [oneD] using hi, toldO (runO (atM ms) (List.range ms.length) a).2 i, ?_, ?_⟩
  · simp only [runD, List.getElem_map, List.getElem_range]
    rw [orderM_same pk ms a ha]
  · simp only [oneD, List.getElem_map, List.getElem_range]
theorem runD_len (pk : Nat → Nat → Nat → Int) (ms : List CM) (a : AM) : (runD pk ms a).length = ms.length := by simp [runD]
section
variable {pk : Nat → Nat → Nat → Int} {ms : List CM}
theorem ord_len : (orderM pk ms).length = ms.length := by rw [(orderM_perm pk ms).length_eq, List.length_range]
theorem ord_mem {i : Nat} (hi : i < ms.length) : i ∈ orderM pk ms := (orderM_perm pk ms).mem_iff.2 (List.mem_range.2 hi)
theorem turn_lt {i : Nat} (hi : i < ms.length) : (orderM pk ms).idxOf i < ms.length := by
  have := List.idxOf_lt_length_of_mem (ord_mem (pk := pk) hi)
  rwa [ord_len] at this
theorem ord_turn {i : Nat} (hi : i < ms.length) : (orderM pk ms)[(orderM pk ms).idxOf i]? = some i := by
  have h := List.idxOf_lt_length_of_mem (ord_mem (pk := pk) hi)
  rw [List.getElem?_eq_getElem h, List.getElem_idxOf]
def ordAt (pk : Nat → Nat → Nat → Int) (ms : List CM) (t : Nat) : Nat := (orderM pk ms)[t]?.getD 0
theorem ordAt_turn {i : Nat} (hi : i < ms.length) : ordAt pk ms ((orderM pk ms).idxOf i) = i := by rw [ordAt, ord_turn hi]; rfl
theorem ordAt_lt {t : Nat} (ht : t < ms.length) : ordAt pk ms t < ms.length := by
  have h : t < (orderM pk ms).length := by rw [ord_len]; exact ht
  rw [ordAt, List.getElem?_eq_getElem h, Option.getD_some]
  exact List.mem_range.1 ((orderM_perm pk ms).mem_iff.1 (List.getElem_mem h))
theorem ordAt_inj {t i : Nat} (ht : t < ms.length) (h : ordAt pk ms t = i) : t = (orderM pk ms).idxOf i := by
  have hl : t < (orderM pk ms).length := by rw [ord_len]; exact ht
  have hnd : (orderM pk ms).Nodup := (orderM_perm pk ms).nodup_iff.2 List.nodup_range
  rw [ordAt, List.getElem?_eq_getElem hl, Option.getD_some] at h
  rw [← h]
  exact (hnd.idxOf_getElem t hl).symm
theorem ord_wave {t : Nat} (ht : t + 1 < ms.length) : waveI ms (ordAt pk ms t) ≤ waveI ms (ordAt pk ms (t + 1)) := by
  have h1 : t < (orderM pk ms).length := by rw [ord_len]; omega
  have h2 : t + 1 < (orderM pk ms).length := by rw [ord_len]; exact ht
  have := List.pairwise_iff_getElem.1 (orderM_waves pk ms) t (t + 1) h1 h2 (by omega)
  unfold ordAt
  rw [List.getElem?_eq_getElem h1, List.getElem?_eq_getElem h2]
  exact this
end
end Go.Proofs.YtfjmdkhemnmkpaaGreatDoor
