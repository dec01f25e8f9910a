/- Contracts of varint's Reader.Uint, Int and Text. -/
import Derived.Test.YtbhncffeoolhfaaDoorVar4
namespace Go.Proofs.YtbhncffeoolhfaaDoor
open Go.RowKit Go.Shelf

attribute [local go_sem] Oper.semAt_some

/-- What holds behind the statement that adds seven bits. -/
theorem after9 {w W W0 : World} {R i j acc : Nat} {c : UInt8} {lim : Int} {rest : List UInt8} {Ix : Code → World → Prop} {a' : Act} (hle0 : w.heap.size ≤ W0.heap.size) (hsz : W0.heap.size = w.heap.size + 1 + 1)
    (hst : St w R w.heap.size (w.heap.size + 1) 0 lim rest acc W) (hx2 : W.heap[w.heap.size + 1]? = some (.cells #[.int .u64 (acc : Int)] 38 (0, 0))) (hacc : acc < 128 ^ j) (hj : j < 10) (hcond : ¬ ((0 < j ∧ c.toNat = 0) ∨ (j = 9 ∧ 1 < c.toNat))) (hij : i = j) :
    tiedPost W0.heap.size (fun W => St w R w.heap.size (w.heap.size + 1) 0 lim rest (acc + c.toNat % 128 * 128 ^ i) W ∧ Hid (¬ ((0 < i ∧ c.toNat = 0) ∨ (i = 9 ∧ 1 < c.toNat)))) Ix W .normal a' ((W.setCell ⟨w.heap.size + 1, 0, none⟩ (val9 acc j c 7)).drew) := by
  subst hij
  have hval : val9 acc i c 7 = .int .u64 ((acc + c.toNat % 128 * 128 ^ i : Nat) : Int) := by
    show Value.int .u64 _ = _
    rw [shl_or acc i c hacc hj (fun h => hcond (.inr h))]
  rw [hval]
  obtain ⟨⟨A, L, cc, hh, hL, hc, hm, hd⟩, h1, h2, h3⟩ := hst
  have hne : R ≠ w.heap.size + 1 := by rintro rfl; rw [h2] at hh; cases hh
  have key : ∀ (k : Nat), k ≠ w.heap.size + 1 → ((W.setCell ⟨w.heap.size + 1, 0, none⟩ (.int .u64 ((acc + c.toNat % 128 * 128 ^ i : Nat) : Int))).drew).heap[k]? = W.heap[k]? := fun k hk => Below.heap_setCell _ _ _ _ hk
  refine ⟨((KeepsOthers.setCell _ _ _).trans (KeepsOthers.drew _)).from _, ⟨⟨A, L, cc, (key R hne).trans hh, hL, hc, hm, hd.kept fun b cur hb => (key b ?_).trans hb⟩, (key _ (by omega)).trans h1, ?_, ?_⟩, hcond⟩
  · rintro rfl; rw [h2] at hb; cases hb
  · show (W.setCell ⟨w.heap.size + 1, 0, none⟩ _).heap[w.heap.size + 1]? = _
    rw [blk_set h2]; rfl
  · refine ⟨h3.os, h3.tape, h3.output, ?_, fun k hk hn => (key k (by omega)).trans (h3.block k hk hn)⟩
    have := (grownBy_set W (w.heap.size + 1) 0 (.int .u64 ((acc + c.toNat % 128 * 128 ^ i : Nat) : Int))).size
    exact Nat.le_trans h3.size this

set_option maxRecDepth 100000 in
set_option maxHeartbeats 4000000 in
theorem UintR_in (n : Nat) (hn : 3 ≤ n) (w : World) (R : Nat) (lim : Int) (bs : List UInt8) (h : Rd w R 0 lim bs) :
    CallsIn Fence.wide n Tryd.prog 31 #[.pointer (some ⟨R, 0, none⟩)] w fun e W' => w.grownBy W' (some R) ∧
      ((∃ m rest, e = .returned (.int .u64 ((m : Nat) : Int)) ∧ rdU bs = .ok m rest ∧ Rd W' R 0 lim rest) ∨
       (e = .returned (.int .u64 0) ∧ rdU bs = .short ∧ Rd W' R 10 lim []) ∨
       (∃ rest, e = .returned (.int .u64 0) ∧ rdU bs = .form rest ∧ Rd W' R 11 lim rest)) := by
  have h1 : 1 ≤ n := by omega
  have H := Lib.hid h
  clear h
  refine callsIn_of_wp_marks Tryd.func31 rfl trivial ?_ rfl
  simp only [Tryd.ntmps31, List.size_toArray, List.length_cons, List.length_nil, Nat.reduceAdd, Nat.reduceSub, Array.replicate_succ, Array.replicate_zero, List.push_toArray, List.append_toArray, List.nil_append, List.cons_append]
  gi_wp2
  have hRlt := H.out.lt
  obtain ⟨W0, hW0⟩ : ∃ W0, (w.alloc (Obj.cells #[Value.pointer (some { block := R, off := 0 })] 63)).alloc (Obj.cells #[Value.int IntKind.u64 0] 38) = W0 := ⟨_, rfl⟩
  have hsz : W0.heap.size = w.heap.size + 1 + 1 := by rw [← hW0]; simp
  have hB0 : Below w.heap.size w W0 := by rw [← hW0]; exact ((Below.refl _ _).alloc (Nat.le_refl _) _).alloc (by simp) _
  have hbx1 : W0.heap[w.heap.size]? = some (.cells #[.pointer (some ⟨R, 0, none⟩)] 63 (0, 0)) := by
    rw [← hW0]; exact (Below.heap_alloc _ _ _ (by simp)).trans (World.alloc_heap_new w _)
  have hbx2 : W0.heap[w.heap.size + 1]? = some (.cells #[.int .u64 ((0 : Nat) : Int)] 38 (0, 0)) := by
    rw [← hW0]; have := World.alloc_heap_new (w.alloc (Obj.cells #[Value.pointer (some { block := R, off := 0 })] 63)) (Obj.cells #[Value.int IntKind.u64 0] 38); rwa [World.size_alloc] at this
  rw [hW0]
  have hst0 : NI0 w R w.heap.size (w.heap.size + 1) lim bs W0 := ⟨H.out.below hB0, hbx1, hbx2, grownBy_of_below hB0⟩
  have HST := Lib.hid hst0
  have HSZ := Lib.hid hsz
  have hle0 : w.heap.size ≤ W0.heap.size := by omega
  clear hst0 hbx1 hbx2 hW0 hsz
  refine wpIn_rangeFunc_tied rfl h1 (gf := 34) (fb := #[.pointer (some ⟨R, 0, none⟩)]) (lb := #[]) rfl trivial (enters_of Tryd.func34 (by kernel_rfl) rfl) (encs := fun x : At => #[.int .i64 (x.i : Int), .int .u8 (x.c.toNat : Int)]) (fun _ => rfl)
    (Abides.st hle0) ?dn (fun x => (Abides.st hle0).and (Abides.pure _)) (fun x => (Abides.st hle0).and (Abides.pure _)) ?lx1 ?lx2
    (number_seq (n - 1) (by omega) w R w.heap.size (w.heap.size + 1) lim bs W0.heap.size (by omega)) HST.out
    (fun x => { tmps := #[.pointer (some ⟨R, 0, none⟩), .pointer (some ⟨w.heap.size, 0, none⟩), .int .u64 0, .pointer (some ⟨w.heap.size + 1, 0, none⟩), .int .i64 (x.i : Int), .int .u8 (x.c.toNat : Int), .pointer (some ⟨R, 0, none⟩), .bool false, .pointer (some ⟨R, 0, none⟩), .func (.func 34) #[.pointer (some ⟨R, 0, none⟩)] #[], .int .i64 (x.i : Int), .int .u8 (x.c.toNat : Int), undef, undef, undef, undef, undef, undef, undef, undef, undef, undef, undef, undef, undef, undef, undef, undef, undef, undef, undef, undef, undef, undef, undef, undef, undef, undef, undef, undef, undef, undef, undef], defers := [] }) ?assign ?body ?done ?stop
  case dn =>
    rintro W W' row (⟨m, rest, h, hp⟩ | ⟨acc, h, hp⟩) hg hr
    · exact .inl ⟨m, rest, Abides.st hle0 W W' row h hg hr, hp⟩
    · exact .inr ⟨acc, Abides.st hle0 W W' row h hg hr, hp⟩
  case lx1 =>
    rintro c W W' row ⟨rest, acc, h, hp⟩ hg hr
    exact ⟨rest, acc, Abides.st hle0 W W' row h hg hr, hp⟩
  case lx2 =>
    rintro c W W' row ⟨rest, acc, h, hp⟩ hg hr
    exact ⟨rest, acc, Abides.st hle0 W W' row h hg hr, hp⟩
  case assign =>
    intro l x W K hK
    gi_wp2
    exact hK
  case body =>
    rintro l ⟨i, c, acc, rest⟩ W ⟨hst, hrd, hi⟩ hlt
    dsimp only at hst hrd hi ⊢
    have HS := Lib.hid hst
    obtain ⟨hRd, hx1, hx2, hgr⟩ := hst
    have hc1 : W.cell? ⟨w.heap.size, 0, none⟩ = some (.pointer (some ⟨R, 0, none⟩)) := by simpa using blk_cell hx1 0
    have hc2 : W.cell? ⟨w.heap.size + 1, 0, none⟩ = some (.int .u64 (acc : Int)) := by simpa using blk_cell hx2 0
    have hf2 := blk_frozen hx2 0
    have hc3 : W.cell? ⟨R, 0, none⟩ = some (.int .i64 0) := by
      obtain ⟨A, L, c, hh, -⟩ := hRd
      simpa using blk_cell hh 0
    have hf3 : W.frozen? ⟨R, 0, none⟩ = false := by
      obtain ⟨A, L, c, hh, -⟩ := hRd
      exact blk_frozen hh 0
    have HX2 := Lib.hid hx2
    have hu := c.toNat_lt
    clear hRd hx1 hx2 hgr
    gi_wp2_with (first | (refine ⟨trivial, fun _ => by omega, ?_⟩; gi_at_call 35; refine (CallsIn.inRound l (callsIn_wide.2 (fail_ok R 11 _ hc3 hf3))).mono ?_; rintro y w' ⟨⟨v, rfl⟩, rfl⟩))
    all_goals have HU := Lib.hid hu
    · have hcond : (0 < i ∧ c.toNat = 0) ∨ (i = 9 ∧ 1 < c.toNat) := by first | omega | (rename_i h; simp at h; omega)
      refine ⟨(KeepsOthers.setCell _ _ _).from _, rest, acc, HS.out.move (grownBy_set W R 0 (.int .i64 11)) (HS.out.1.fail 11), rfl, ?_⟩
      rw [hrd.out.1]
      obtain ⟨f, hf⟩ : ∃ f, 10 - i = f + 1 := ⟨9 - i, by omega⟩
      rw [hf, rd, if_pos hcond]
    · have hcond : (0 < i ∧ c.toNat = 0) ∨ (i = 9 ∧ 1 < c.toNat) := by first | omega | (rename_i h; simp at h; omega)
      refine ⟨(KeepsOthers.setCell _ _ _).from _, rest, acc, HS.out.move (grownBy_set W R 0 (.int .i64 11)) (HS.out.1.fail 11), rfl, ?_⟩
      rw [hrd.out.1]
      obtain ⟨f, hf⟩ : ∃ f, 10 - i = f + 1 := ⟨9 - i, by omega⟩
      rw [hf, rd, if_pos hcond]
    · have hcond : ¬ ((0 < i ∧ c.toNat = 0) ∨ (i = 9 ∧ 1 < c.toNat)) := by first | omega | (rename_i h; simp at h; omega)
      have hi9 : i = 9 := by omega
      refine region9 l _ (w.heap.size + 1) acc 9 c (by omega) W _ _ rfl rfl rfl rfl hc2 hf2 (fun a' => ?_)
      exact after9 (a' := a') (Ix := NIx w R w.heap.size (w.heap.size + 1) lim bs) (hle0 := hle0) HSZ.out HS.out HX2.out (hi9 ▸ hrd.out.2) (by omega) (hi9 ▸ hcond) hi9
    · have hcond : ¬ ((0 < i ∧ c.toNat = 0) ∨ (i = 9 ∧ 1 < c.toNat)) := by first | omega | (rename_i h; simp at h; omega)
      refine region9 l _ (w.heap.size + 1) acc i c hi W _ _ rfl rfl rfl rfl hc2 hf2 (fun a' => ?_)
      exact after9 (a' := a') (Ix := NIx w R w.heap.size (w.heap.size + 1) lim bs) (hle0 := hle0) HSZ.out HS.out HX2.out hrd.out.2 hi hcond rfl
    · have hcond : ¬ ((0 < i ∧ c.toNat = 0) ∨ (i = 9 ∧ 1 < c.toNat)) := by first | omega | (rename_i h; simp at h; omega)
      refine region9 l _ (w.heap.size + 1) acc i c hi W _ _ rfl rfl rfl rfl hc2 hf2 (fun a' => ?_)
      exact after9 (a' := a') (Ix := NIx w R w.heap.size (w.heap.size + 1) lim bs) (hle0 := hle0) HSZ.out HS.out HX2.out hrd.out.2 hi hcond rfl
  case done =>
    rintro D W hD hId hK
    have hI : ∃ e rest acc, St w R w.heap.size (w.heap.size + 1) e lim rest acc W ∧ ((e = 0 ∧ rdU bs = .ok acc rest) ∨ (e = 10 ∧ rest = [] ∧ rdU bs = .short)) := by
      rcases hId with ⟨m, rest, h, hp⟩ | ⟨acc, h, hp⟩
      · exact ⟨0, rest, m, h, .inl ⟨rfl, hp.out⟩⟩
      · exact ⟨10, [], acc, h, .inr ⟨rfl, rfl, hp.out⟩⟩
    obtain ⟨e, rest, acc, hst, hcase⟩ := hI
    have HC := Lib.hid hcase
    have HS := Lib.hid hst
    have HKK := Lib.hid hK
    obtain ⟨hRd, hx1, hx2, hgr⟩ := hst
    have hc1 : W.cell? ⟨w.heap.size, 0, none⟩ = some (.pointer (some ⟨R, 0, none⟩)) := by simpa using blk_cell hx1 0
    have hc2 : W.cell? ⟨w.heap.size + 1, 0, none⟩ = some (.int .u64 (acc : Int)) := by simpa using blk_cell hx2 0
    have hc3 : W.cell? ⟨R, 0, none⟩ = some (.int .i64 e) := by
      obtain ⟨A, L, c, hh, -⟩ := hRd
      simpa using blk_cell hh 0
    clear hRd hx1 hx2 hgr hcase hId hK
    have hend : w.grownBy (W.putObj D (.deferred none)) (some R) := Abides.grownBy (Nat.le_refl w.heap.size) W _ (some D) HS.out.2.2.2 (grownBy_putObj' W D _) (fun r e => by cases e; exact ⟨by have := HSZ.out; omega, _, HKK.out, rfl⟩)
    have hendr : ∀ x y, Rd W R x lim y → Rd (W.putObj D (.deferred none)) R x lim y := fun x y h => Abides.rd (B := w.heap.size) W _ (some D) h (grownBy_putObj' W D _) (fun r e => by cases e; exact ⟨by have := HSZ.out; omega, _, HKK.out, rfl⟩)
    have HE := Lib.hid hend
    have HER := Lib.hid hendr
    clear hend hendr
    rcases HC.out with ⟨rfl, hrd⟩ | ⟨rfl, rfl, hrd⟩
    · have HR := Lib.hid hrd
      clear hrd
      gi_wp2_with (refine ⟨trivial, ?_⟩; gi_at_call 36; refine (callsIn_wide.2 (failed_any R 0 _ hc3)).mono ?_; rintro e w' ⟨rfl, rfl⟩)
      refine ⟨by simp, .inl ⟨_, _, rfl, run_takeDeferred HKK.out, ?_⟩⟩
      exact ⟨_, results_tmp rfl _ _ _, HE.out, .inl ⟨acc, rest, rfl, HR.out, HER.out _ _ HS.out.1⟩⟩
    · have HR := Lib.hid hrd
      clear hrd
      gi_wp2_with (refine ⟨trivial, ?_⟩; gi_at_call 36; refine (callsIn_wide.2 (failed_any R 10 _ hc3)).mono ?_; rintro e w' ⟨rfl, rfl⟩)
      refine ⟨by simp, .inl ⟨_, _, rfl, run_takeDeferred HKK.out, ?_⟩⟩
      exact ⟨_, results_tmp rfl _ _ _, HE.out, .inr (.inl ⟨rfl, HR.out, HER.out _ _ HS.out.1⟩)⟩
  case stop =>
    rintro D c W hD ⟨rest, acc, hst, hp⟩ hK
    obtain ⟨rfl, hrd⟩ := hp.out
    have HR := Lib.hid hrd
    have HS := Lib.hid hst
    have HKK := Lib.hid hK
    obtain ⟨hRd, hx1, hx2, hgr⟩ := hst
    have hc1 : W.cell? ⟨w.heap.size, 0, none⟩ = some (.pointer (some ⟨R, 0, none⟩)) := by simpa using blk_cell hx1 0
    have hc3 : W.cell? ⟨R, 0, none⟩ = some (.int .i64 11) := by
      obtain ⟨A, L, c, hh, -⟩ := hRd
      simpa using blk_cell hh 0
    clear hRd hx1 hx2 hgr hK hrd hp
    have hend : w.grownBy (W.putObj D (.deferred none)) (some R) := Abides.grownBy (Nat.le_refl w.heap.size) W _ (some D) HS.out.2.2.2 (grownBy_putObj' W D _) (fun r e => by cases e; exact ⟨by have := HSZ.out; omega, _, HKK.out, rfl⟩)
    have hendr : ∀ x y, Rd W R x lim y → Rd (W.putObj D (.deferred none)) R x lim y := fun x y h => Abides.rd (B := w.heap.size) W _ (some D) h (grownBy_putObj' W D _) (fun r e => by cases e; exact ⟨by have := HSZ.out; omega, _, HKK.out, rfl⟩)
    have HE := Lib.hid hend
    have HER := Lib.hid hendr
    clear hend hendr
    gi_wp2_with (refine ⟨trivial, ?_⟩; gi_at_call 36; refine (callsIn_wide.2 (failed_any R 11 _ hc3)).mono ?_; rintro e w' ⟨rfl, rfl⟩)
    refine ⟨by simp, .inl ⟨_, _, rfl, run_takeDeferred HKK.out, ?_⟩⟩
    exact ⟨_, results_tmp rfl _ _ _, HE.out, .inr (.inr ⟨rest, rfl, HR.out, HER.out _ _ HS.out.1⟩)⟩

end Go.Proofs.YtbhncffeoolhfaaDoor
