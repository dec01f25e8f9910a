/- A state of kv and a table of session side by side: what a call on one of them leaves of the other. For the application. -/
import Derived.Test.YthmmbopibpdpiaaGreatDoorMKqG
import Derived.Test.YthmmbopibpdpiaaGreatDoorMKqD
import Derived.Test.YthmmbopibpdpiaaGreatDoorSqG
namespace Go.Proofs.YthmmbopibpdpiaaGreatDoor
open Go.RowKit Go.Maps

/- kv's contracts, by what a state lies in. -/
theorem plK_keep {F G : Nat → Prop} {w w' : World} {R : Nat} {l : List PV} (h : PlQ F w R l) (ho : Only G w w') (hd : ∀ k, F k → ¬ G k) : PlQ F w' R l := by
  obtain ⟨p, h, hs, hF⟩ := h
  exact ⟨p, h.keep (ho.block R h.lt (hd R ((hF R).2 (.inl rfl)))) (fun b e => ho.block b (h.blt b e) (hd b ((hF b).2 (.inr e)))), hs, hF⟩
theorem plK_lt {F : Nat → Prop} {w : World} {R : Nat} {l : List PV} (h : PlQ F w R l) : ∀ k, F k → k < w.heap.size := by
  obtain ⟨p, h, _, hF⟩ := h
  intro k hk
  rcases (hF k).1 hk with e | e
  · rw [e]; exact h.lt
  · exact h.blt k e
theorem plK_new (w : World) : Calls Tryz.prog 19 #[] w fun e W' => ∃ F R, e = .returned (.pointer (some ⟨R, 0, none⟩)) ∧ PlQ F W' R [] ∧ (∀ k, F k → w.heap.size ≤ k) ∧ Below w.heap.size w W' :=
  (new_any w).mono fun e W' ⟨he, hw⟩ => by
    subst hw
    refine ⟨_, w.heap.size, he, PlQ.mk (p := none) ⟨World.alloc_heap_new w _, rfl⟩ SortedP.nil, fun k hk => ?_, (Below.refl _ w).alloc (Nat.le_refl _) _⟩
    rcases hk with e | e
    · omega
    · cases e
theorem plK_do {F : Nat → Prop} {w : World} {R : Nat} {l : List PV} (v : CmdV) (h : PlQ F w R l) (hT : TabK w) (hl : LimP l) (hv : v.ok w) : Calls Tryz.prog 22 #[.pointer (some ⟨R, 0, none⟩), v.val] w fun e W' => e = .returned (ReplyV (doP l v.m).2) ∧ ∃ F', PlQ F' W' R (doP l v.m).1 ∧ Only F w W' ∧ ∀ k, F' k → F k ∨ w.heap.size ≤ k := by
  obtain ⟨p, h, hs, hF⟩ := h
  refine (do_any R p l v w h hT hs hl hv).mono fun e W' ⟨he, hc⟩ => ?_
  obtain ⟨p', s', hp'⟩ := hc.ex
  refine ⟨he, _, PlQ.mk s' (doP_sorted hs v.m), only_of hF hc.only, fun k hk => ?_⟩
  rcases hk with e | e
  · exact .inl ((hF k).2 (.inl e))
  · rcases hp' k e with e' | e'
    · exact .inl ((hF k).2 (.inr e'))
    · exact .inr e'
theorem plK_put {F : Nat → Prop} {w : World} {R : Nat} {l : List PV} (A : Option Addr) (L c : Nat) (bs : List UInt8) (h : PlQ F w R l) (hl : LimP l) (hbl : (bytesP l).length ≤ 900000) (hL : L = bs.length) (hL1 : L ≤ 100000) (hA : HasA w w.heap.size A bs) :
    Calls Tryz.prog 18 #[.pointer (some ⟨R, 0, none⟩), .slice A L c] w fun e W' => ∃ v n, e = .returned v ∧ W'.ownsRow w.heap.size 5 1 v n ((bs ++ bytesP l).map enc) ∧ Below w.heap.size w W' := by
  obtain ⟨p, h, hs, _⟩ := h
  exact put_any A L c bs h hs hl hbl hL hL1 hA
/- session's contracts. -/
theorem plS_keep {F G : Nat → Prop} {w w' : World} {R : Nat} {l : List SE} (h : PlQS F w R l) (ho : Only G w w') (hd : ∀ k, F k → ¬ G k) : PlQS F w' R l := lSess.keep h ho hd
theorem plS_lt {F : Nat → Prop} {w : World} {R : Nat} {l : List SE} (h : PlQS F w R l) : ∀ k, F k → k < w.heap.size := lSess.lt h
theorem plS_new (w : World) : Calls Tryz.prog 20 #[] w fun e W' => ∃ F R, e = .returned (.pointer (some ⟨R, 0, none⟩)) ∧ PlQS F W' R [] ∧ (∀ k, F k → w.heap.size ≤ k) ∧ Below w.heap.size w W' := lSess.new w trivial
theorem plS_look {F : Nat → Prop} {w : World} {R : Nat} {l : List SE} (c s : Nat) (h : PlQS F w R l) (hc : c < 4294967296) (hs : s < 4294967296) : Calls Tryz.prog 21 #[.pointer (some ⟨R, 0, none⟩), .int .u32 (c : Int), .int .u32 (s : Int)] w fun e W' => e = .returned (.tuple #[replyV (tellS l c s).1, .int .u8 ((tellS l c s).2 : Int)]) ∧ Below w.heap.size w W' := by
  obtain ⟨_, h, _, _⟩ := h
  exact look_any h c s hc hs
theorem plS_keeps {F : Nat → Prop} {w : World} {R : Nat} {l : List SE} (c s cd : Nat) (tx : ByteArray) (h : PlQS F w R l) (hl : l.length ≤ 1000000) (hc : c < 4294967296) (hsq : s < 4294967296) (ht : tx.size ≤ maxLen) : Calls Tryz.prog 23 #[.pointer (some ⟨R, 0, none⟩), .int .u32 (c : Int), .int .u32 (s : Int), replyV (cd, tx)] w fun e W' => e = .returned (.tuple #[]) ∧ ∃ F', PlQS F' W' R (keepS l c s cd tx) ∧ Only F w W' ∧ ∀ k, F' k → F k ∨ w.heap.size ≤ k := by
  obtain ⟨p, h, hs, hF⟩ := h
  refine (keep_any h hs hl c s cd tx hc hsq ht).mono fun e W' ⟨he, hch⟩ => ?_
  obtain ⟨p', s', hp'⟩ := hch.ex
  refine ⟨he, _, PlQS.mk s' (keepS_sorted hs c s cd tx), only_ofS hF hch.only, fun k hk => ?_⟩
  rcases hk with e | e
  · exact .inl ((hF k).2 (.inl e))
  · rcases hp' k e with e' | e'
    · exact .inl ((hF k).2 (.inr e'))
    · exact .inr e'
theorem plS_put {F : Nat → Prop} {w : World} {R : Nat} {l : List SE} {b : Nat} (A : Option Addr) (L c : Nat) (bs : List UInt8) (h : PlQS F w R l) (hl : LimB b l) (hb : b ≤ 100000) (hbl : (bytesSS l).length ≤ 900000) (hL : L = bs.length) (hL1 : L ≤ 100000) (hA : HasA w w.heap.size A bs) :
    Calls Tryz.prog 17 #[.pointer (some ⟨R, 0, none⟩), .slice A L c] w fun e W' => ∃ v n, e = .returned v ∧ W'.ownsRow w.heap.size 5 1 v n ((bs ++ bytesSS l).map enc) ∧ Below w.heap.size w W' := by
  obtain ⟨p, h, hs, _⟩ := h
  exact put_anyS A L c bs h hs hl hb hbl hL hL1 hA
theorem plK_take (lim : Nat) (hlim : lim ≤ 9223372036854775807) (R : Nat) (s0 : RdS) (h0 : s0.e = 0 ∨ s0.e = 10 ∨ s0.e = 11) (w : World) (hbs : s0.bs.length ≤ 1000000) (h : RdQ w R lim s0) :
    Calls Tryz.prog 12 #[.pointer (some ⟨R, 0, none⟩)] w fun e W' => ∃ (n : Nat) (l : List PV) (rest : List UInt8), TakeO s0.bs l rest n ∧ w.grownBy W' (some R) ∧
    ((n = 0 ∧ ∃ F S, e = .returned (.tuple #[.pointer (some ⟨S, 0, none⟩), .int .i64 0]) ∧ PlQ F W' S l ∧ (∀ k, F k → w.heap.size ≤ k) ∧ RdQ W' R lim ⟨0, rest⟩) ∨ (n ≠ 0 ∧ e = .returned (.tuple #[.pointer none, .int .i64 (n : Int)]))) :=
  (take_any lim hlim R s0 h0 w hbs h).mono fun _ _ ⟨n, l, rest, ⟨h1, _⟩, h2⟩ => ⟨n, l, rest, h1, h2⟩
theorem plS_take (lim : Nat) (hlim : lim ≤ 9223372036854775807) (R : Nat) (s0 : RdS) (h0 : s0.e = 0 ∨ s0.e = 10 ∨ s0.e = 11) (w : World) (hbs : s0.bs.length ≤ 20000) (h : RdQ w R lim s0) :
    Calls Tryz.prog 13 #[.pointer (some ⟨R, 0, none⟩)] w fun e W' => ∃ (n : Nat) (l : List SE) (rest : List UInt8), TakeB 100000 s0.bs l rest n ∧ w.grownBy W' (some R) ∧
    ((n = 0 ∧ ∃ F S, e = .returned (.tuple #[.pointer (some ⟨S, 0, none⟩), .int .i64 0]) ∧ PlQS F W' S l ∧ (∀ k, F k → w.heap.size ≤ k) ∧ RdQ W' R lim ⟨0, rest⟩) ∨ (n ≠ 0 ∧ e = .returned (.tuple #[.pointer none, .int .i64 (n : Int)]))) :=
  take_anyS lim 100000 hlim (.inr (by decide)) R s0 h0 w hbs h
/-- A state and a table that have no block in common; F: the blocks of both. -/
structure BothA (F : Nat → Prop) (w : World) (Rk : Nat) (ps : List PV) (Rs : Nat) (ss : List SE) : Prop where
  ex : ∃ Fk Fs, PlQ Fk w Rk ps ∧ PlQS Fs w Rs ss ∧ (∀ k, Fk k → ¬ Fs k) ∧ ∀ k, F k ↔ (Fk k ∨ Fs k)
section
variable {F G Fk Fs : Nat → Prop} {w w' : World} {Rk Rs : Nat} {ps : List PV} {ss : List SE}
theorem BothA.mk2 (h1 : PlQ Fk w Rk ps) (h2 : PlQS Fs w Rs ss) (hd : ∀ k, Fk k → ¬ Fs k) : BothA (fun k => Fk k ∨ Fs k) w Rk ps Rs ss := ⟨Fk, Fs, h1, h2, hd, fun _ => Iff.rfl⟩
/-- A table that came behind the state. -/
theorem BothA.of (h1 : PlQ Fk w Rk ps) (hb : Below w.heap.size w w') (h2 : PlQS Fs w' Rs ss) (hn : ∀ k, Fs k → w.heap.size ≤ k) : BothA (fun k => Fk k ∨ Fs k) w' Rk ps Rs ss :=
  BothA.mk2 (plK_keep h1 (Only.of_grew (F := fun _ => False) hb) (fun _ _ => id)) h2 (fun k hk hf => by have := plK_lt h1 k hk; have := hn k hf; omega)
theorem BothA.keep (h : BothA F w Rk ps Rs ss) (ho : Only G w w') (hd : ∀ k, F k → ¬ G k) : BothA F w' Rk ps Rs ss := by
  obtain ⟨Fk, Fs, h1, h2, h3, h4⟩ := h.ex
  exact ⟨Fk, Fs, plK_keep h1 ho (fun k hk => hd k ((h4 k).2 (.inl hk))), plS_keep h2 ho (fun k hk => hd k ((h4 k).2 (.inr hk))), h3, h4⟩
theorem BothA.below (h : BothA F w Rk ps Rs ss) (hb : Below w.heap.size w w') : BothA F w' Rk ps Rs ss := h.keep (Only.of_grew (F := fun _ => False) hb) (fun _ _ => id)
theorem BothA.lt (h : BothA F w Rk ps Rs ss) : ∀ k, F k → k < w.heap.size := by
  obtain ⟨Fk, Fs, h1, h2, _, h4⟩ := h.ex
  intro k hk
  rcases (h4 k).1 hk with e | e
  · exact plK_lt h1 k e
  · exact plS_lt h2 k e
/-- Behind a call on the state. -/
theorem BothA.do_ (h : BothA F w Rk ps Rs ss) (hT : TabK w) (hl : LimP ps) (v : CmdV) (hv : v.ok w) : Calls Tryz.prog 22 #[.pointer (some ⟨Rk, 0, none⟩), v.val] w fun e W' => e = .returned (ReplyV (doP ps v.m).2) ∧ ∃ F', BothA F' W' Rk (doP ps v.m).1 Rs ss ∧ Only F w W' ∧ ∀ k, F' k → F k ∨ w.heap.size ≤ k := by
  obtain ⟨Fk, Fs, h1, h2, h3, h4⟩ := h.ex
  refine (plK_do v h1 hT hl hv).mono fun e W' ⟨he, F', k1, k2, k3⟩ => ⟨he, _, BothA.mk2 k1 (plS_keep h2 k2 (fun k hk hf => h3 k hf hk)) (fun k hk hf => ?_), k2.mono (fun k _ hk => (h4 k).2 (.inl hk)), fun k hk => ?_⟩
  · rcases k3 k hk with e' | e'
    · exact h3 k e' hf
    · have := plS_lt h2 k hf; omega
  · rcases hk with e' | e'
    · rcases k3 k e' with e2 | e2
      · exact .inl ((h4 k).2 (.inl e2))
      · exact .inr e2
    · exact .inl ((h4 k).2 (.inr e'))
/-- Behind a call on the table. -/
theorem BothA.keeps (h : BothA F w Rk ps Rs ss) (c s cd : Nat) (tx : ByteArray) (hl : ss.length ≤ 1000000) (hc : c < 4294967296) (hsq : s < 4294967296) (ht : tx.size ≤ maxLen) : Calls Tryz.prog 23 #[.pointer (some ⟨Rs, 0, none⟩), .int .u32 (c : Int), .int .u32 (s : Int), replyV (cd, tx)] w fun e W' => e = .returned (.tuple #[]) ∧ ∃ F', BothA F' W' Rk ps Rs (keepS ss c s cd tx) ∧ Only F w W' ∧ ∀ k, F' k → F k ∨ w.heap.size ≤ k := by
  obtain ⟨Fk, Fs, h1, h2, h3, h4⟩ := h.ex
  refine (plS_keeps c s cd tx h2 hl hc hsq ht).mono fun e W' ⟨he, F', k1, k2, k3⟩ => ⟨he, _, BothA.mk2 (plK_keep h1 k2 (fun k hk hf => h3 k hk hf)) k1 (fun k hk hf => ?_), k2.mono (fun k _ hk => (h4 k).2 (.inr hk)), fun k hk => ?_⟩
  · rcases k3 k hf with e' | e'
    · exact h3 k hk e'
    · have := plK_lt h1 k hk; omega
  · rcases hk with e' | e'
    · exact .inl ((h4 k).2 (.inl e'))
    · rcases k3 k e' with e2 | e2
      · exact .inl ((h4 k).2 (.inr e2))
      · exact .inr e2
theorem BothA.look (h : BothA F w Rk ps Rs ss) (c s : Nat) (hc : c < 4294967296) (hs : s < 4294967296) : Calls Tryz.prog 21 #[.pointer (some ⟨Rs, 0, none⟩), .int .u32 (c : Int), .int .u32 (s : Int)] w fun e W' => e = .returned (.tuple #[replyV (tellS ss c s).1, .int .u8 ((tellS ss c s).2 : Int)]) ∧ Below w.heap.size w W' := by
  obtain ⟨_, _, _, h2, _, _⟩ := h.ex
  exact plS_look c s h2 hc hs
theorem BothA.putK (h : BothA F w Rk ps Rs ss) (A : Option Addr) (L c : Nat) (bs : List UInt8) (hl : LimP ps) (hbl : (bytesP ps).length ≤ 900000) (hL : L = bs.length) (hL1 : L ≤ 100000) (hA : HasA w w.heap.size A bs) :
    Calls Tryz.prog 18 #[.pointer (some ⟨Rk, 0, none⟩), .slice A L c] w fun e W' => ∃ v n, e = .returned v ∧ W'.ownsRow w.heap.size 5 1 v n ((bs ++ bytesP ps).map enc) ∧ Below w.heap.size w W' := by
  obtain ⟨_, _, h1, _, _, _⟩ := h.ex
  exact plK_put A L c bs h1 hl hbl hL hL1 hA
theorem BothA.putS {b : Nat} (h : BothA F w Rk ps Rs ss) (A : Option Addr) (L c : Nat) (bs : List UInt8) (hl : LimB b ss) (hb : b ≤ 100000) (hbl : (bytesSS ss).length ≤ 900000) (hL : L = bs.length) (hL1 : L ≤ 100000) (hA : HasA w w.heap.size A bs) :
    Calls Tryz.prog 17 #[.pointer (some ⟨Rs, 0, none⟩), .slice A L c] w fun e W' => ∃ v n, e = .returned v ∧ W'.ownsRow w.heap.size 5 1 v n ((bs ++ bytesSS ss).map enc) ∧ Below w.heap.size w W' := by
  obtain ⟨_, _, _, h2, _, _⟩ := h.ex
  exact plS_put A L c bs h2 hl hb hbl hL hL1 hA
end
end Go.Proofs.YthmmbopibpdpiaaGreatDoor
