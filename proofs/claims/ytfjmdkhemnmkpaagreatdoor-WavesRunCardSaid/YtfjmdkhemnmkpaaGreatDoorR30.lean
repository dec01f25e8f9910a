/- Parts of the proof: KtM, KtD, KtR, KtE, KtF. -/
import Derived.Test.YtfjmdkhemnmkpaaGreatDoorR29
import Derived.Test.YtfjmdkhemnmkpaaGreatDoorR14
import Derived.Test.YtfjmdkhemnmkpaaGreatDoorR02
import Derived.Test.YtfjmdkhemnmkpaaGreatDoorR03
import Derived.Deep.DeepCutAuto
import Derived.Test.YtfjmdkhemnmkpaaGreatDoorR24
set_option maxRecDepth 100000
set_option maxHeartbeats 8000000
namespace Go.Proofs.YtfjmdkhemnmkpaaGreatDoor
def keyT (acc:List (CM × Nat)) (k:ByteArray):Nat:=supW (fun a=>!loneM a&&namesB k a) acc
def clT (acc:List (CM × Nat)) (c:Nat):Nat:=supW (fun a=>!loneM a&&decide (a.cl=c)) acc
def leastW (acc:List (CM × Nat)):Nat:=supW loneM acc
def countW (acc:List (CM × Nat)):Nat:=supW (fun _=>true) acc
def inK (ks:List ByteArray) (k:ByteArray):Bool:=ks.any fun j=>decide (j=k)
theorem inK_iff {ks:List ByteArray} {k:ByteArray}:inK ks k=true<->k∈ks:=by simp [inK]
theorem inK_snoc (a:List ByteArray) (j k:ByteArray):inK (a++[j]) k=(inK a k||decide (j=k)):=by
 unfold inK;rw [List.any_append];simp
theorem foldl_max {K:Type} (f:K->Nat):∀(l:List K) (s:Nat),l.foldl (fun w k=>max w (f k)) s=max s (l.foldl (fun w k=>max w (f k)) 0)
 |[],s=>by simp
 |k::l,s=>by
  simp only [List.foldl_cons];rw [foldl_max f l (max s (f k)),foldl_max f l (max 0 (f k))];omega
theorem names_touch (a:CM) (ks:List ByteArray):((touchK ks).any fun k=>!loneM a&&namesB k a)=(!loneM a&&ks.any fun k=>namesB k a):=by
 cases loneM a with
 |true=>simp
 |false=>
  rw [Bool.eq_iff_iff];simp only [Bool.not_false,Bool.true_and,List.any_eq_true,touchK_mem]
theorem nextW_many (acc:List (CM × Nat)) {m:CM} (h:loneM m=false):nextW acc m=(touchK m.ks).foldl (fun w k=>max w (keyT acc k)) (max (leastW acc) (clT acc m.cl)):=by
 rw [foldl_max,show (touchK m.ks).foldl (fun w k=>max w (keyT acc k)) 0=supW (fun a=>(touchK m.ks).any fun k=>!loneM a&&namesB k a) acc from (supW_any (fun k a=>!loneM a&&namesB k a) acc (touchK m.ks)).symm];unfold leastW clT;rw [<-supW_or,<-supW_or,nextW_sup];refine supW_congr acc fun p _=>?_
 rw [wayM_parts,h,names_touch]
 cases loneM p.1<;>simp
theorem nextW_lone (acc:List (CM × Nat)) {m:CM} (h:loneM m=true):nextW acc m=countW acc:=by rw [nextW_parts,if_pos h];rfl
section
variable {acc:List (CM × Nat)} {m:CM}
theorem least_lone (h:loneM m=true):leastW (acc++[(m,nextW acc m)])=countW acc+1:=by
 unfold leastW;rw [supW_set h (fun a _=>way_lone (.inl h)),nextW_lone acc h]
theorem count_any (x:Nat):countW (acc++[(m,x)])=max (countW acc) (x+1):=by
 unfold countW;rw [supW_snoc,if_pos rfl]
theorem count_lone (h:loneM m=true):countW (acc++[(m,nextW acc m)])=countW acc+1:=by
 rw [count_any,nextW_lone acc h];omega
theorem keyT_lone (h:loneM m=true) (x:Nat) (k:ByteArray):keyT (acc++[(m,x)]) k=keyT acc k:=supW_keep (by simp [h])
theorem clT_lone (h:loneM m=true) (x:Nat) (c:Nat):clT (acc++[(m,x)]) c=clT acc c:=supW_keep (by simp [h])
theorem least_many (h:loneM m=false) (x:Nat):leastW (acc++[(m,x)])=leastW acc:=supW_keep h
theorem names_mem {k:ByteArray} {m:CM}:namesB k m=true<->k∈touchK m.ks:=by
 simp [namesB,touchK_mem]
theorem keyT_many (h:loneM m=false) (k:ByteArray):keyT (acc++[(m,nextW acc m)]) k=if inK (touchK m.ks) k=true then nextW acc m+1 else keyT acc k:=by
 by_cases hk:inK (touchK m.ks) k=true
 ·rw [if_pos hk];have hn:=names_mem.2 (inK_iff.1 hk)
  exact supW_set (P:=fun a=>!loneM a&&namesB k a) (by simp [h,hn]) (fun a ha=>by
   simp only [Bool.and_eq_true] at ha;exact way_names ha.2 hn)
 ·rw [if_neg hk]
  have hn:namesB k m=false:=by
   cases hh:namesB k m with
   |false=>rfl
   |true=>exact absurd (inK_iff.2 (names_mem.1 hh)) hk
  exact supW_keep (by simp [hn])
theorem clT_many (h:loneM m=false) (c:Nat):clT (acc++[(m,nextW acc m)]) c=if c=m.cl then nextW acc m+1 else clT acc c:=by
 by_cases hc:c=m.cl
 ·rw [if_pos hc];subst hc
  exact supW_set (P:=fun a=>!loneM a&&decide (a.cl=m.cl)) (by simp [h]) (fun a ha=>by
   simp only [Bool.and_eq_true,decide_eq_true_eq] at ha;exact way_client ha.2)
 ·rw [if_neg hc];exact supW_keep (by simp;intro _ e;exact hc e.symm)
end
theorem supW_le {P:CM->Bool} {n:Nat}:∀{acc:List (CM × Nat)},(∀p∈acc,p.2+1<=n)->supW P acc<=n:=by
 intro acc h;unfold supW
 have key:∀(acc:List (CM × Nat)) (x:Nat),x<=n->(∀p∈acc,p.2+1<=n)->acc.foldl (fun w p=>if P p.1=true then max w (p.2+1) else w) x<=n:=by
  intro acc
  induction acc with
  |nil=>intro x hx _;exact hx
  |cons p acc ih=>
   intro x hx h;simp only [List.foldl_cons];refine ih _ ?_ (fun q hq=>h q (List.mem_cons_of_mem _ hq));have:=h p (List.mem_cons_self ..)
   split<;>omega
 exact key acc 0 (Nat.zero_le _) h
theorem wavesM_snoc (l:List CM) (m:CM):wavesM (l++[m])=wavesM l++[(m,nextW (wavesM l) m)]:=by
 unfold wavesM;rw [List.foldl_append]
 rfl
theorem wavesM_le (l:List CM):∀p∈wavesM l,p.2+1<=l.length:=by
 intro p hp;obtain ⟨i,hi,rfl⟩:=List.mem_iff_getElem.1 hp;have hi':i<l.length:=by rw [wavesM_len] at hi;exact hi
 have h1:=wavesM_at hi';rw [List.getElem?_eq_getElem hi] at h1;have h2:((wavesM l)[i]).2=waveI l i:=by rw [waveI_at hi'];exact congrArg Prod.snd (osI h1)
 rw [h2];have:=waveI_le i hi';omega
theorem nextW_max (l:List CM) (m:CM):nextW (wavesM l) m<=l.length:=by rw [nextW_sup];exact supW_le (wavesM_le l)
theorem keyT_le (l:List CM) (k:ByteArray):keyT (wavesM l) k<=l.length:=supW_le (wavesM_le l)
theorem clT_le (l:List CM) (c:Nat):clT (wavesM l) c<=l.length:=supW_le (wavesM_le l)
theorem leastW_le (l:List CM):leastW (wavesM l)<=l.length:=supW_le (wavesM_le l)
theorem countW_le (l:List CM):countW (wavesM l)<=l.length:=supW_le (wavesM_le l)
def foldW (acc:List (CM × Nat)) (s:Nat) (ks:List ByteArray):Nat:=ks.foldl (fun w k=>max w (keyT acc k)) s
theorem foldW_succ (acc:List (CM × Nat)) (s:Nat) {ks:List ByteArray} {j:Nat} (h:j<ks.length):foldW acc s (ks.take (j+1))=max (foldW acc s (ks.take j)) (keyT acc ks[j]):=by
 unfold foldW;rw [List.take_succ_eq_append_getElem h,List.foldl_append]
 rfl
def keyS (acc:List (CM × Nat)) (x:Nat) (ks:List ByteArray) (k:ByteArray):Nat:=if inK ks k=true then x+1 else keyT acc k
theorem keyS_succ (acc:List (CM × Nat)) (x:Nat) {ks:List ByteArray} {j:Nat} (h:j<ks.length) (k:ByteArray):keyS acc x (ks.take (j+1)) k=if k=ks[j] then x+1 else keyS acc x (ks.take j) k:=by
 unfold keyS;rw [List.take_succ_eq_append_getElem h,inK_snoc]
 by_cases hk:k=ks[j]
 ·rw [if_pos hk,decide_eq_true hk.symm,Bool.or_true,if_pos rfl]
 ·rw [if_neg hk,decide_eq_false (fun e=>hk e.symm),Bool.or_false]
end Go.Proofs.YtfjmdkhemnmkpaaGreatDoor
namespace Go.Proofs.YtfjmdkhemnmkpaaGreatDoor
open Go.Maps Go.RowKit
structure PsQ (W:World) (R g bk bc:Nat) (l:List CM):Prop where
 cell:W.heap[R]?=some (.cells #[loneV g,.map (some bk),.map (some bc),.int .i64 (leastW (wavesM l):Int),.int .i64 (countW (wavesM l):Int)] 190 (0,0))
 lim:W.heap[g]?=some (.cells #[.int .i64 4] 3 (0,0))
 keys:∃n,n<=10000*l.length/\TwS W bk n (keyT (wavesM l))
 cls:∃n,n<=l.length/\TwU W bc n (clT (wavesM l))
 ne:bk≠bc
theorem TwK.blk {K:Type} {kt:TypeId} {kl:K->Lit} {ok:K->Prop} {w:World} {b n:Nat} {T:K->Nat} (h:TwK kt kl ok w b n T):∃es clock,w.heap[b]?=some (.map es clock):=by
 obtain ⟨D,⟨es,ck,h1,_⟩,_⟩:=h.ex;exact ⟨es,ck,h1⟩
theorem TwK.ne_cells {K:Type} {kt:TypeId} {kl:K->Lit} {ok:K->Prop} {w:World} {b n:Nat} {T:K->Nat} (h:TwK kt kl ok w b n T) {q:Nat} {cs:Array Value} {t:TypeId} {z:Nat × Nat} (hq:w.heap[q]?=some (.cells cs t z)):q≠b:=by
 obtain ⟨es,ck,h1⟩:=h.blk;intro e;rw [e,h1] at hq
 cases hq
theorem TwK.ne_cell {K:Type} {kt:TypeId} {kl:K->Lit} {ok:K->Prop} {w:World} {b n:Nat} {T:K->Nat} (h:TwK kt kl ok w b n T) {p:Addr} {v:Value} (hp:w.cell? p=some v):p.block≠b:=by
 obtain ⟨es,ck,h1⟩:=h.blk;intro e;subst e;unfold World.cell? at hp;rw [h1] at hp;simp at hp
section
variable {W W':World} {R g bk bc:Nat} {l:List CM}
theorem PsQ.lt (h:PsQ W R g bk bc l):R<W.heap.size/\g<W.heap.size/\bk<W.heap.size/\bc<W.heap.size:=by
 obtain ⟨_,_,h1⟩:=h.keys;obtain ⟨_,_,h2⟩:=h.cls;exact ⟨(geS.1 h.cell).1,(geS.1 h.lim).1,h1.lt,h2.lt⟩
theorem PsQ.below (h:PsQ W R g bk bc l) (hb:Below W.heap.size W W'):PsQ W' R g bk bc l:=by
 obtain ⟨k1,k2,k3,k4⟩:=h.lt;obtain ⟨n1,a1,h1⟩:=h.keys;obtain ⟨n2,a2,h2⟩:=h.cls;exact ⟨(hb.block R k1).trans h.cell,(hb.block g k2).trans h.lim,⟨n1,a1,h1.keep (hb.block bk k3)⟩,⟨n2,a2,h2.keep (hb.block bc k4)⟩,h.ne⟩
theorem PsQ.apart (h:PsQ W R g bk bc l):R≠bk/\R≠bc/\g≠bk/\g≠bc/\R≠g:=by
 obtain ⟨n1,_,h1⟩:=h.keys;obtain ⟨n2,_,h2⟩:=h.cls;refine ⟨h1.ne_cells h.cell,h2.ne_cells h.cell,h1.ne_cells h.lim,h2.ne_cells h.lim,fun e=>?_⟩;have h3:=h.cell;rw [e,h.lim] at h3;have h4:=Obj.cells.inj (osI h3);exact absurd (congrArg Array.size h4.1) (by simp)
theorem PsQ.at (h:PsQ W R g bk bc l):W.cell? ⟨R,0,none⟩=some (loneV g)/\W.cell? ⟨R,1,none⟩=some (.map (some bk))/\W.cell? ⟨R,2,none⟩=some (.map (some bc))/\W.cell? ⟨R,3,none⟩=some (.int .i64 (leastW (wavesM l):Int))/\W.cell? ⟨R,4,none⟩=some (.int .i64 (countW (wavesM l):Int)):=
 ⟨blk_cell h.cell 0,blk_cell h.cell 1,blk_cell h.cell 2,blk_cell h.cell 3,blk_cell h.cell 4⟩
theorem PsQ.fz (h:PsQ W R g bk bc l) (i:Nat):W.frozen? ⟨R,i,none⟩=false:=blk_frozen h.cell i
end
theorem nothing_any (w:World):Calls Tryz.prog 98 #[] w fun e W'=>∃R g bk bc,e=.returned (.pointer (some ⟨R,0,none⟩))/\PsQ W' R g bk bc []/\(w.heap.size<=R/\w.heap.size<=bk/\w.heap.size<=bc)/\Below w.heap.size w W':=by
 have HM:=hiD (more_any w);obtain ⟨W0,hW0⟩:∃W0,W0=w.alloc (.cells #[.int .i64 4] 3):=⟨_,rfl⟩;rw [<-hW0] at HM;obtain ⟨hB0,k0⟩:=boxedW hW0;have s0:W0.heap.size=w.heap.size+1:=by rw [hW0];simp
 have m1:=run_makeMap (P:=Tryz.prog) 187 W0;have t1:TwS (W0.alloc (.map #[] 0)) W0.heap.size 0 (fun _=>0):=TwK.new W0;have hB1:Below W0.heap.size W0 (W0.alloc (.map #[] 0)):=(Below.refl _ W0).alloc (nLr _) _;have s1:(W0.alloc (.map #[] 0)).heap.size=W0.heap.size+1:=by simp
 obtain ⟨W1,hW1⟩:∃W1,W1=W0.alloc (.map #[] 0):=⟨_,rfl⟩;rw [<-hW1] at m1 t1 hB1 s1;have m2:=run_makeMap (P:=Tryz.prog) 188 W1;have t2:TwU (W1.alloc (.map #[] 0)) W1.heap.size 0 (fun _=>0):=TwK.new W1;have hB2:Below W1.heap.size W1 (W1.alloc (.map #[] 0)):=(Below.refl _ W1).alloc (nLr _) _;have s2:(W1.alloc (.map #[] 0)).heap.size=W1.heap.size+1:=by simp
 obtain ⟨W2,hW2⟩:∃W2,W2=W1.alloc (.map #[] 0):=⟨_,rfl⟩;rw [<-hW2] at m2 t2 hB2 s2;obtain ⟨g,hg⟩:∃g,g=w.heap.size:=⟨_,rfl⟩;obtain ⟨bk,hbk⟩:∃bk,bk=W0.heap.size:=⟨_,rfl⟩;obtain ⟨bc,hbc⟩:∃bc,bc=W1.heap.size:=⟨_,rfl⟩;rw [<-hbk] at m1 t1;rw [<-hbc] at m2 t2;obtain ⟨W3,hW3⟩:∃W3,W3=W2.alloc (.cells #[loneV g,.map (some bk),.map (some bc),.int .i64 0,.int .i64 0] 190):=⟨_,rfl⟩;obtain ⟨hB3,k3⟩:=boxedW hW3
 have HH:Hid (PsQ W3 W2.heap.size g bk bc []/\(w.heap.size<=W2.heap.size/\w.heap.size<=bk/\w.heap.size<=bc)/\Below w.heap.size w W3):=by
  refine hiD ⟨⟨k3,?_,⟨0,by simp,?_⟩,⟨0,by simp,?_⟩,by omega⟩,by omega,?_⟩
  ·exact ((hB3.block g (by omega)).trans ((hB2.block g (by omega)).trans ((hB1.block g (by omega)).trans (by rw [hg];exact k0))))
  ·exact (t1.keep ((hB3.block bk (by omega)).trans (hB2.block bk (by omega)))).congr (fun k _=>rfl)
  ·exact (t2.keep (hB3.block bc (by omega))).congr (fun k _=>rfl)
  ·exact hB0.trans (Below.mono (hB1.trans (Below.mono (hB2.trans (Below.mono hB3 (by omega))) (by omega))) (by omega))
 rw [<-hg] at HM;obtain ⟨R,hR⟩:∃R,R=W2.heap.size:=⟨_,rfl⟩;rw [<-hR] at HH;unfold loneV at HM hW3;have HW3:=hiD hW3;have HR:=hiD hR;clear hB0 k0 s0 t1 hB1 s1 t2 hB2 s2 hB3 k3 hg hbk hbc hW0 hW1 hW2 hW3 hR;go_enter Tryz.func98,Tryz.ntmps98
 go_wp2_with fail
 refine HM.out.mono ?_;rintro e V ⟨rfl,rfl⟩;go_wp2;rw [<-HW3.out,<-HR.out];go_ret;exact ⟨R,g,bk,bc,rfl,HH.out⟩
theorem addLone_any {w:World} {R g bk bc:Nat} {l:List CM} (h:PsQ w R g bk bc l) (hl:l.length<=1000) {m:CM} (hm:loneM m=true):
 Calls Tryz.prog 120 #[.pointer (some ⟨R,0,none⟩)] w fun e W'=>e=.returned (.int .i64 (nextW (wavesM l) m:Int))/\PsQ W' R g bk bc (l++[m])/\Only (fun x=>x=R) w W':=by
 obtain ⟨x0,x1,x2,x3,x4⟩:=h.at;have z3:=h.fz 3;have z4:=h.fz 4;obtain ⟨N,hN⟩:∃N,N=countW (wavesM l):=⟨_,rfl⟩;have hNl:N<=1000:=by rw [hN];exact nLt (countW_le l) hl
 have hNi:(N:Int)<=1000:=by omega
 rw [nextW_lone _ hm,<-hN];have hap:=h.apart
 have HH:Hid (PsQ ((w.setCell ⟨R,4,none⟩ (.int .i64 ((N:Int)+1))).setCell ⟨R,3,none⟩ (.int .i64 ((N:Int)+1))) R g bk bc (l++[m])/\Only (fun x=>x=R) w ((w.setCell ⟨R,4,none⟩ (.int .i64 ((N:Int)+1))).setCell ⟨R,3,none⟩ (.int .i64 ((N:Int)+1)))):=by
  obtain ⟨n1,a1,h1⟩:=h.keys;obtain ⟨n2,a2,h2⟩:=h.cls;have k4:=blk_set h.cell 4 (.int .i64 ((N:Int)+1));have k3:=blk_set k4 3 (.int .i64 ((N:Int)+1));have hbl:∀k,k≠R->((w.setCell ⟨R,4,none⟩ (.int .i64 ((N:Int)+1))).setCell ⟨R,3,none⟩ (.int .i64 ((N:Int)+1))).heap[k]?=w.heap[k]?:=fun k hk=>(Below.heap_setCell _ _ _ _ hk).trans (Below.heap_setCell _ _ _ _ hk)
  refine hiD ⟨⟨?_,(hbl g (Ne.symm hap.2.2.2.2)).trans h.lim,⟨n1,by simp;omega,(h1.keep (hbl bk (Ne.symm hap.1))).congr (fun k _=>?_)⟩,⟨n2,by simp;omega,(h2.keep (hbl bc (Ne.symm hap.2.1))).congr (fun k _=>?_)⟩,h.ne⟩,?_⟩
  ·rw [k3,wavesM_snoc,least_lone hm,count_lone hm,<-hN];simp
  ·rw [wavesM_snoc,keyT_lone hm]
  ·rw [wavesM_snoc,clT_lone hm]
  ·exact Only.setCell (p:=⟨R,3,none⟩) (Only.setCell (p:=⟨R,4,none⟩) (Only.refl (fun x=>x=R) w) (.inl rfl) _) (.inl rfl) _
 rw [<-hN] at x4;clear hN h hm hap hNl;go_enter Tryz.func120,Tryz.ntmps120;go_wp2;go_ret;exact ⟨rfl,HH.out⟩
end Go.Proofs.YtfjmdkhemnmkpaaGreatDoor
namespace Go.Proofs.YtfjmdkhemnmkpaaGreatDoor
open Go.RowKit
theorem run_fdP2 (w:World) (b:Nat):(Instr.fieldAt 190 (.pointer (some ⟨b,0,none⟩)) 2).run Tryz.prog w=.ok (.pointer (some ⟨b,2,none⟩)) w:=by
 simp [go_sem]
theorem run_fdP3 (w:World) (b:Nat):(Instr.fieldAt 190 (.pointer (some ⟨b,0,none⟩)) 3).run Tryz.prog w=.ok (.pointer (some ⟨b,3,none⟩)) w:=by
 simp [go_sem]
theorem run_fdCW (w:World) (b:Nat):(Instr.fieldAt 57 (.pointer (some ⟨b,0,none⟩)) 0).run Tryz.prog w=.ok (.pointer (some ⟨b,0,none⟩)) w:=by
 simp [go_sem]
theorem run_ldIW (w:World) (p:Addr) (v:Int) (h:w.cell? p=some (.int .i64 v)):(Instr.loadAt 3 (.pointer (some p))).run Tryz.prog w=.ok (.int .i64 v) w:=by
 simp [go_sem,h]
theorem run_ldUW (w:World) (p:Addr) (v:Int) (h:w.cell? p=some (.int .u32 v)):(Instr.loadAt 54 (.pointer (some p))).run Tryz.prog w=.ok (.int .u32 v) w:=by
 simp [go_sem,h]
theorem run_ldMW (w:World) (p:Addr) (b:Option Nat) (h:w.cell? p=some (.map b)):(Instr.loadAt 188 (.pointer (some p))).run Tryz.prog w=.ok (.map b) w:=by
 simp [go_sem,h]
theorem run_maxN (ts:Array TypeId) (t:TypeId) (w:World) (a b:Nat):(Builtin.max_ ts t #[.int .i64 (a:Int),.int .i64 (b:Int)]).run Tryz.prog w=.ok (.int .i64 ((max a b:Nat):Int)) w:=by
 rw [show ((max a b:Nat):Int)=if (b:Int)>a then (b:Int) else a by split<;>omega];simp [Builtin.max_,Builtin.max2]
noncomputable def opsKtA:List Oper:=opsOf Tryz.f99 4
theorem ktwave (R q bc cl s1 s2:Nat) (a:Act) (w:World) (Q:Exit->Act->World->Prop) (hN:a.tmps.size=79) (h0:a.tmps.getD 0 undef=.pointer (some ⟨R,0,none⟩)) (h3:a.tmps.getD 3 undef=.pointer (some ⟨q,0,none⟩)) (hRl:R<w.heap.size) (hql:q<w.heap.size) (hR3:w.cell? ⟨R,3,none⟩=some (.int .i64 (s1:Int))) (hR2:w.cell? ⟨R,2,none⟩=some (.map (some bc))) (hq0:w.cell? ⟨q,0,none⟩=some (.int .u32 (cl:Int))) (hB:∀w',Grew w w'->Calls Tryz.prog 121 #[.map (some bc),.int .u32 (cl:Int)] w' fun e W'=>e=.returned (.int .i64 (s2:Int))/\W'=w') (hQ:∀(w':World),Grew w w'->Q .normal (puts [(21,.pointer (some ⟨R,0,none⟩)),(22,.pointer (some ⟨R,0,none⟩)),(23,.pointer (some ⟨R,3,none⟩)),(24,.int .i64 (s1:Int)),(25,.pointer (some ⟨R,0,none⟩)),(26,.pointer (some ⟨R,0,none⟩)),(27,.pointer (some ⟨R,2,none⟩)),(28,.map (some bc)),(29,.pointer (some ⟨q,0,none⟩)),(30,.int .u32 (cl:Int)),(31,.int .i64 (s2:Int)),(32,.int .i64 ((max s1 s2:Nat):Int)),(6,.int .i64 ((max s1 s2:Nat):Int))] a) w')
 :(Code.region 4 opsKtA.toArray true).wp Tryz.prog Q a w:=by
 refine region_v 79 opsKtA [(0,.pointer (some ⟨R,0,none⟩)),(3,.pointer (some ⟨q,0,none⟩))] [10,11] [.eq (.pointer (some ⟨R,0,none⟩)),.eq (.pointer (some ⟨R,0,none⟩)),.eq (.pointer (some ⟨R,3,none⟩)),.eq (.int .i64 (s1:Int)),.eq (.pointer (some ⟨R,0,none⟩)),.eq (.pointer (some ⟨R,0,none⟩)),.eq (.pointer (some ⟨R,2,none⟩)),.eq (.map (some bc)),.eq (.pointer (some ⟨q,0,none⟩)),.eq (.int .u32 (cl:Int)),.eq (.int .i64 (s2:Int)),.eq (.int .i64 ((max s1 s2:Nat):Int)),.eq (.int .i64 ((max s1 s2:Nat):Int))] Grew Grew.refl Grew.trans follows (by kernel_rfl) (by kernel_rfl) hN ⟨h0,h3,trivial⟩ rfl trivial ?_ ?_ ?_
 ·intro _ w' hR _;exact ⟨fun _=>rfl,fun _=>rfl,fun _=>ob_fld (run_fdP3 _ _),fun _=>ob_load (run_ldIW _ _ _ ((Below.cell hR.undraw (p:=⟨R,3,none⟩) hRl).trans hR3)),fun _=>rfl,fun _=>rfl,fun _=>ob_fld (run_fdP2 _ _),fun _=>ob_load (run_ldMW _ _ _ ((Below.cell hR.undraw (p:=⟨R,2,none⟩) hRl).trans hR2)),fun _=>ob_fld (run_fdCW _ _),fun _=>ob_load (run_ldUW _ _ _ ((Below.cell hR.undraw (p:=⟨q,0,none⟩) hql).trans hq0)),trivial,trivial,fun _=>rfl,trivial⟩
 ·refine ⟨?_,?_,trivial⟩
  ·rintro o _ ho hd a' w' hF hR hp;have hio:=(nthO_eq _ _).symm.trans ho
   cases ho
   cases hd
   have q7:a'.tmps.getD 28 undef=.map (some bc):=hp 7 _ 28 rfl rfl rfl;have q9:a'.tmps.getD 30 undef=.int .u32 (cl:Int):=hp 9 _ 30 rfl rfl rfl;refine step_callD hio rfl rfl (enters_of Tryz.func121 (by kernel_rfl) rfl) (show Array.map a'.eval #[.tmp 28,.tmp 30]=_ from by simp only [List.map_toArray,List.map_cons,List.map_nil,Act.eval,q7,q9]) ((hB w' hR.undraw).mono ?_);rintro e w'' ⟨rfl,rfl⟩;exact ⟨_,rfl,_,rfl,rfl,Below.refl _ _⟩
  ·rintro o _ ho hd a' w' hF hR hp;have hio:=(nthO_eq _ _).symm.trans ho
   cases ho
   cases hd
   have q3:a'.tmps.getD 24 undef=.int .i64 (s1:Int):=hp 3 _ 24 rfl rfl rfl;have q10:a'.tmps.getD 31 undef=.int .i64 (s2:Int):=hp 10 _ 31 rfl rfl rfl
   refine step_run hio rfl (by intro c h;cases h) (by simp [Oper.about,resolve,Target.leads,Sem.run_pure]) (v:=.int .i64 ((max s1 s2:Nat):Int)) (w':=w') (by
    unfold execOp;simp only [resolve,invoke,builtin,Sem.run_bind,Sem.run_pure,Result.andThen_ok,List.map_toArray,List.map_cons,List.map_nil,Act.eval,q3,q10,run_maxN]) ⟨_,rfl,rfl,Grew.refl _⟩
 ·intro _ w' hR _;exact hQ w' hR.undraw
def oKtB0 (p:String):Oper:={dst:=some 48,op:=Op.move (Operand.tmp 0),type:=164,pos:=p,after:=#[],guard:=none}
def oKtB1 (p:String):Oper:={dst:=some 49,op:=Op.nilCheck (Operand.tmp 48),type:=0,pos:=p,after:=#[{on:=0,ground:=Ground.data}],guard:=none}
def oKtB2 (p:String):Oper:={dst:=some 50,op:=Op.fieldAddr 190 (Operand.tmp 49) 2,type:=0,pos:=p,after:=#[{on:=1,ground:=Ground.data}],guard:=none}
def oKtB3 (p:String):Oper:={dst:=some 51,op:=Op.load 188 (Operand.tmp 50),type:=188,pos:=p,after:=#[{on:=2,ground:=Ground.data}],guard:=none}
def oKtB4 (p:String):Oper:={dst:=some 52,op:=Op.fieldAddr 57 (Operand.tmp 3) 0,type:=0,pos:=p,after:=#[],guard:=none}
def oKtB5 (p:String):Oper:={dst:=some 53,op:=Op.load 54 (Operand.tmp 52),type:=54,pos:=p,after:=#[{on:=4,ground:=Ground.data}],guard:=none}
def oKtB6 (p:String):Oper:={dst:=some 54,op:=Op.move (Operand.tmp 6),type:=3,pos:=p,after:=#[],guard:=none}
def opsKtB (p:String):List Oper:=[oKtB0 p,oKtB1 p,oKtB2 p,oKtB3 p,oKtB4 p,oKtB5 p,oKtB6 p]
def oKtBL (p:String):Oper:={dst:=none,op:=Op.mapUpdate 188 (Operand.tmp 51) (Operand.tmp 53) (Operand.tmp 54),type:=0,pos:=p,after:=#[{on:=3,ground:=Ground.data},{on:=5,ground:=Ground.data},{on:=6,ground:=Ground.data},{on:=0,ground:=Ground.phase},{on:=1,ground:=Ground.phase},{on:=2,ground:=Ground.phase},{on:=3,ground:=Ground.phase},{on:=4,ground:=Ground.phase},{on:=5,ground:=Ground.phase},{on:=6,ground:=Ground.phase}],guard:=none}
theorem opsKtB_back (p:String):backwards (opsKtB p++[oKtBL p])=true:=by kernel_rfl
theorem opsKtB_all (p:String):((List.range (opsKtB p).length).all (hasEdge (oKtBL p)))=true:=by kernel_rfl
theorem opsKtB_slots (p:String):slotsOk 79 (opsKtB p)=true:=by kernel_rfl
def psiKtB (R q bc cl x:Nat):Nat->Value->World->Prop
 |0,v,_=>v=.pointer (some ⟨R,0,none⟩)
 |1,v,_=>v=.pointer (some ⟨R,0,none⟩)
 |2,v,_=>v=.pointer (some ⟨R,2,none⟩)
 |3,v,_=>v=.map (some bc)
 |4,v,_=>v=.pointer (some ⟨q,0,none⟩)
 |5,v,_=>v=.int .u32 (cl:Int)
 |6,v,_=>v=.int .i64 (x:Int)
 |_,_,_=>True
theorem psiKtB_grew (R q bc cl x:Nat):∀i v w w',psiKtB R q bc cl x i v w->Grew w w'->psiKtB R q bc cl x i v w':=by
 intro i v w w' h hg
 rcases i with _|_|_|_|_|_|_|i
 ·exact h
 ·exact h
 ·exact h
 ·exact h
 ·exact h
 ·exact h
 ·exact h
 ·trivial
theorem ktclient {p:String} (R q bc cl x:Nat) (Pq:World->World->Prop) (a:Act) (w:World) (Q:Exit->Act->World->Prop) (hN:a.tmps.size=79) (h0:a.tmps.getD 0 undef=.pointer (some ⟨R,0,none⟩)) (h3:a.tmps.getD 3 undef=.pointer (some ⟨q,0,none⟩)) (h6:a.tmps.getD 6 undef=.int .i64 (x:Int)) (hRl:R<w.heap.size) (hql:q<w.heap.size) (hR2:w.cell? ⟨R,2,none⟩=some (.map (some bc))) (hq0:w.cell? ⟨q,0,none⟩=some (.int .u32 (cl:Int))) (hP:∀w',Grew w w'->∃W3,(Instr.mapUpdate 188 (.map (some bc)) (.int .u32 (cl:Int)) (.int .i64 (x:Int))).run Tryz.prog w'=.ok () W3/\Pq w' W3) (hQ:∀(w' W3:World),Grew w w'->Pq w' W3->Q .normal (puts [(48,.pointer (some ⟨R,0,none⟩)),(49,.pointer (some ⟨R,0,none⟩)),(50,.pointer (some ⟨R,2,none⟩)),(51,.map (some bc)),(52,.pointer (some ⟨q,0,none⟩)),(53,.int .u32 (cl:Int)),(54,.int .i64 (x:Int))] a) (W3))
 :(Code.region 10 (opsKtB p++[oKtBL p]).toArray true).wp Tryz.prog Q a w:=by
 refine (wpIn_wide (n:=1)).1 (wpIn_region_store 79 hN follows (opsKtB_back p) (opsKtB_slots p) (opsKtB_all p) Grew Grew.refl Grew.trans (psiKtB R q bc cl x) (psiKtB_grew R q bc cl x) ?_ ?_)
 ·intro i o d ho hd a' w' hF hR hp
  rcases i with _|_|_|_|_|_|_|i
  ·obtain rfl:oKtB0 p=o:=osI ho;obtain rfl:48=d:=osI hd;exact step_move rfl rfl rfl (hF.at 0 rfl h0) ⟨_,rfl,rfl,Grew.refl _⟩
  ·obtain rfl:oKtB1 p=o:=osI ho;obtain rfl:49=d:=osI hd;have q0:a'.tmps.getD 48 undef=.pointer (some ⟨R,0,none⟩):=hp 0 (oKtB0 p) 48 rfl rfl rfl;exact step_nilCheckF rfl rfl rfl q0 (trivial) ⟨_,rfl,rfl,Grew.refl _⟩
  ·obtain rfl:oKtB2 p=o:=osI ho;obtain rfl:50=d:=osI hd;have q1:a'.tmps.getD 49 undef=.pointer (some ⟨R,0,none⟩):=hp 1 (oKtB1 p) 49 rfl rfl rfl;exact step_fieldF rfl rfl rfl q1 (run_fdP2 _ _) ⟨_,rfl,rfl,Grew.refl _⟩
  ·obtain rfl:oKtB3 p=o:=osI ho;obtain rfl:51=d:=osI hd;have q2:a'.tmps.getD 50 undef=.pointer (some ⟨R,2,none⟩):=hp 2 (oKtB2 p) 50 rfl rfl rfl;exact step_load rfl rfl rfl q2 (run_ldMW _ _ _ ((Below.cell hR.undraw (p:=⟨R,2,none⟩) hRl).trans hR2)) ⟨_,rfl,rfl,Grew.refl _⟩
  ·obtain rfl:oKtB4 p=o:=osI ho;obtain rfl:52=d:=osI hd;exact step_fieldF rfl rfl rfl (hF.at 3 rfl h3) (run_fdCW _ _) ⟨_,rfl,rfl,Grew.refl _⟩
  ·obtain rfl:oKtB5 p=o:=osI ho;obtain rfl:53=d:=osI hd;have q4:a'.tmps.getD 52 undef=.pointer (some ⟨q,0,none⟩):=hp 4 (oKtB4 p) 52 rfl rfl rfl;exact step_load rfl rfl rfl q4 (run_ldUW _ _ _ ((Below.cell hR.undraw (p:=⟨q,0,none⟩) hql).trans hq0)) ⟨_,rfl,rfl,Grew.refl _⟩
  ·obtain rfl:oKtB6 p=o:=osI ho;obtain rfl:54=d:=osI hd;exact step_move rfl rfl rfl (hF.at 6 rfl h6) ⟨_,rfl,rfl,Grew.refl _⟩
  ·exact absurd ((geS.1 ho).1) (by simp [opsKtB])
 ·intro a' w' hF hR hp;have e0:psiKtB R q bc cl x 0 (a'.tmps.getD 48 undef) w':=hp 0 (oKtB0 p) 48 rfl rfl;have e1:psiKtB R q bc cl x 1 (a'.tmps.getD 49 undef) w':=hp 1 (oKtB1 p) 49 rfl rfl;have e2:psiKtB R q bc cl x 2 (a'.tmps.getD 50 undef) w':=hp 2 (oKtB2 p) 50 rfl rfl;have e3:psiKtB R q bc cl x 3 (a'.tmps.getD 51 undef) w':=hp 3 (oKtB3 p) 51 rfl rfl;have e4:psiKtB R q bc cl x 4 (a'.tmps.getD 52 undef) w':=hp 4 (oKtB4 p) 52 rfl rfl;have e5:psiKtB R q bc cl x 5 (a'.tmps.getD 53 undef) w':=hp 5 (oKtB5 p) 53 rfl rfl;have e6:psiKtB R q bc cl x 6 (a'.tmps.getD 54 undef) w':=hp 6 (oKtB6 p) 54 rfl rfl
  have hput:a'=puts [(48,.pointer (some ⟨R,0,none⟩)),(49,.pointer (some ⟨R,0,none⟩)),(50,.pointer (some ⟨R,2,none⟩)),(51,.map (some bc)),(52,.pointer (some ⟨q,0,none⟩)),(53,.int .u32 (cl:Int)),(54,.int .i64 (x:Int))] a:=hF.puts [(48,.pointer (some ⟨R,0,none⟩)),(49,.pointer (some ⟨R,0,none⟩)),(50,.pointer (some ⟨R,2,none⟩)),(51,.map (some bc)),(52,.pointer (some ⟨q,0,none⟩)),(53,.int .u32 (cl:Int)),(54,.int .i64 (x:Int))] (by
   intro x hx;simp only [List.mem_cons,List.not_mem_nil,or_false] at hx
   rcases hx with rfl|rfl|rfl|rfl|rfl|rfl|rfl
   ·exact e0
   ·exact e1
   ·exact e2
   ·exact e3
   ·exact e4
   ·exact e5
   ·exact e6) rfl (by rw [hN];rfl)
  obtain ⟨W3,hst,hp3⟩:=hP w' hR.undraw;have hx1:a'.eval (.tmp 51)=.map (some bc):=e3;have hx2:a'.eval (.tmp 53)=.int .u32 (cl:Int):=e5;have hx3:a'.eval (.tmp 54)=.int .i64 (x:Int):=e6
  refine step_skip (o:=oKtBL p) (w':=W3) rfl rfl (by intro c h;cases h) (by simp [Oper.about,oKtBL]) (by
   unfold execOp;simp only [oKtBL,hx1,hx2,hx3,Sem.run_bind,hst,Result.andThen_ok]
   rfl) ?_
  show Q .normal a' _;rw [hput];exact hQ w' W3 hR.undraw hp3
end Go.Proofs.YtfjmdkhemnmkpaaGreatDoor
namespace Go.Proofs.YtfjmdkhemnmkpaaGreatDoor
open Go.Maps Go.RowKit
theorem Only.cellW {F:Nat->Prop} {w w':World} (h:Only F w w') {p:Addr} {v:Value} (hp:w.cell? p=some v) (hl:p.block<w.heap.size) (hn:¬F p.block):w'.cell? p=some v:=
 (World.cell?_of_block (h.block p.block hl hn)).trans hp
structure PmQ (W:World) (R g bk bc:Nat) (l:List CM) (m:CM) (x:Nat) (ks:List ByteArray) (j:Nat):Prop where
 cell:W.heap[R]?=some (.cells #[loneV g,.map (some bk),.map (some bc),.int .i64 (leastW (wavesM l):Int),.int .i64 (countW (wavesM l):Int)] 190 (0,0))
 lim:W.heap[g]?=some (.cells #[.int .i64 4] 3 (0,0))
 keys:∃n,n<=10000*l.length+j/\TwS W bk n (keyS (wavesM l) x (ks.take j))
 cls:∃n,n<=l.length+1/\TwU W bc n (clT (wavesM l++[(m,x)]))
 ne:bk≠bc
section
variable {W W':World} {R g bk bc:Nat} {l:List CM} {m:CM} {x:Nat} {ks:List ByteArray} {j:Nat}
theorem PmQ.at (h:PmQ W R g bk bc l m x ks j):W.cell? ⟨R,1,none⟩=some (.map (some bk))/\W.cell? ⟨R,4,none⟩=some (.int .i64 (countW (wavesM l):Int))/\W.frozen? ⟨R,4,none⟩=false:=
 ⟨blk_cell h.cell 1,blk_cell h.cell 4,blk_frozen h.cell 4⟩
theorem PmQ.of (h:PsQ W R g bk bc l) (hlo:loneM m=false) (hx:x=nextW (wavesM l) m) {nc:Nat} (hnc:nc<=l.length) (hT:TwU W' bc (nc+1) (fun j=>if j=m.cl then x+1 else clT (wavesM l) j)) (hg:W.grownBy W' (some bc)):PmQ W' R g bk bc l m x ks 0:=by
 obtain ⟨n1,a1,h1⟩:=h.keys;obtain ⟨l1,l2,l3,l4⟩:=h.lt;obtain ⟨p1,p2,p3,p4,p5⟩:=h.apart;have hb:∀k,k<W.heap.size->k≠bc->W'.heap[k]?=W.heap[k]?:=fun k hk hne=>hg.block k hk (fun e=>hne (osI e))
 refine ⟨(hb R l1 p2).trans h.cell,(hb g l2 p4).trans h.lim,⟨n1,by omega,(h1.keep (hb bk l3 h.ne)).congr (fun k _=>by simp [keyS,inK])⟩,⟨nc+1,by omega,hT.congr (fun c _=>?_)⟩,h.ne⟩;subst hx;rw [clT_many hlo]
theorem PmQ.next (h:PmQ W R g bk bc l m x ks j) (hj:j<ks.length) {n:Nat} (hn:n<=10000*l.length+j) (hT:TwS W' bk (n+1) (fun k=>if k=ks[j] then x+1 else keyS (wavesM l) x (ks.take j) k)) (hg:W.grownBy W' (some bk)):PmQ W' R g bk bc l m x ks (j+1):=by
 obtain ⟨n2,a2,h2⟩:=h.cls;obtain ⟨n1,a1,h1⟩:=h.keys;have hb:∀k,k<W.heap.size->k≠bk->W'.heap[k]?=W.heap[k]?:=fun k hk hne=>hg.block k hk (fun e=>hne (osI e))
 refine ⟨(hb R (geS.1 h.cell).1 (h1.ne_cells h.cell)).trans h.cell,(hb g (geS.1 h.lim).1 (h1.ne_cells h.lim)).trans h.lim,⟨n+1,by omega,hT.congr (fun k _=>?_)⟩,⟨n2,a2,h2.keep (hb bc h2.lt (Ne.symm h.ne))⟩,h.ne⟩;rw [keyS_succ _ _ hj]
theorem PmQ.done (h:PmQ W R g bk bc l m x ks ks.length) (hlo:loneM m=false) (hx:x=nextW (wavesM l) m) (hks:touchK m.ks=ks) (hl:ks.length<=10000):PsQ (W.setCell ⟨R,4,none⟩ (.int .i64 ((max (countW (wavesM l)) (x+1):Nat):Int))) R g bk bc (l++[m]):=by
 obtain ⟨n1,a1,h1⟩:=h.keys;obtain ⟨n2,a2,h2⟩:=h.cls
 have hgR:g≠R:=fun e=>by
  have h3:=h.cell;rw [<-e,h.lim] at h3;exact absurd (congrArg Array.size (Obj.cells.inj (osI h3)).1) (by simp)
 have hb:∀k,k≠R->(W.setCell ⟨R,4,none⟩ (.int .i64 ((max (countW (wavesM l)) (x+1):Nat):Int))).heap[k]?=W.heap[k]?:=fun k hk=>Below.heap_setCell _ _ _ _ hk
 refine ⟨?_,(hb g hgR).trans h.lim,⟨n1,by simp;omega,(h1.keep (hb bk (Ne.symm (h1.ne_cells h.cell)))).congr (fun k _=>?_)⟩,⟨n2,by simp;omega,(h2.keep (hb bc (Ne.symm (h2.ne_cells h.cell)))).congr (fun c _=>?_)⟩,h.ne⟩
 ·rw [blk_set h.cell 4,wavesM_snoc,<-hx,least_many hlo,count_any];simp
 ·rw [wavesM_snoc,hx,keyT_many hlo,hks,List.take_length,<-hx]
  rfl
 ·rw [wavesM_snoc,hx]
end
theorem addP_any {w:World} {R g bk bc:Nat} {l:List CM} (h:PsQ w R g bk bc l) (hl:l.length<=1000) (v:CmdV) (hv:v.ok w) (hn:v.ks.length<=10000):
 Calls Tryz.prog 99 #[.pointer (some ⟨R,0,none⟩),v.val] w fun e W'=>e=.returned (.int .i64 (nextW (wavesM l) v.m:Int))/\PsQ W' R g bk bc (l++[v.m])/\Only (fun x=>x=R\/x=bk\/x=bc) w W':=by
 have HT:Hid (∀W,Below w.heap.size w W->Calls Tryz.prog 119 #[v.val] W fun e W'=>∃x,e=.returned x/\TxtS W' x (touchK v.ks)/\Below W.heap.size W W'):=hiD (fun W hb=>touches_any v W (hv.below hb) hn);have hle:(touchK v.ks).length<=10000:=nLt (touchK_le _) hn;have heach:∀k∈touchK v.ks,k.size<=maxLen:=fun k hk=>hv.each k ((touchK_mem _ _).1 hk)
 have hcl:=hv.cl;obtain ⟨m,hm⟩:∃m,m=v.m:=⟨_,rfl⟩;have hmcl:m.cl=v.cl:=by rw [hm];rfl
 have hlo:loneM m=decide (4<(touchK v.ks).length):=by rw [hm];rfl
 have hks:touchK m.ks=touchK v.ks:=by rw [hm];rfl
 rw [<-hm];obtain ⟨ks,hkk⟩:∃ks,ks=touchK v.ks:=⟨_,rfl⟩;rw [<-hkk] at HT hle heach hlo hks;have HM:=hiD (aI hmcl (aI hlo hks));have HE:=hiD (aI hle heach);have HPS:=hiD h;have HL:=hiD hl;clear h hl hv hn hle heach hm hmcl hlo hks hkk;obtain ⟨cl,sq,kd,KA,L,c,ks0,old,new,n⟩:=v;simp only [CmdV.val,CmdV.cells] at HT HM hcl ⊢;go_enter Tryz.func99,Tryz.ntmps99;go_upto_region 1 with (fail)
 obtain ⟨W0,hW0⟩:∃W0,W0=w.alloc (Obj.cells #[.int .u32 (cl:Int),.int .u32 (sq:Int),.int .u8 (kd:Int),.slice KA L c,.string old,.string new,.int .i64 n] 57):=⟨_,rfl⟩;rw [<-hW0];obtain ⟨hB0,k0⟩:=boxedW hW0;obtain ⟨p,hp⟩:∃p,p=w.heap.size:=⟨_,rfl⟩;rw [<-hp] at k0 ⊢;have HC0:=hiD (show BoxC p ⟨cl,sq,kd,KA,L,c,ks0,old,new,n⟩ W0 from ⟨k0⟩);have HB0:=hiD hB0;have HPW:=hiD hp;clear hW0 hB0 k0 hp;obtain ⟨x0,x1,x2,x3,x4,x5,x6⟩:=HC0.out.at;have HT0:=hiD (HT.out W0 HB0.out)
 go_wp2_with fail
 refine HT0.out.mono ?_;rintro e W1 ⟨x,rfl,⟨⟨A,N,c3,rfl,hN,hc3,has⟩⟩,hb1⟩;have HB1:=hiD (HB0.out.trans (Below.mono hb1 HB0.out.size));have HP1:=hiD (HPS.out.below HB1.out);have HC1:=hiD (HC0.out.below hb1);have HA1:=hiD (aI hN has);clear hN hc3 has hb1 x0 x1 x2 x3 x4 x5 x6 HT HT0;obtain ⟨q0,q1,q2,q3,q4⟩:=HP1.out.at;have HF:=hiD (more1_any g A N c3 (by have:=HA1.out.1;have:=HE.out.1;omega) W1 (by simpa using blk_cell HP1.out.lim 0));unfold loneV at q0
 go_wp2_with fail
 refine HF.out.mono ?_;rintro e W2 ⟨rfl,rfl⟩;obtain ⟨b,hb⟩:∃b,b=loneM m:=⟨_,rfl⟩;rw [show decide (4<N)=b by rw [hb,HM.out.2.1,HA1.out.1]];have HBB:=hiD hb;clear hb
 cases b with
 |true=>
  have HAL:=hiD (addLone_any HP1.out HL.out HBB.out.symm);clear q0 q1 q2 q3 q4
  go_wp2_with fail
  refine HAL.out.mono ?_;rintro e W3 ⟨rfl,h3,h4⟩;have HZ:=hiD (aI h3 h4);clear h3 h4;go_wp2;go_ret;exact ⟨rfl,HZ.out.1,(Only.of_grew HB1.out).trans HZ.out.2 (fun x e=>.inl (.inl e))⟩
 |false=>
  obtain ⟨nk,hnk,hTS⟩:=HP1.out.keys;obtain ⟨nc,hnc,hTU⟩:=HP1.out.cls;have HBU:=hiD (behindU_any (hTU.keep (w':=W2.drew) rfl) cl hcl (nLt (clT_le l cl) (by have:=HL.out;omega)));obtain ⟨s1,hs1⟩:∃s,s=leastW (wavesM l):=⟨_,rfl⟩;obtain ⟨s2,hs2⟩:∃s,s=clT (wavesM l) cl:=⟨_,rfl⟩;rw [<-hs1] at q3;rw [<-hs2] at HBU;have hs1l:s1<=l.length:=by rw [hs1];exact leastW_le l
  have hs2l:s2<=l.length:=by rw [hs2];exact clT_le l cl
  have HS:=hiD (aI (aI hs1 hs2) (aI hs1l hs2l));have HTS:=hiD (aI hnk hTS);have HTU:=hiD (aI hnc hTU);clear hnk hTS hnc hTU hs1 hs2 hs1l hs2l;obtain ⟨x0,x1,x2,x3,x4,x5,x6⟩:=HC1.out.at;clear x1 x2 x3 x4 x5 x6;go_upto_region 4 with (fail)
  have hlt:=HP1.out.lt;refine ktwave R p bc cl s1 s2 _ W2 _ rfl rfl rfl hlt.1 HC1.out.lt q3 q2 x0 (fun w' hg=>?_) ?_
  ·have HT':=HTU.out.2.keep (hg.block bc hlt.2.2.2);have:=behindU_any HT' cl hcl (nLt (clT_le l cl) (by have:=HL.out;omega))
   rwa [<-HS.out.1.2] at this
  intro w4 hg4;have HB4:=hiD (HB1.out.trans (Below.mono hg4 HB1.out.size));have HP4:=hiD (HP1.out.below hg4);have HC4:=hiD (HC1.out.below hg4);have HA4:=hiD (HA1.out.2.below hg4)
  have HT4:Hid (∀k,k.size<=maxLen->Calls Tryz.prog 122 #[.map (some bk),.string k] w4 fun e W'=>e=.returned (.int .i64 (keyT (wavesM l) k:Int))/\W'=w4):=hiD (fun k hk=>by
   obtain ⟨n1,_,h1⟩:=HP4.out.keys;exact behindS_any h1 k hk (nLt (keyT_le l k) (by have:=HL.out;omega)))
  clear hg4 q0 q1 q2 q3 q4 x0 hlt;obtain ⟨q0,q1,q2,q3,q4⟩:=HP4.out.at;clear q0 q2 q3 q4;simp only [puts,List.foldl_cons,List.foldl_nil,Act.put,List.setIfInBounds_toArray,List.set_cons_succ,List.set_cons_zero];have hNi:(N:Int)<=10000:=by have:=HA1.out.1;have:=HE.out.1;omega
  go_wp2
  go_loopw [6,35] (fun v6 i wr=>wr=w4/\∃j:Nat,j<=N/\i=.int .i64 (j:Int)/\v6=.int .i64 (foldW (wavesM l) (max s1 s2) (ks.take j):Int)) (fun _ i _=>N - (intOf i).toNat)
  case atStart=>exact ⟨rfl,0,Nat.zero_le _,rfl,rfl⟩
  case round=>
   obtain ⟨rfl,j,hj,rfl,rfl⟩:=hrel
   by_cases hlt:j<N
   ·have hji:(j:Int)<N:=by omega
    have hj1:j<ks.length:=by have:=HA1.out.1;omega
    obtain ⟨kb,ko,e1,l1,f1⟩:=HA4.out (by rintro rfl;simp at hj1);subst e1;have g1:=f1 j hj1;have hfs:=foldW_succ (wavesM l) (max s1 s2) hj1;have htm:=HE.out.2 ks[j] (List.getElem_mem hj1);obtain ⟨t,ht⟩:∃t,t=ks[j]:=⟨_,rfl⟩;rw [<-ht] at g1 hfs htm;obtain ⟨f,hf⟩:∃f,f=foldW (wavesM l) (max s1 s2) (ks.take j):=⟨_,rfl⟩;rw [<-hf] at hfs ⊢;have HTC:=hiD (HT4.out t htm);obtain ⟨k,hk⟩:∃k,k=keyT (wavesM l) t:=⟨_,rfl⟩;rw [<-hk] at HTC hfs;have HFS:=hiD hfs;have hmx:∀(ts:Array TypeId) (ty:TypeId) (w:World),(Builtin.max_ ts ty #[.int .i64 (f:Int),.int .i64 (k:Int)]).run Tryz.prog w=.ok (.int .i64 ((max f k:Nat):Int)) w:=fun ts ty w=>run_maxN ts ty w f k
    clear f1 l1 ht htm hf hk hfs
    go_wp2_with fail
    refine HTC.out.mono ?_;rintro e V ⟨rfl,rfl⟩;go_wp2;exact ⟨⟨trivial,j+1,by omega,by congr 1,by rw [HFS.out]⟩,by simp only [intOf];omega⟩
   ·have hji:¬(j:Int)<N:=by omega
    obtain rfl:N=j:=by omega
    rw [List.take_of_length_le (by have:=HA1.out.1;omega)]
    have hxx:foldW (wavesM l) (max s1 s2) ks=nextW (wavesM l) m:=by
     rw [nextW_many _ HBB.out.symm,HM.out.1,HM.out.2.2,HS.out.1.1,HS.out.1.2]
     rfl
    obtain ⟨x,hx⟩:∃x,x=foldW (wavesM l) (max s1 s2) ks:=⟨_,rfl⟩;rw [<-hx] at hxx ⊢;have hxl:x<=1000:=by rw [hxx];exact nLt (nextW_max l m) HL.out
    have HX:=hiD (aI hxx hxl);clear hx hxx hxl hlt;go_upto_region 10 with (fail)
    obtain ⟨nc2,hnc2,hTU2⟩:=HP4.out.cls;obtain ⟨y0,_,_,_,_,_,_⟩:=HC4.out.at;have hlt4:=HP4.out.lt;have hq2:=HP4.out.at.2.2.1;refine ktclient R p bc cl x (fun W W3=>TwU W3 bc (nc2+1) (fun j=>if j=cl then x+1 else clT (wavesM l) j)/\W.grownBy W3 (some bc)) _ wr _ rfl rfl rfl rfl hlt4.1 HC4.out.lt hq2 y0 (fun w' hg=>?_) ?_
    ·obtain ⟨W3,h1,h2,h3⟩:=putTU (hTU2.keep (hg.block bc hlt4.2.2.2)) (by have:=HL.out;simp only [maxLen];omega) hcl (x:=x) (by have:=HX.out.2;omega);exact ⟨W3,h1,h2,h3⟩
    intro w5 w6 hg5 hP6;have hps5:=HP4.out.below hg5;have HPM:Hid (PmQ w6 R g bk bc l m x ks 0):=hiD (PmQ.of hps5 HBB.out.symm HX.out.1 hnc2 (by rw [HM.out.1];exact hP6.1) hP6.2);have ho6:Only (fun x=>x=bc) wr w6:=(Only.of_grew hg5).trans (Only.of_grown (F:=fun x=>x=bc) hP6.2 (fun k e=>(osI e).symm)) (fun x e=>.inl e)
    have HA6:Hid (HasS w6 A ks):=hiD (fun hne=>by
     obtain ⟨b,o,e,h1,h2⟩:=HA4.out hne;refine ⟨b,o,e,nLl h1 ho6.size,fun i hi=>?_⟩;have:=h2 i hi;exact ho6.cellW this h1 (hTU2.ne_cell this))
    have HO6:Hid (Only (fun x=>x=R\/x=bk\/x=bc) w w6):=hiD ((Only.of_grew HB4.out).trans ho6 (fun x e=>.inl (.inr (.inr e))));clear hg5 hP6 hps5 ho6 hTU2 hnc2 y0 hlt4 hq2 q1;simp only [puts,List.foldl_cons,List.foldl_nil,Act.put,List.setIfInBounds_toArray,List.set_cons_succ,List.set_cons_zero];have hxi:(x:Int)<=1000:=by have:=HX.out.2;omega
    go_wp2
    go_loopw [57] (fun i wr=>∃j:Nat,j<=N/\i=.int .i64 (j:Int)/\Hid (PmQ wr R g bk bc l m x ks j/\Only (fun x=>x=bk) w6 wr)) (fun i _=>N - (intOf i).toNat)
    case atStart=>exact ⟨0,Nat.zero_le _,rfl,hiD ⟨HPM.out,Only.refl _ _⟩⟩
    case round=>
     obtain ⟨j,hj,rfl,HR⟩:=hrel;obtain ⟨q1,q4,z4⟩:=HR.out.1.at
     by_cases hlt:j<N
     ·have hji:(j:Int)<N:=by omega
      have hj1:j<ks.length:=by have:=HA1.out.1;omega
      obtain ⟨nk2,hnk2,hTS2⟩:=HR.out.1.keys;obtain ⟨n0,_,hTS0⟩:=HPM.out.keys;obtain ⟨kb,ko,e1,l1,f1⟩:=HA6.out (by rintro rfl;simp at hj1);subst e1;have g0:=f1 j hj1;have g1:=HR.out.2.cellW g0 l1 (hTS0.ne_cell g0);have htm:=HE.out.2 ks[j] (List.getElem_mem hj1);obtain ⟨W7,hrun,h7,hg7⟩:=putTS hTS2 (by have:=HL.out;have:=HE.out.1;simp only [maxLen];omega) htm (x:=x) (by omega);have H7:Hid (PmQ W7 R g bk bc l m x ks (j+1)/\Only (fun x=>x=bk) w6 W7):=hiD ⟨HR.out.1.next hj1 hnk2 h7 hg7,HR.out.2.grown hg7 (fun k e=>.inl (osI e).symm)⟩;obtain ⟨t,ht⟩:∃t,t=ks[j]:=⟨_,rfl⟩;rw [<-ht] at g1 hrun;clear f1 l1 g0 htm h7 hg7 hTS2 hnk2 hTS0 ht q4 z4;go_wp2;exact ⟨⟨j+1,by omega,by congr 1,H7⟩,by simp only [intOf];omega⟩
     ·have hji:¬(j:Int)<N:=by omega
      obtain rfl:N=j:=by omega
      have hfin:=HR.out.1;rw [show N=ks.length from HA1.out.1] at hfin;have hd:=hfin.done HBB.out.symm HX.out.1 HM.out.2.2 HE.out.1;obtain ⟨C,hC⟩:∃C,C=countW (wavesM l):=⟨_,rfl⟩;have hCl:C<=1000:=by rw [hC];exact nLt (countW_le l) HL.out
      rw [<-hC] at hd q4;have hmx:∀(ts:Array TypeId) (ty:TypeId) (w:World),(Builtin.max_ ts ty #[.int .i64 (C:Int),.int .i64 ((x:Int)+1)]).run Tryz.prog w=.ok (.int .i64 ((max C (x+1):Nat):Int)) w:=fun ts ty w=>run_maxN ts ty w C (x+1)
      have HD:Hid (PsQ (wr.setCell ⟨R,4,none⟩ (.int .i64 ((max C (x+1):Nat):Int))) R g bk bc (l++[m])/\Only (fun x=>x=R\/x=bk\/x=bc) w (wr.setCell ⟨R,4,none⟩ (.int .i64 ((max C (x+1):Nat):Int)))):=hiD ⟨hd,Only.setCell (p:=⟨R,4,none⟩) (HO6.out.trans HR.out.2 (fun x e=>.inl (.inr (.inl e)))) (.inl (.inl rfl)) _⟩;obtain ⟨M,hM⟩:∃M,M=max C (x+1):=⟨_,rfl⟩;rw [<-hM] at hmx HD;clear hfin hd hC hCl hM hlt;go_wp2;go_ret;exact ⟨by rw [HX.out.1];rfl,HD.out⟩
theorem PsQ.grown {W W':World} {R g bk bc B:Nat} {l:List CM} {row:Option Nat} (h:PsQ W R g bk bc l) (hB:R<B/\g<B/\bk<B/\bc<B) (hg:W.grownBy W' row) (hr:∀k,row=some k->B<=k):PsQ W' R g bk bc l:=by
 obtain ⟨k1,k2,k3,k4⟩:=h.lt;obtain ⟨n1,a1,h1⟩:=h.keys;obtain ⟨n2,a2,h2⟩:=h.cls;have hb:∀k,k<W.heap.size->k<B->W'.heap[k]?=W.heap[k]?:=fun k hk hkB=>hg.block k hk (fun e=>by have:=hr k e.symm;omega)
 exact ⟨(hb R k1 hB.1).trans h.cell,(hb g k2 hB.2.1).trans h.lim,⟨n1,a1,h1.keep (hb bk k3 hB.2.2.1)⟩,⟨n2,a2,h2.keep (hb bc k4 hB.2.2.2)⟩,h.ne⟩
theorem waves_anyK (A:Option Addr) (L c:Nat) (l:List CmdV) (w:World) (hl:L=l.length) (hL:L<=100) (hA:HasC w A l) (hng:∀v∈l,¬v.great):
 Calls Tryz.prog 77 #[.slice A L c] w fun e W'=>∃x,e=.returned x/\OwnI w.heap.size W' x (wavesI (l.map (·.m)))/\Below w.heap.size w W':=by
 obtain ⟨ms,hms⟩:∃ms,ms=l.map (·.m):=⟨_,rfl⟩;rw [<-hms];have hmsl:ms.length=L:=by rw [hms,List.length_map];exact hl.symm
 have HM:=hiD (aI hms (aI hmsl hl));have HA:=hiD hA;have NG:=hiD hng;have hLi:(L:Int)<=100:=by omega
 have HNO:=hiD (nothing_any w);clear hms hmsl hl hA hng;go_enter Tryz.func77,Tryz.ntmps77
 go_wp2_with fail
 refine HNO.out.mono ?_;rintro e W1 ⟨R,g,bk,bc,rfl,hps,hlo,hb1⟩;obtain ⟨B,hB⟩:∃B,B=W1.heap.size:=⟨_,rfl⟩;have HB:=hiD (show (R<B/\g<B/\bk<B/\bc<B)/\w.heap.size<=B/\(w.heap.size<=R/\w.heap.size<=bk/\w.heap.size<=bc) from ⟨by rw [hB];exact hps.lt,by rw [hB];exact hb1.size,hlo⟩);have H1:Hid (PsQ W1 R g bk bc (ms.take 0)/\OwnI B W1 (.slice none 0 0) (wavesI (ms.take 0))/\Below w.heap.size w W1/\B<=W1.heap.size):=hiD ⟨by simpa using hps,by simpa [wavesI,wavesM] using OwnI.nil _ _,hb1,by omega⟩;clear hps hlo hb1 hB;go_wp2
 go_loopw [3,10] (fun s3 i wr=>∃(n:Nat) (A3:Option Addr) (c3:Nat),n<=L/\i=.int .i64 (n:Int)/\s3=.slice A3 n c3/\Hid (PsQ wr R g bk bc (ms.take n)/\OwnI B wr (.slice A3 n c3) (wavesI (ms.take n))/\Below w.heap.size w wr/\B<=wr.heap.size)) (fun _ i _=>L - (intOf i).toNat)
 case atStart=>exact ⟨0,none,0,Nat.zero_le _,rfl,rfl,H1⟩
 case round=>
  obtain ⟨n,A3,c3,hn,rfl,rfl,HO⟩:=hrel
  by_cases hlt:n<L
  ·have hni:(n:Int)<L:=by omega
   have hn1:n<l.length:=by have:=HM.out.2.2;omega
   have hnm:n<ms.length:=by have:=HM.out.2.1;omega
   obtain ⟨b,o,e1,hb0,fC⟩:=HA.out (by rintro rfl;simp at hn1);subst e1;have g1:=fC n hn1;obtain ⟨y,hy⟩:∃y,y=l[n]:=⟨_,rfl⟩;rw [<-hy] at g1;have hym:ms[n]=y.m:=by simp only [HM.out.1,List.getElem_map,hy]
   have hny:¬y.great:=by rw [hy];exact NG.out _ (List.getElem_mem hn1)
   have hyk:y.ks.length<=10000:=by
    have:¬100<y.ks.length:=fun h=>hny (.inr (.inr (.inl h)))
    omega
   have hls:(ms.take n).length<=1000:=by simp;omega
   have htk:=wavesI_take hnm;have hwl:=waveI_le (l:=ms) n hnm;have hnx:nextW (wavesM (ms.take n)) y.m=waveI ms n:=by rw [waveI_at hnm,hym]
   have hts:ms.take n++[y.m]=ms.take (n+1):=by rw [List.take_succ_eq_append_getElem hnm,hym]
   obtain ⟨wk,hwk⟩:∃x,x=waveI ms n:=⟨_,rfl⟩;rw [<-hwk] at htk hwl hnx
   have HADD:Hid (∀W,Below wr.heap.size wr W->Calls Tryz.prog 99 #[.pointer (some ⟨R,0,none⟩),y.val] W fun e W'=>e=.returned (.int .i64 (wk:Int))/\PsQ W' R g bk bc (ms.take (n+1))/\Only (fun x=>x=R\/x=bk\/x=bc) W W'):=hiD (fun W hb=>by
    have:=addP_any (HO.out.1.below hb) hls y ((g1.2.below HO.out.2.2.1).below hb) hyk;rw [hnx,hts] at this;exact this)
   have HT:=hiD (aI htk (aI hwl (show (wavesI (ms.take n)).length=n by rw [wavesI_len];simp;omega)));have hcl:Below w.heap.size w wr:=HO.out.2.2.1;clear hy hym hny hyk hls htk hwl hnx hts hwk;obtain ⟨acl,asq,akd,KA,KL,kc,ks,old,new,nn⟩:=y;simp only [CmdV.val,CmdV.cells] at HADD;have cA:∀i u,(#[.int .u32 (acl:Int),.int .u32 (asq:Int),.int .u8 (akd:Int),.slice KA KL kc,.string old,.string new,.int .i64 nn]:Array Value)[i]?=some u->wr.cell? ⟨b,o+n*7+i,none⟩=some u:=fun i u hu=>(hcl.cell (p:=⟨b,o+n*7+i,none⟩) hb0).trans (g1.1 i u hu)
   have a0:=cA 0 _ rfl;have a1:=cA 1 _ rfl;have a2:=cA 2 _ rfl;have a3:=cA 3 _ rfl;have a4:=cA 4 _ rfl;have a5:=cA 5 _ rfl;have a6:=cA 6 _ rfl;simp only [Nat.add_zero] at a0;clear cA g1 fC hcl hb0 hn1 hnm;go_upto_region 6 with (fail)
   obtain ⟨W2,hW2⟩:∃W2,W2=wr.alloc (Obj.cells #[.int .u32 (acl:Int),.int .u32 (asq:Int),.int .u8 (akd:Int),.slice KA KL kc,.string old,.string new,.int .i64 nn] 57):=⟨_,rfl⟩;rw [<-hW2];obtain ⟨hB2,k1⟩:=boxedW hW2;obtain ⟨p,hp⟩:∃p,p=wr.heap.size:=⟨_,rfl⟩;rw [<-hp] at k1 ⊢;obtain ⟨x0,x1,x2,x3,x4,x5,x6⟩:=(show BoxC p ⟨acl,asq,akd,KA,KL,kc,ks,old,new,nn⟩ W2 from ⟨k1⟩).at;have B2:=hiD hB2;have HC:=hiD (HADD.out W2 hB2);clear hW2 hp hB2 k1 a0 a1 a2 a3 a4 a5 a6
   go_wp2_with fail
   refine HC.out.mono ?_;rintro e W3 ⟨rfl,hps3,hon3⟩;have hown2:OwnI B W2 (.slice A3 n c3) (wavesI (ms.take n)):=HO.out.2.1.below B2.out
   have hown3:OwnI B W3 (.slice A3 n c3) (wavesI (ms.take n)):=hon3.own hown2 (fun k hk hF=>by
    have h1:=hown2.ge k hk;have h2:=HB.out.1
    rcases hF with e|e|e<;>omega)
   have hbl3:Below w.heap.size w W3:=(HO.out.2.2.1.trans (Below.mono B2.out HO.out.2.2.1.size)).trans (hon3.below (nLt HO.out.2.2.1.size B2.out.size) (fun x hx=>by
    have h2:=HB.out.2.2
    rcases hx with e|e|e<;>omega))
   have hbs3:B<=W3.heap.size:=nLt HO.out.2.2.2 (nLt B2.out.size hon3.size);have H3:=hiD (aI hps3 (aI hown3 (aI hbl3 hbs3)));clear hps3 hon3 hown2 hown3 hbl3 hbs3 x0 x1 x2 x3 x4 x5 x6
   go_wp2_with (at_builtin;refine wpList_append_I rfl (.tmp 14) (.tmp 18) rfl B (.slice A3 n c3) (wavesI (ms.take n)) rfl (H3.out.2.1.below ((Below.refl _ W3).alloc (nLr _) _)) W3.heap.size 1 wk rfl (by have:=cell_one_new W3 (.int .i64 (wk:Int)) 3 0 _ rfl;exact this) (by have:=HT.out.2.2;omega) (by have:=H3.out.2.2.2;simp;omega) ?_;intro v4 W4 ho4 hg4;rw [<-HT.out.1] at ho4;obtain ⟨A4,c4,rfl,_⟩:=ho4.form;have hl4:(wavesI (ms.take (n+1))).length=n+1:=(by rw [HT.out.1,List.length_append,HT.out.2.2];rfl);rw [hl4] at ho4 ⊢;have H4:=hiD (aI ho4 hg4);clear ho4 hg4 hl4)
   have hge:=H3.out.2.1.ge;refine ⟨⟨n+1,A4,c4,by omega,by congr 1,rfl,hiD ⟨(H3.out.1.below ((Below.refl _ W3).alloc (nLr _) _)).grown HB.out.1 H4.out.2 hge,H4.out.1,(H3.out.2.2.1.alloc H3.out.2.2.1.size _).grown H4.out.2 (nLt H3.out.2.2.1.size (by simp)) (fun k hk=>nLt HB.out.2.1 (hge k hk)),?_⟩⟩,by simp only [intOf];omega⟩;have h5:=H4.out.2.size;have h6:=H3.out.2.2.2;simp at h5;omega
  ·have hni:¬(n:Int)<L:=by omega
   obtain rfl:n=L:=by omega
   have ho:=HO.out.2.1;rw [List.take_of_length_le (by have:=HM.out.2.1;omega)] at ho;have HOO:=hiD (ho.mono HB.out.2.1);clear ho;go_wp2;go_ret;exact ⟨_,rfl,HOO.out,HO.out.2.2.1⟩
end Go.Proofs.YtfjmdkhemnmkpaaGreatDoor
