/- Parts of the proof: MKqD, SsMath, SsR, SsSet, SqA, SqB. -/
import Derived.Test.YtfjmdkhemnmkpaaGreatDoorR07
import Derived.Carry
import Derived.Test.YtfjmdkhemnmkpaaGreatDoorR02
import Derived.Maps.OwnSet
import Derived.Deep.QuietTactic
import Derived.BigQuiet
import Derived.Handy
import Derived.Deep.DeepCutAuto
import Derived.Laws.StructEq
set_option maxRecDepth 100000
set_option maxHeartbeats 8000000
namespace Go.Proofs.YtfjmdkhemnmkpaaGreatDoor
open Go.Maps Go.RowKit Go.Shelf Go.WideMaps
def effL:List (Nat × FuncId):=[(1,88),(2,89),(3,90),(4,91),(5,92),(6,93),(7,94),(8,95)]
def funcR (v:Value):Option (DataW FuncId × List MemPlace):=match v with
 |.func (.func f) cs bs=>if cs.size=0/\bs.size=0 then some (.held f,[]) else some (.nil,[])
 |_=>some (.nil,[])
theorem funcR_inv {v:Value} {f:FuncId} {ps:List MemPlace} (h:funcR v=some (.held f,ps)):v=.func (.func f) #[] #[]:=by
 unfold funcR at h
 split at h
 ·split at h
  ·rename_i f' cs bs hc
   cases h
   rw [Array.eq_empty_of_size_eq_zero hc.1,Array.eq_empty_of_size_eq_zero hc.2]
  ·cases h
 ·cases h
theorem funcR_mk (f:FuncId):funcR (.func (.func f) #[] #[])=some (.held f,[]):=rfl
theorem funcR_some (v:Value):∃zd zp,funcR v=some (zd,zp):=by
 unfold funcR
 split
 ·split
  ·exact ⟨_,_,rfl⟩
  ·exact ⟨_,_,rfl⟩
 ·exact ⟨_,_,rfl⟩
theorem zeroF (w:World):∃z,(zeroValue 133).run Tryz.prog w=.ok z w:=by
 have h:((Tryz.prog.info? 133).bind (·.zero)).isSome=true:=by kernel_rfl
 cases hi:Tryz.prog.info? 133 with
 |none=>rw [hi] at h;cases h
 |some i=>
  cases hz:i.zero with
  |none=>rw [hi] at h;simp [hz] at h
  |some v=>exact ⟨v,by simp [zeroValue,typeInfo,hi,hz]⟩
theorem keyedU:Maps.Keyed Tryz.prog 5:=Maps.int_keyed Tryz.underlying5
def effD (l:List (Nat × FuncId)):DataW FuncId:=l.foldl (fun D p=>D.put (.int .u8 (p.1:Int)) (.held p.2)) (.map [])
theorem eff_at:∀p∈effL,∀z,(effD effL).atKey (.int .u8 (p.1:Int)) z=.held p.2:=by
 intro p hp z;simp only [effL,List.mem_cons,List.not_mem_nil,or_false] at hp
 rcases hp with rfl|rfl|rfl|rfl|rfl|rfl|rfl|rfl<;>rfl
def EffM (w:World) (b n:Nat) (l:List (Nat × FuncId)):Prop:=w.ownsMap Tryz.prog 5 funcR b n (effD l)
theorem EffM.put {w:World} {b n:Nat} {l:List (Nat × FuncId)} (h:EffM w b n l) (hn:n<maxLen) (k:Nat) (i:Int) (hi:i=(k:Int)) (hk:(Lit.int .u8 (k:Int)).wf=true) (f:FuncId):∃w',(Instr.mapUpdate 134 (.map (some b)) (.int .u8 i) (.func (.func f) #[] #[])).run Tryz.prog w=.ok () w'/\EffM w' b (n+1) (l++[(k,f)])/\w.grownBy w' (some b):=by
 obtain ⟨w',hrun,h1,h2⟩:=World.ownsMap.update h keyedU Tryz.underlying134 hn (keyOf_int_mk Tryz.underlying5 hk) (funcR_mk f);subst hi;refine ⟨w',hrun,?_,h2⟩;unfold EffM effD;rw [List.foldl_append];exact h1
theorem EffM.look {w:World} {b n:Nat} (h:EffM w b n effL) (p:Nat × FuncId) (hp:p∈effL) (hk:(Lit.int .u8 (p.1:Int)).wf=true):(Instr.lookup 134 (.map (some b)) (.int .u8 (p.1:Int)) false).run Tryz.prog w=.ok (.func (.func p.2) #[] #[]) w:=by
 obtain ⟨z,hz⟩:=zeroF w;obtain ⟨zd,zp,hzd⟩:=funcR_some z;obtain ⟨v,ps,hrun,hv⟩:=World.ownsMap.lookup h keyedU Tryz.underlying134 hz hzd (keyOf_int_mk Tryz.underlying5 hk);rw [eff_at p hp] at hv;rw [funcR_inv hv] at hrun;exact hrun
theorem eff_wf:∀p∈effL,(Lit.int .u8 (p.1:Int)).wf=true:=by
 intro p hp;simp only [effL,List.mem_cons,List.not_mem_nil,or_false] at hp
 rcases hp with rfl|rfl|rfl|rfl|rfl|rfl|rfl|rfl<;>rfl
structure EffQ (w W:World) (b:Nat):Prop where
 map:∃n,EffM W b n effL
 new:w.heap.size<=b
 below:Below w.heap.size w W
theorem effects_any (w:World):Calls Tryz.prog 65 #[] w fun e W'=>∃b,e=.returned (.map (some b))/\EffQ w W' b:=by
 have h0:EffM (w.alloc (.map #[] 0)) w.heap.size 0 []:=World.ownsMap_made w _ _ _;have b0:Below w.heap.size w (w.alloc (.map #[] 0)):=(Below.refl _ w).alloc (nLr _) _;have hmk:=run_makeMap (P:=Tryz.prog) 134 w;obtain ⟨W1,r1,h1,g1⟩:=h0.put (by decide) 1 1 rfl rfl 88;obtain ⟨W2,r2,h2,g2⟩:=h1.put (by decide) 2 2 rfl rfl 89;obtain ⟨W3,r3,h3,g3⟩:=h2.put (by decide) 3 3 rfl rfl 90;obtain ⟨W4,r4,h4,g4⟩:=h3.put (by decide) 4 4 rfl rfl 91;obtain ⟨W5,r5,h5,g5⟩:=h4.put (by decide) 5 5 rfl rfl 92;obtain ⟨W6,r6,h6,g6⟩:=h5.put (by decide) 6 6 rfl rfl 93;obtain ⟨W7,r7,h7,g7⟩:=h6.put (by decide) 7 7 rfl rfl 94;obtain ⟨W8,r8,h8,g8⟩:=h7.put (by decide) 8 8 rfl rfl 95;have gr:∀{A B:World},Below w.heap.size w A->A.grownBy B (some w.heap.size)->Below w.heap.size w B:=fun hb hg=>hb.grown hg hb.size (fun k e=>by cases e;exact nLr _)
 have b8:=gr (gr (gr (gr (gr (gr (gr (gr b0 g1) g2) g3) g4) g5) g6) g7) g8;have HF:Hid (EffQ w W8 w.heap.size):=hiD ⟨⟨_,h8⟩,nLr _,b8⟩;obtain ⟨N,hN⟩:∃N,N=w.heap.size:=⟨_,rfl⟩;rw [<-hN] at r1 r2 r3 r4 r5 r6 r7 r8 HF hmk;clear h0 h1 h2 h3 h4 h5 h6 h7 h8 g1 g2 g3 g4 g5 g6 g7 g8 gr b0 b8 hN;go_enter Tryz.func65,Tryz.ntmps65;go_wp2;go_ret;exact ⟨N,rfl,HF.out⟩
theorem eff_enters:∀p∈effL,Enters Tryz.prog p.2:=by
 intro p hp;simp only [effL,List.mem_cons,List.not_mem_nil,or_false] at hp
 rcases hp with rfl|rfl|rfl|rfl|rfl|rfl|rfl|rfl
 ·exact enters_of Tryz.func88 (by kernel_rfl) rfl
 ·exact enters_of Tryz.func89 (by kernel_rfl) rfl
 ·exact enters_of Tryz.func90 (by kernel_rfl) rfl
 ·exact enters_of Tryz.func91 (by kernel_rfl) rfl
 ·exact enters_of Tryz.func92 (by kernel_rfl) rfl
 ·exact enters_of Tryz.func93 (by kernel_rfl) rfl
 ·exact enters_of Tryz.func94 (by kernel_rfl) rfl
 ·exact enters_of Tryz.func95 (by kernel_rfl) rfl
theorem Chg.to {w0 w W:World} {R:Nat} {m:Option Nat} {l:List PV} (h:Chg w W R m l) (hb:Below w0.heap.size w0 w):Chg w0 W R m l:=Chg.trans (fun _b e=>.inl e) (Only.of_grew hb) h
theorem Do_may (R:Nat) (m:Option Nat) (l:List PV) (r:List PV × Nat × ByteArray) (a:CmdV) (w:World) (h:StQ w R m l) (hT:TabK w) (ha:a.ok w) (hm:a.m.may=true) (f:FuncId) (hf:(a.kd,f)∈effL)
 (hc:∀W,Below w.heap.size w W->Calls Tryz.prog f #[.pointer (some ⟨R,0,none⟩),a.val] W fun e W'=>e=.returned (ReplyV r.2)/\Chg W W' R m r.1):
 Calls Tryz.prog 43 #[.pointer (some ⟨R,0,none⟩),a.val] w fun e W'=>e=.returned (ReplyV r.2)/\Chg w W' R m r.1:=by
 have hC:∀W,Below w.heap.size w W->Calls Tryz.prog 64 #[a.val] W fun e W'=>e=.returned (.int .i64 0)/\Below W.heap.size W W':=fun W hb=>(Check_any a W (hT.keys.grew hb) (ha.below hb)).mono fun e W' ⟨he,hb'⟩=>⟨by rw [he,hm];rfl,hb'⟩
 have HC:=hiD hC;have HCC:=hiD hc;obtain ⟨acl,asq,akd,A,L,c,ks,old,new,n⟩:=a;simp only at hf;simp only [CmdV.val,CmdV.cells] at HC HCC ⊢;have HF:=hiD hf;have H:=hiD h;clear hC h hT ha hm hc hf;go_enter Tryz.func43,Tryz.ntmps43;go_upto_region 1 with (fail)
 obtain ⟨W0,hW0⟩:∃W0,W0=w.alloc (Obj.cells #[.int .u32 (acl:Int),.int .u32 (asq:Int),.int .u8 (akd:Int),.slice A L c,.string old,.string new,.int .i64 n] 57):=⟨_,rfl⟩;rw [<-hW0];obtain ⟨W1,hW1⟩:∃W1,W1=W0.alloc (Obj.cells #[.int .u8 0,.string ⟨#[]⟩] 45):=⟨_,rfl⟩;rw [<-hW1];have P:=prep H.out hW0 hW1;obtain ⟨p,hp⟩:∃p,p=w.heap.size:=⟨_,rfl⟩;rw [<-hp] at P ⊢;obtain ⟨q,hq⟩:∃q,q=p+1:=⟨_,rfl⟩;rw [<-hq] at P ⊢;have HP:=hiD P;have HQ:Hid (w.heap.size<=q/\w.heap.size<=p):=hiD (by have:=P.ps;omega);have HBT:=hiD H.out.blt;have z0:W1.cell? ⟨p,0,none⟩=some (.int .u32 (acl:Int)):=P.cell 0;have z1:W1.cell? ⟨p,1,none⟩=some (.int .u32 (asq:Int)):=P.cell 1;have z2:W1.cell? ⟨p,2,none⟩=some (.int .u8 (akd:Int)):=P.cell 2;have z3:W1.cell? ⟨p,3,none⟩=some (.slice A L c):=P.cell 3;have z4:W1.cell? ⟨p,4,none⟩=some (.string old):=P.cell 4;have z5:W1.cell? ⟨p,5,none⟩=some (.string new):=P.cell 5;have z6:W1.cell? ⟨p,6,none⟩=some (.int .i64 n):=P.cell 6;clear hW0 hW1 hp hq P
 go_wp2_with fail
 refine (HC.out W1 HP.out.below).mono ?_;rintro e W2 ⟨rfl,b2⟩;obtain ⟨_,p2,q2,w2⟩:=HP.out.grew b2;have H2:=hiD (aI w2 (aI p2 q2));have y2:W2.cell? ⟨p,2,none⟩=some (.int .u8 (akd:Int)):=by simpa using blk_cell p2 2
 clear b2 p2 q2 w2 z0 z1 z2 z3 z4 z5 z6;go_upto_region 3 with (fail)
 have HE:=hiD (effects_any W2.drew)
 go_region_with (refine HE.out.mono ?_;rintro e W3 ⟨eb,rfl,h3⟩;have H3:=hiD h3;have y2':=(h3.below.cell (p:=⟨p,2,none⟩) (show p<W2.drew.heap.size from (geS.1 H2.out.2.1).1)).trans y2;obtain ⟨en,hem⟩:=h3.map;have hlook:=hem.look _ HF.out (eff_wf _ HF.out);clear h3 hem)
 all_goals
  have w3:Below w.heap.size w W3:=H2.out.1.drew.trans (Below.mono H3.out.below H2.out.1.size);have p3:=(H3.out.below.block p (show p<W2.drew.heap.size from (geS.1 H2.out.2.1).1)).trans H2.out.2.1;have q3:=(H3.out.below.block q (show q<W2.drew.heap.size from (geS.1 H2.out.2.2).1)).trans H2.out.2.2;have p3':W3.heap[p]?=some (.cells #[.int .u32 (acl:Int),.int .u32 (asq:Int),.int .u8 (akd:Int),.slice A L c,.string old,.string new,.int .i64 n] 57 (0,0)):=p3;have z0:=blk_cell p3' 0;have z1:=blk_cell p3' 1;have z2:=blk_cell p3' 2;have z3:=blk_cell p3' 3;have z4:=blk_cell p3' 4;have z5:=blk_cell p3' 5;have z6:=blk_cell p3' 6;simp at z0 z1 z2 z3 z4 z5 z6;have HW:=hiD (aI w3 q3);have hen:(callFunc f #[.pointer (some ⟨R,0,none⟩),.agg #[.int .u32 (acl:Int),.int .u32 (asq:Int),.int .u8 (akd:Int),.slice A L c,.string old,.string new,.int .i64 n]]).run Tryz.prog W3=.ok (.enter f #[.pointer (some ⟨R,0,none⟩),.agg #[.int .u32 (acl:Int),.int .u32 (asq:Int),.int .u8 (akd:Int),.slice A L c,.string old,.string new,.int .i64 n]]) W3:=eff_enters _ HF.out _ _;clear w3 p3 q3 p3' y2 y2' hlook HE
  go_wp2_with fail
  refine (HCC.out W3 HW.out.1).mono ?_;rintro e W4 ⟨rfl,h4⟩;have c4:=h4.to HW.out.1
  have q4:W4.heap[q]?=some (.cells reply0 45 (0,0)):=(h4.only.block q (geS.1 HW.out.2).1 (fun e=>by
   have:=HQ.out;have:=H.out.lt
   rcases e with e|e
   ·omega
   ·have:=HBT.out q e;omega)).trans HW.out.2
  obtain ⟨rc,hrc⟩:∃x,x=r.2.1:=⟨_,rfl⟩;obtain ⟨rt,hrt⟩:∃x,x=r.2.2:=⟨_,rfl⟩;have HRR:=hiD (aI hrc hrt);simp only [ReplyV];rw [<-hrc,<-hrt];clear h4 z0 z1 z2 z3 z4 z5 z6 hen hrc hrt;have KQ:=hiD q4;have HCH:=hiD c4;have y0:W4.cell? ⟨q,0,none⟩=some (.int .u8 0):=by simpa [reply0] using blk_cell KQ.out 0
  have y1:W4.cell? ⟨q,1,none⟩=some (.string ⟨#[]⟩):=by simpa [reply0] using blk_cell KQ.out 1
  have u0:=blk_frozen KQ.out 0;have u1:=blk_frozen KQ.out 1;go_wp2;obtain ⟨W9,hW9⟩:∃W9,W9=(W4.setCell ⟨q,0,none⟩ (.int .u8 (rc:Int))).setCell ⟨q,1,none⟩ (.string rt):=⟨_,rfl⟩;rw [<-hW9];obtain ⟨c9,d0,d1⟩:=reply_end HCH.out KQ.out HQ.out.1 H.out.lt (rc:Int) rt hW9;exact bodyPost_ret (v:=.agg #[.int .u8 (rc:Int),.string rt]) (by simp [results,Tryz.results43,go_sem,d0,d1]) rfl ⟨by rw [HRR.out.1,HRR.out.2];rfl,c9⟩
theorem Do_bad (R:Nat) (m:Option Nat) (l:List PV) (a:CmdV) (w:World) (h:StQ w R m l) (hT:TabK w) (ha:a.ok w) (hm:a.m.may=false):
 Calls Tryz.prog 43 #[.pointer (some ⟨R,0,none⟩),a.val] w fun e W'=>e=.returned (ReplyV (2,⟨#[]⟩))/\Chg w W' R m l:=by
 have hC:∀W,Below w.heap.size w W->Calls Tryz.prog 64 #[a.val] W fun e W'=>e=.returned (.int .i64 1)/\Below W.heap.size W W':=fun W hb=>(Check_any a W (hT.keys.grew hb) (ha.below hb)).mono fun e W' ⟨he,hb'⟩=>⟨by rw [he,hm];rfl,hb'⟩
 have HC:=hiD hC;obtain ⟨acl,asq,akd,A,L,c,ks,old,new,n⟩:=a;simp only [CmdV.val,CmdV.cells] at HC ⊢;have H:=hiD h;clear hC h hT ha hm;go_enter Tryz.func43,Tryz.ntmps43;go_upto_region 1 with (fail)
 obtain ⟨W0,hW0⟩:∃W0,W0=w.alloc (Obj.cells #[.int .u32 (acl:Int),.int .u32 (asq:Int),.int .u8 (akd:Int),.slice A L c,.string old,.string new,.int .i64 n] 57):=⟨_,rfl⟩;rw [<-hW0];obtain ⟨W1,hW1⟩:∃W1,W1=W0.alloc (Obj.cells #[.int .u8 0,.string ⟨#[]⟩] 45):=⟨_,rfl⟩;rw [<-hW1];have P:=prep H.out hW0 hW1;obtain ⟨p,hp⟩:∃p,p=w.heap.size:=⟨_,rfl⟩;rw [<-hp] at P ⊢;obtain ⟨q,hq⟩:∃q,q=p+1:=⟨_,rfl⟩;rw [<-hq] at P ⊢;have HP:=hiD P;have HQ:Hid (w.heap.size<=q/\w.heap.size<=p):=hiD (by have:=P.ps;omega);have z0:W1.cell? ⟨p,0,none⟩=some (.int .u32 (acl:Int)):=P.cell 0;have z1:W1.cell? ⟨p,1,none⟩=some (.int .u32 (asq:Int)):=P.cell 1;have z2:W1.cell? ⟨p,2,none⟩=some (.int .u8 (akd:Int)):=P.cell 2;have z3:W1.cell? ⟨p,3,none⟩=some (.slice A L c):=P.cell 3;have z4:W1.cell? ⟨p,4,none⟩=some (.string old):=P.cell 4;have z5:W1.cell? ⟨p,5,none⟩=some (.string new):=P.cell 5;have z6:W1.cell? ⟨p,6,none⟩=some (.int .i64 n):=P.cell 6;clear hW0 hW1 hp hq P
 go_wp2_with fail
 refine (HC.out W1 HP.out.below).mono ?_;rintro e W2 ⟨rfl,b2⟩;obtain ⟨_,_,q2,w2⟩:=HP.out.grew b2;have c2:=Chg.same H.out w2;have KQ:=hiD q2;have HCH:=hiD c2;clear b2 q2 w2 z0 z1 z2 z3 z4 z5 z6;have y0:W2.cell? ⟨q,0,none⟩=some (.int .u8 0):=by simpa [reply0] using blk_cell KQ.out 0
 have y1:W2.cell? ⟨q,1,none⟩=some (.string ⟨#[]⟩):=by simpa [reply0] using blk_cell KQ.out 1
 have u0:=blk_frozen KQ.out 0;have u1:=blk_frozen KQ.out 1;go_wp2;obtain ⟨W9,hW9⟩:∃W9,W9=(W2.setCell ⟨q,0,none⟩ (.int .u8 2)).setCell ⟨q,1,none⟩ (.string ⟨#[]⟩):=⟨_,rfl⟩;rw [<-hW9];obtain ⟨c9,d0,d1⟩:=reply_end HCH.out KQ.out HQ.out.1 H.out.lt 2 ⟨#[]⟩ hW9;exact bodyPost_ret (v:=.agg #[.int .u8 2,.string ⟨#[]⟩]) (by simp [results,Tryz.results43,go_sem,d0,d1]) rfl ⟨rfl,c9⟩
end Go.Proofs.YtfjmdkhemnmkpaaGreatDoor
namespace Go.Proofs.YtfjmdkhemnmkpaaGreatDoor
open Go.Maps Go.RowKit Go.WideMaps
theorem ks_least {a:CmdV} (hm:a.m.may=true):leastK a.kd<=a.ks.length/\a.ks.length<=16:=by
 have h:=(CM.may_iff.1 hm).len;exact ⟨h.1,nLt h.2 (mostK_le _)⟩
theorem ks_one {a:CmdV} (hm:a.m.may=true):∃k ks,a.ks=k::ks/\keyP a.m.ks 0=k:=by
 have h:=ks_least hm
 have h1:1<=a.ks.length:=by
  have:1<=leastK a.kd:=by
   unfold leastK
   split<;>omega
  omega
 obtain ⟨k,ks,e⟩:∃k ks,a.ks=k::ks:=by
  cases hk:a.ks with
  |nil=>rw [hk] at h1;exact absurd h1 (by decide)
  |cons k ks=>exact ⟨k,ks,rfl⟩
 exact ⟨k,ks,e,by show keyP a.ks 0=k;rw [e];rfl⟩
theorem ks_two {a:CmdV} (hm:a.m.may=true) (h6:a.kd=6):∃k k2 ks,a.ks=k::k2::ks/\keyP a.m.ks 0=k/\keyP a.m.ks 1=k2:=by
 have h:=ks_least hm
 have h1:2<=a.ks.length:=by
  have:2<=leastK a.kd:=by rw [h6];decide
  omega
 obtain ⟨k,k2,ks,e⟩:∃k k2 ks,a.ks=k::k2::ks:=by
  match hk:a.ks with
  |[]=>rw [hk] at h1;exact absurd h1 (by decide)
  |[k]=>rw [hk] at h1;exact absurd h1 (by simp)
  |k::k2::ks=>exact ⟨k,k2,ks,rfl⟩
 exact ⟨k,k2,ks,e,by show keyP a.ks 0=k;rw [e];rfl,by show keyP a.ks 1=k2;rw [e];rfl⟩
theorem look_small {l:List PV} (hl:LimP l):∀x v,lookP l x=some v->v.size<=1000:=fun _x _v h=>(hl.each _ (lookP_mem h)).2
theorem without_none {l:List PV} (h:SortedP l) {k:ByteArray} (hk:lookP l k=none):withoutP l k=l:=by
 refine SortedP.ext (h.without k) h fun j=>?_
 rw [lookP_without]
 split
 ·rename_i e;rw [e,hk]
 ·rfl
theorem do_any (R:Nat) (m:Option Nat) (l:List PV) (a:CmdV) (w:World) (h:StQ w R m l) (hT:TabK w) (hs:SortedP l) (hl:LimP l) (ha:a.ok w):
 Calls Tryz.prog 43 #[.pointer (some ⟨R,0,none⟩),a.val] w fun e W'=>e=.returned (ReplyV (doP l a.m).2)/\Chg w W' R m (doP l a.m).1:=by
 cases hm:a.m.may with
 |false=>
  rw [show doP l a.m=(l,2,⟨#[]⟩) by unfold doP;rw [if_pos hm]];exact Do_bad R m l a w h hT ha hm
 |true=>
  have hls:=look_small hl;obtain ⟨k,ks,hk,hk0⟩:=ks_one hm;have h16:=(ks_least hm).2
  rcases may_kinds hm with e|e|e|e|e|e|e|e
  ·have ekd:a.kd=1:=e;rw [doP_put hm e hk0];exact Do_may R m l _ a w h hT ha hm 88 (by rw [ekd];simp [effL]) fun W hb=>doPut_any R m l a W (h.below hb) hl.len (ha.below hb) k ks hk
  ·have ekd:a.kd=2:=e;have hg:=fun W (hb:Below w.heap.size w W)=>doGet_any R m l a W (h.below hb) hl.len (ha.below hb) k ks hk
   cases hlo:lookP l k with
   |none=>
    rw [doP_get0 hm e hk0 hlo];rw [hlo] at hg;exact Do_may R m l _ a w h hT ha hm 89 (by rw [ekd];simp [effL]) fun W hb=>(hg W hb).mono fun _ _ ⟨he,hb'⟩=>⟨he,Chg.same (h.below hb) hb'⟩
   |some u=>
    rw [doP_get1 hm e hk0 hlo];rw [hlo] at hg;exact Do_may R m l _ a w h hT ha hm 89 (by rw [ekd];simp [effL]) fun W hb=>(hg W hb).mono fun _ _ ⟨he,hb'⟩=>⟨he,Chg.same (h.below hb) hb'⟩
  ·have ekd:a.kd=3:=e;have hg:=fun W (hb:Below w.heap.size w W)=>doDel_any R m l a W (h.below hb) hl.len (ha.below hb) k ks hk
   cases hlo:lookP l k with
   |none=>
    rw [doP_del0 hm e hk0 hlo];rw [hlo] at hg;refine Do_may R m l _ a w h hT ha hm 90 (by rw [ekd];simp [effL]) fun W hb=>(hg W hb).mono fun _ _ ⟨he,hc⟩=>⟨he,?_⟩
    rw [without_none hs hlo] at hc;exact hc
   |some u=>
    rw [doP_del1 hm e hk0 hlo];rw [hlo] at hg;exact Do_may R m l _ a w h hT ha hm 90 (by rw [ekd];simp [effL]) fun W hb=>hg W hb
  ·have ekd:a.kd=4:=e;rw [doP_add hm e hk0];exact Do_may R m l _ a w h hT ha hm 91 (by rw [ekd];simp [effL]) fun W hb=>doAdd_any R m l a W (h.below hb) hl.len (ha.below hb) k ks hk (hT.grew hb) hls
  ·have ekd:a.kd=5:=e;have hg:=fun W (hb:Below w.heap.size w W)=>doCas_any R m l a W (h.below hb) hl.len (ha.below hb) k ks hk
   cases hlo:lookP l k with
   |none=>
    rw [doP_cas0 hm e hk0 hlo];simp only [hlo] at hg;exact Do_may R m l _ a w h hT ha hm 92 (by rw [ekd];simp [effL]) fun W hb=>hg W hb
   |some u=>
    by_cases ho:u=a.old
    ·rw [doP_cas2 hm e hk0 hlo ho];simp only [hlo,if_pos ho] at hg;exact Do_may R m l _ a w h hT ha hm 92 (by rw [ekd];simp [effL]) fun W hb=>hg W hb
    ·rw [doP_cas1 hm e hk0 hlo ho];simp only [hlo,if_neg ho] at hg;exact Do_may R m l _ a w h hT ha hm 92 (by rw [ekd];simp [effL]) fun W hb=>hg W hb
  ·have ekd:a.kd=6:=e;obtain ⟨j,j2,js,hj,hj0,hj1⟩:=ks_two hm ekd;rw [doP_swap hm e hj0 hj1];exact Do_may R m l _ a w h hT ha hm 93 (by rw [ekd];simp [effL]) fun W hb=>doSwap_any R m l a W (h.below hb) hl.len (ha.below hb) j j2 js hj hs hls
  ·have ekd:a.kd=7:=e;rw [doP_join hm e];exact Do_may R m l _ a w h hT ha hm 94 (by rw [ekd];simp [effL]) fun W hb=>doJoin_any R m l a W (h.below hb) (ha.below hb) h16 hls
  ·have ekd:a.kd=8:=e;rw [doP_clear hm e];exact Do_may R m l _ a w h hT ha hm 95 (by rw [ekd];simp [effL]) fun W hb=>doClear_any R m l a W (h.below hb) hl.len (ha.below hb) h16 (hT.grew hb)
end Go.Proofs.YtfjmdkhemnmkpaaGreatDoor
namespace Go.Proofs.YtfjmdkhemnmkpaaGreatDoor
structure SE where
 cl:Nat
 sq:Nat
 cd:Nat
 tx:ByteArray
def lookS (l:List SE) (c:Nat):Option SE:=l.find? fun e=>decide (e.cl=c)
def tellS (l:List SE) (c s:Nat):(Nat × ByteArray) × Nat:=match lookS l c with
 |none=>((0,⟨#[]⟩),0)
 |some e=>if e.sq<s then ((0,⟨#[]⟩),0) else if e.sq=s then ((e.cd,e.tx),1) else ((3,⟨#[]⟩),2)
def keepS (l:List SE) (c s cd:Nat) (tx:ByteArray):List SE:=
 if c≠0/\(tellS l c s).2=0 then l.filter (fun e=>decide (e.cl<c))++⟨c,s,cd,tx⟩::l.filter (fun e=>decide (c<e.cl)) else l
def oneS (e:SE):List UInt8:=vb e.cl++vb e.sq++vb e.cd++txt e.tx
def bytesSS (l:List SE):List UInt8:=vb l.length++l.flatMap oneS
structure LimB (b:Nat) (l:List SE):Prop where
 len:l.length<=5000
 each:∀e∈l,e.cl<4294967296/\e.sq<4294967296/\e.cd<256/\e.tx.size<=b
theorem find_filter_lt {l:List SE} {j:Nat} (p:Nat->Bool) (hp:p j=true):(l.filter fun e=>p e.cl).find? (fun e=>decide (e.cl=j))=lookS l j:=by
 unfold lookS;rw [List.find?_filter]
 congr 1
 funext e
 by_cases h:e.cl=j
 ·simp [h,hp]
 ·simp [h]
theorem lookS_keep (l:List SE) (c s cd:Nat) (tx:ByteArray) (j:Nat):lookS (keepS l c s cd tx) j=if c≠0/\(tellS l c s).2=0/\j=c then some ⟨c,s,cd,tx⟩ else lookS l j:=by
 by_cases hk:c≠0/\(tellS l c s).2=0
 ·have e:keepS l c s cd tx=l.filter (fun e=>decide (e.cl<c))++⟨c,s,cd,tx⟩::l.filter (fun e=>decide (c<e.cl)):=if_pos hk;rw [e]
  conv=>lhs;unfold lookS
  rw [List.find?_append,List.find?_cons]
  by_cases hj:j=c
  ·subst hj
   have h1:(l.filter fun e=>decide (e.cl<j)).find? (fun e=>decide (e.cl=j))=none:=by
    rw [List.find?_eq_none];intro x hx;have:=(List.mem_filter.1 hx).2;simp at this ⊢;omega
   rw [h1,if_pos ⟨hk.1,hk.2,rfl⟩];simp
  ·rw [if_neg (fun h=>hj h.2.2)];have hcj:decide (c=j)=false:=by simp;exact fun e=>hj e.symm
   simp only [hcj]
   rcases Nat.lt_or_gt_of_ne hj with hlt|hgt
   ·rw [find_filter_lt (fun x=>decide (x<c)) (by simpa using hlt)]
    cases hl:lookS l j with
    |some x=>rfl
    |none=>
     rw [Option.none_or,List.find?_eq_none];intro x hx;have:=(List.mem_filter.1 hx).2;simp at this ⊢;omega
   ·have h1:(l.filter fun e=>decide (e.cl<c)).find? (fun e=>decide (e.cl=j))=none:=by
     rw [List.find?_eq_none];intro x hx;have:=(List.mem_filter.1 hx).2;simp at this ⊢;omega
    rw [h1,Option.none_or];exact find_filter_lt (fun x=>decide (c<x)) (by simpa using hgt)
 ·rw [show keepS l c s cd tx=l from if_neg hk,if_neg (fun h=>hk ⟨h.1,h.2.1⟩)]
theorem filter_two (c:Nat):∀l:List SE,(l.filter fun e=>decide (e.cl<c)).length+(l.filter fun e=>decide (c<e.cl)).length<=l.length
 |[]=>by simp
 |e::l=>by
  have ih:=filter_two c l;rw [List.filter_cons,List.filter_cons,List.length_cons]
  by_cases h1:e.cl<c
  ·have h2:¬c<e.cl:=by omega
   rw [if_pos (by simpa using h1),if_neg (by simpa using h2),List.length_cons];omega
  ·rw [if_neg (by simpa using h1)]
   by_cases h2:c<e.cl
   ·rw [if_pos (by simpa using h2),List.length_cons];omega
   ·rw [if_neg (by simpa using h2)];omega
theorem keepS_len (l:List SE) (c s cd:Nat) (tx:ByteArray):(keepS l c s cd tx).length<=l.length+1:=by
 unfold keepS
 split
 ·rw [List.length_append,List.length_cons];have h:=filter_two c l;omega
 ·omega
end Go.Proofs.YtfjmdkhemnmkpaaGreatDoor
namespace Go.Proofs.YtfjmdkhemnmkpaaGreatDoor
open Go.RowKit
def replyV (r:Nat × ByteArray):Value:=.agg #[.int .u8 (r.1:Int),.string r.2]
end Go.Proofs.YtfjmdkhemnmkpaaGreatDoor
namespace Go.Proofs.YtfjmdkhemnmkpaaGreatDoor
def SortedE (l:List SE):Prop:=l.Pairwise fun a b=>a.cl<b.cl
def setS (l:List SE) (e:SE):List SE:=l.filter (fun x=>decide (x.cl<e.cl))++e::l.filter (fun x=>decide (e.cl<x.cl))
theorem SortedE.nil:SortedE []:=List.Pairwise.nil
theorem SortedE.set {l:List SE} (h:SortedE l) (e:SE):SortedE (setS l e):=by
 unfold setS SortedE;refine List.pairwise_append.2 ⟨h.filter _,List.pairwise_cons.2 ⟨fun x hx=>?_,h.filter _⟩,fun a ha b hb=>?_⟩
 ·have:=(List.mem_filter.1 hx).2
  simpa using this
 ·have h1:a.cl<e.cl:=by simpa using (List.mem_filter.1 ha).2
  rcases List.mem_cons.1 hb with rfl|hb
  ·exact h1
  ·have h2:e.cl<b.cl:=by simpa using (List.mem_filter.1 hb).2
   omega
theorem keepS_set {l:List SE} {c s cd:Nat} {tx:ByteArray} (h0:c≠0) (h:(tellS l c s).2=0):keepS l c s cd tx=setS l ⟨c,s,cd,tx⟩:=if_pos ⟨h0,h⟩
theorem keepS_sorted {l:List SE} (h:SortedE l) (c s cd:Nat) (tx:ByteArray):SortedE (keepS l c s cd tx):=by
 by_cases hk:c≠0/\(tellS l c s).2=0
 ·rw [keepS_set hk.1 hk.2];exact h.set _
 ·rw [show keepS l c s cd tx=l from if_neg hk];exact h
theorem lookS_mem {l:List SE} {c:Nat} {e:SE} (h:lookS l c=some e):e∈l/\e.cl=c:=by
 unfold lookS at h;exact ⟨List.mem_of_find?_eq_some h,by simpa using List.find?_some h⟩
theorem lookS_cons (e:SE) (l:List SE) (c:Nat):lookS (e::l) c=if e.cl=c then some e else lookS l c:=by
 unfold lookS;rw [List.find?_cons]
 by_cases h:e.cl=c<;>simp [h]
theorem lookS_none {l:List SE} {c:Nat} (h:∀x∈l,x.cl≠c):lookS l c=none:=by
 unfold lookS;rw [List.find?_eq_none];intro x hx
 simpa using h x hx
theorem SortedE.ext:∀{l m:List SE},SortedE l->SortedE m->(∀k,lookS l k=lookS m k)->l=m
 |[],[],_,_,_=>rfl
 |[],q::m,_,_,h=>by have:=h q.cl;rw [lookS_cons,if_pos rfl] at this;cases this
 |p::l,[],_,_,h=>by have:=h p.cl;rw [lookS_cons,if_pos rfl] at this;cases this
 |p::l,q::m,hl,hm,h=>by
  obtain ⟨hl1,hl2⟩:=List.pairwise_cons.1 hl;obtain ⟨hm1,hm2⟩:=List.pairwise_cons.1 hm
  have hpq:p.cl=q.cl:=by
   refine Classical.byContradiction fun hne=>?_
   have h1:=h p.cl;rw [lookS_cons,if_pos rfl,lookS_cons,if_neg (fun e=>hne e.symm)] at h1;have h2:=h q.cl;rw [lookS_cons,if_neg hne,lookS_cons,if_pos rfl] at h2;have h3:=hm1 _ (lookS_mem h1.symm).1;have h4:=hl1 _ (lookS_mem h2).1;omega
  have hp:p=q:=by
   have h1:=h p.cl;rw [lookS_cons,if_pos rfl,lookS_cons,if_pos hpq.symm] at h1
   injection h1
  subst hp
  congr 1
  refine SortedE.ext hl2 hm2 fun k=>?_
  by_cases hk:p.cl=k
  ·subst hk;rw [lookS_none fun x hx=>Ne.symm (Nat.ne_of_lt (hl1 x hx)),lookS_none fun x hx=>Ne.symm (Nat.ne_of_lt (hm1 x hx))]
  ·have:=h k;rw [lookS_cons,if_neg hk,lookS_cons,if_neg hk] at this;exact this
theorem tellS_keep {l:List SE} {c d s t cd:Nat} {tx:ByteArray} (h:d≠c):tellS (keepS l c s cd tx) d t=tellS l d t:=by
 unfold tellS;rw [lookS_keep,if_neg (fun e=>h e.2.2)]
theorem keepS_comm {l:List SE} (hl:SortedE l) {c d s t cd ce:Nat} {tx ty:ByteArray} (h:c≠d):keepS (keepS l c s cd tx) d t ce ty=keepS (keepS l d t ce ty) c s cd tx:=by
 refine SortedE.ext (keepS_sorted (keepS_sorted hl _ _ _ _) _ _ _ _) (keepS_sorted (keepS_sorted hl _ _ _ _) _ _ _ _) fun k=>?_
 rw [lookS_keep,lookS_keep,lookS_keep,lookS_keep,tellS_keep (Ne.symm h),tellS_keep h]
 by_cases h1:k=c
 ·have h2:¬(d≠0/\(tellS l d t).2=0/\k=d):=fun e=>h (h1.symm.trans e.2.2)
  simp only [if_neg h2]
 ·have h2:¬(c≠0/\(tellS l c s).2=0/\k=c):=fun e=>h1 e.2.2
  simp only [if_neg h2]
end Go.Proofs.YtfjmdkhemnmkpaaGreatDoor
namespace Go.Proofs.YtfjmdkhemnmkpaaGreatDoor
open Go.Maps Go.RowKit Go.WideMaps
def litT (b:ByteArray):Lit:=.string b.data.toList
theorem litT_inj {a b:ByteArray} (h:litT a=litT b):a=b:=by
 have:a.data.toList=b.data.toList:=by simpa [litT] using h
 exact ByteArray.ext (Array.ext' this)
def kyS (c:Nat):Lit:=.int .u32 (c:Int)
theorem same_kyS (a b:Nat):(kyS a).sameKey (kyS b)=decide (a=b):=by
 simp [kyS,Lit.sameKey,Int.natCast_inj]
theorem before_kyS (a b:Nat):(kyS a).before (kyS b)=decide (a<b):=by
 simp [kyS,Lit.before]
def sessD (e:SE):DataW Unit:=.agg [.lit (.int .u32 (e.sq:Int)),.lit (.int .u8 (e.cd:Int)),.lit (litT e.tx)]
def mapS (l:List SE):DataW Unit:=.map (l.map fun e=>(kyS e.cl,sessD e))
theorem filter_none_lt {l:List SE} {c:Nat} (h:∀x∈l,c<x.cl):l.filter (fun x=>decide (x.cl<c))=[]:=by
 rw [List.filter_eq_nil_iff];intro x hx;have:=h x hx;simp;omega
theorem filter_all_gt {l:List SE} {c:Nat} (h:∀x∈l,c<x.cl):l.filter (fun x=>decide (c<x.cl))=l:=by
 rw [List.filter_eq_self];intro x hx
 simpa using h x hx
theorem insert_S (e:SE):∀r:List SE,SortedE r->(∀x∈r,x.cl≠e.cl)->DataW.insert (kyS e.cl,sessD e) (r.map fun x=>(kyS x.cl,sessD x))=(setS r e).map fun x=>(kyS x.cl,sessD x)
 |[],_,_=>rfl
 |x::r,hs,h=>by
  have hx:=h x (List.mem_cons_self ..);have hs':=List.pairwise_cons.1 hs;have ih:=insert_S e r hs'.2 (fun q hq=>h q (List.mem_cons_of_mem _ hq));rw [List.map_cons,DataW.insert,before_kyS]
  by_cases hl:e.cl<x.cl
  ·rw [if_pos (by simpa using hl)]
   have ha:∀y∈x::r,e.cl<y.cl:=fun y hy=>by
    rcases List.mem_cons.1 hy with rfl|hy
    ·exact hl
    ·have:=hs'.1 y hy;omega
   unfold setS;rw [filter_none_lt ha,filter_all_gt ha]
   rfl
  ·rw [if_neg (by simpa using hl),ih];have h1:x.cl<e.cl:=by omega
   unfold setS;rw [List.filter_cons,if_pos (by simpa using h1),List.filter_cons,if_neg (by simpa using hl)]
   rfl
theorem mapS_put {l:List SE} (hs:SortedE l) (e:SE):(mapS l).put (kyS e.cl) (sessD e)=mapS (setS l e):=by
 simp only [mapS,DataW.put]
 have h1:(l.map fun x=>(kyS x.cl,sessD x)).filter (fun p=>!p.1.sameKey (kyS e.cl))=(l.filter fun x=>decide (x.cl≠e.cl)).map fun x=>(kyS x.cl,sessD x):=by
  rw [List.filter_map]
  congr 1
  refine List.filter_congr fun x _=>?_
  simp [same_kyS]
 rw [h1,insert_S e _ (hs.filter _) (fun x hx=>by have:=(List.mem_filter.1 hx).2;simpa using this)];unfold setS;rw [List.filter_filter,List.filter_filter]
 have e1:∀x:SE,(decide (x.cl<e.cl)&&decide (x.cl≠e.cl))=decide (x.cl<e.cl):=fun x=>by
  rw [Bool.eq_iff_iff];simp;omega
 have e2:∀x:SE,(decide (e.cl<x.cl)&&decide (x.cl≠e.cl))=decide (e.cl<x.cl):=fun x=>by
  rw [Bool.eq_iff_iff];simp;omega
 simp only [e1,e2]
theorem mapS_at (l:List SE) (c:Nat) (z:DataW Unit):(mapS l).atKey (kyS c) z=(lookS l c).elim z sessD:=by
 simp only [mapS,DataW.atKey]
 have:(l.map fun x=>(kyS x.cl,sessD x)).find? (fun p=>p.1.sameKey (kyS c))=(l.find? fun x=>decide (x.cl=c)).map fun x=>(kyS x.cl,sessD x):=by
  rw [List.find?_map]
  congr 2
  funext x
  simp [same_kyS]
 rw [this,lookS]
 cases l.find? fun x=>decide (x.cl=c)<;>rfl
theorem mapS_has (l:List SE) (c:Nat):has (mapS l) (kyS c)=(lookS l c).isSome:=by
 simp only [mapS,has_eq];rw [lookS,List.any_map,Bool.eq_iff_iff,List.any_eq_true,List.find?_isSome];simp [same_kyS]
theorem mapS_size (l:List SE):size (mapS l)=l.length:=by simp [mapS,size_eq]
def sessV (e:SE):Value:=.agg #[.int .u32 (e.sq:Int),.int .u8 (e.cd:Int),.string e.tx]
def sessR (v:Value):Option (DataW Unit × List MemPlace):=match v with
 |.agg cs=>match cs.toList with
  |[.int .u32 s,.int .u8 c,.string t]=>if 0<=s/\0<=c/\t.size<=maxLen then some (.agg [.lit (.int .u32 s),.lit (.int .u8 c),.lit (litT t)],[]) else none
  |_=>none
 |_=>none
theorem sessR_mk {e:SE} (h:e.tx.size<=maxLen):sessR (sessV e)=some (sessD e,[]):=by
 simp [sessR,sessV,sessD,h]
theorem sessR_inv {v:Value} {z:DataW Unit × List MemPlace} (h:sessR v=some z):∃e:SE,v=sessV e/\z=(sessD e,[]):=by
 unfold sessR at h
 split at h
 ·rename_i cs
  split at h
  ·rename_i s c t hc
   split at h
   ·rename_i h0
    cases h
    refine ⟨⟨0,s.toNat,c.toNat,t⟩,?_,?_⟩
    ·rw [sessV]
     congr 1
     refine Array.ext' ?_;rw [hc];show _=[Value.int .u32 ((s.toNat:Nat):Int),Value.int .u8 ((c.toNat:Nat):Int),Value.string t];rw [Int.toNat_of_nonneg h0.1,Int.toNat_of_nonneg h0.2.1]
    ·show _=((DataW.agg [DataW.lit (.int .u32 ((s.toNat:Nat):Int)),DataW.lit (.int .u8 ((c.toNat:Nat):Int)),DataW.lit (litT t)]:DataW Unit),[]);rw [Int.toNat_of_nonneg h0.1,Int.toNat_of_nonneg h0.2.1]
   ·cases h
  ·cases h
 ·cases h
theorem sessD_eq {a b:SE} (h:sessD a=sessD b):sessV a=sessV b:=by
 simp only [sessD,DataW.agg.injEq,List.cons.injEq,DataW.lit.injEq,Lit.int.injEq,and_true,true_and] at h;obtain ⟨h1,h2,h3⟩:=h;rw [sessV,sessV,h1,h2,litT_inj h3]
theorem zeroSv (w:World):(zeroValue 111).run Tryz.prog w=.ok (sessV ⟨0,0,0,⟨#[]⟩⟩) w:=by kernel_rfl
theorem keyedU32:Maps.Keyed Tryz.prog 54:=Maps.int_keyed Tryz.underlying54
def MapQS (w:World) (b:Nat) (l:List SE):Prop:=w.ownsMap Tryz.prog 54 sessR b l.length (mapS l)
def MapOS (w:World) (p:Option Nat) (l:List SE):Prop:=match p with
 |none=>l=[]
 |some b=>MapQS w b l
def valS (l:List SE) (c:Nat):SE:=(lookS l c).getD ⟨0,0,0,⟨#[]⟩⟩
section
variable {w w':World} {b n:Nat} {l:List SE} {p:Option Nat}
theorem MapQS.of (h:w.ownsMap Tryz.prog 54 sessR b n (mapS l)):MapQS w b l:=by
 obtain ⟨es,clock,hb,F,hs,hD⟩:=h;refine ⟨es,clock,hb,F,?_,hD⟩;have:=congrArg Maps.size hD;rw [mapS_size] at this;simp [Maps.size,length_sorted] at this;omega
theorem MapQS.new (w:World):MapQS (w.alloc (.map #[] 0)) w.heap.size []:=World.ownsMap_made w _ _ _
theorem MapQS.lt (h:MapQS w b l):b<w.heap.size:=World.ownsMap.lt h
theorem MapQS.keep (h:MapQS w b l) (hk:w'.heap[b]?=w.heap[b]?):MapQS w' b l:=by
 obtain ⟨es,clock,hb,F,hs,hD⟩:=h;exact ⟨es,clock,hk.trans hb,F,hs,hD⟩
theorem MapQS.blk (h:MapQS w b l):∃es clock,w.heap[b]?=some (.map es clock):=by
 obtain ⟨es,clock,hb,_⟩:=h;exact ⟨es,clock,hb⟩
theorem MapQS.below (h:MapQS w b l) (hb:Below w.heap.size w w'):MapQS w' b l:=h.keep (hb.block b h.lt)
theorem wf_u32nS {c:Nat} (h:c<4294967296):(Lit.int .u32 (c:Int)).wf=true:=by
 simp [Lit.wf,IntKind.min,IntKind.max,IntKind.signed,IntKind.bits];omega
theorem keyU {c:Nat} (h:c<4294967296):keyOf Tryz.prog 54 (.int .u32 (c:Int))=some (kyS c):=keyOf_int_mk Tryz.underlying54 (wf_u32nS h)
theorem look_valS {v:Value} {c:Nat} {ps:List MemPlace} (h:sessR v=some ((mapS l).atKey (kyS c) (sessD ⟨0,0,0,⟨#[]⟩⟩),ps)):v=sessV (valS l c):=by
 obtain ⟨e,rfl,hz⟩:=sessR_inv h;rw [mapS_at] at hz;have h1:=congrArg Prod.fst hz;unfold valS
 cases hl:lookS l c with
 |none=>rw [hl] at h1;exact (sessD_eq h1).symm
 |some x=>rw [hl] at h1;exact (sessD_eq h1).symm
theorem MapQS.look (h:MapQS w b l) {c:Nat} (hc:c<4294967296):(Instr.lookup 123 (.map (some b)) (.int .u32 (c:Int)) true).run Tryz.prog w=.ok (.tuple #[sessV (valS l c),.bool (lookS l c).isSome]) w:=by
 obtain ⟨v,ps,hrun,hv⟩:=World.ownsMap.look_ok h keyedU32 Tryz.underlying123 (zeroSv w) (sessR_mk (e:=⟨0,0,0,⟨#[]⟩⟩) (by decide)) (keyU hc);rw [look_valS hv,mapS_has] at hrun;exact hrun
theorem MapQS.get (h:MapQS w b l) {c:Nat} (hc:c<4294967296):(Instr.lookup 123 (.map (some b)) (.int .u32 (c:Int)) false).run Tryz.prog w=.ok (sessV (valS l c)) w:=by
 obtain ⟨v,ps,hrun,hv⟩:=World.ownsMap.lookup h keyedU32 Tryz.underlying123 (zeroSv w) (sessR_mk (e:=⟨0,0,0,⟨#[]⟩⟩) (by decide)) (keyU hc);rw [look_valS hv] at hrun;exact hrun
theorem MapQS.put (h:MapQS w b l) (hs:SortedE l) (hn:l.length<maxLen) {e:SE} (hc:e.cl<4294967296) (ht:e.tx.size<=maxLen):∃w',(Instr.mapUpdate 123 (.map (some b)) (.int .u32 (e.cl:Int)) (sessV e)).run Tryz.prog w=.ok () w'/\MapQS w' b (setS l e)/\w.grownBy w' (some b):=by
 obtain ⟨w',hrun,h1,h2⟩:=World.ownsMap.update h keyedU32 Tryz.underlying123 hn (keyU hc) (sessR_mk ht);rw [mapS_put hs] at h1;exact ⟨w',hrun,MapQS.of h1,h2⟩
theorem MapOS.keep (h:MapOS w p l) (hk:∀b,p=some b->w'.heap[b]?=w.heap[b]?):MapOS w' p l:=by
 cases p with
 |none=>exact h
 |some b=>exact MapQS.keep h (hk b rfl)
theorem MapOS.below (h:MapOS w p l) (hb:Below w.heap.size w w'):MapOS w' p l:=by
 cases p with
 |none=>exact h
 |some b=>exact MapQS.below h hb
theorem MapOS.look (h:MapOS w p l) {c:Nat} (hc:c<4294967296):(Instr.lookup 123 (.map p) (.int .u32 (c:Int)) true).run Tryz.prog w=.ok (.tuple #[sessV (valS l c),.bool (lookS l c).isSome]) w:=by
 cases p with
 |none=>
  obtain rfl:l=[]:=h;exact Maps.look_nil true keyedU32 Tryz.underlying123 (zeroSv w) (keyU hc)
 |some b=>exact MapQS.look h hc
theorem MapOS.get (h:MapOS w p l) {c:Nat} (hc:c<4294967296):(Instr.lookup 123 (.map p) (.int .u32 (c:Int)) false).run Tryz.prog w=.ok (sessV (valS l c)) w:=by
 cases p with
 |none=>
  obtain rfl:l=[]:=h;exact Maps.look_nil false keyedU32 Tryz.underlying123 (zeroSv w) (keyU hc)
 |some b=>exact MapQS.get h hc
theorem MapOS.len (h:MapOS w p l) (ty:TypeId):(Builtin.len_ #[123] ty #[.map p]).run Tryz.prog w=.ok (.int .i64 (l.length:Int)) w:=by
 cases p with
 |none=>
  obtain rfl:l=[]:=h;exact Maps.len_nil Tryz.underlying123 ty
 |some b=>
  have:=World.ownsMap.len (show w.ownsMap _ _ _ b _ _ from h) Tryz.underlying123 ty;rw [mapS_size] at this;exact this
theorem MapOS.blk {q:Nat} (h:MapOS w p l) (hp:p=some q):∃es clock,w.heap[q]?=some (.map es clock):=by
 subst hp;exact MapQS.blk h
end
structure StQS (w:World) (R:Nat) (p:Option Nat) (l:List SE):Prop where
 cell:w.heap[R]?=some (.cells #[.map p] 130 (0,0))
 map:MapOS w p l
section
variable {w w' W:World} {R:Nat} {p:Option Nat} {l l':List SE}
theorem StQS.lt (h:StQS w R p l):R<w.heap.size:=(geS.1 h.cell).1
theorem StQS.ne (h:StQS w R p l):∀b,p=some b->R≠b:=fun b hp e=>by
 obtain ⟨es,clock,hb⟩:=h.map.blk hp;have:=h.cell;rw [e,hb] at this
 cases this
theorem StQS.blt (h:StQS w R p l):∀b,p=some b->b<w.heap.size:=fun b hp=>by
 obtain ⟨es,clock,hb⟩:=h.map.blk hp;exact (geS.1 hb).1
theorem StQS.below (h:StQS w R p l) (hb:Below w.heap.size w w'):StQS w' R p l:=⟨(hb.block R h.lt).trans h.cell,h.map.below hb⟩
theorem StQS.keep (h:StQS w R p l) (hR:w'.heap[R]?=w.heap[R]?) (hk:∀b,p=some b->w'.heap[b]?=w.heap[b]?):StQS w' R p l:=⟨hR.trans h.cell,h.map.keep hk⟩
theorem StQS.mp (h:StQS w R p l):w.cell? ⟨R,0,none⟩=some (.map p):=by simpa using blk_cell h.cell 0
theorem StQS.fz (h:StQS w R p l):w.frozen? ⟨R,0,none⟩=false:=blk_frozen h.cell 0
structure ChgS (w W:World) (R:Nat) (p:Option Nat) (l:List SE):Prop where
 ex:∃p',StQS W R p' l/\∀b,p'=some b->p=some b\/w.heap.size<=b
 only:Only (fun x=>x=R\/p=some x) w W
theorem ChgS.same (h:StQS w R p l) (hb:Below w.heap.size w W):ChgS w W R p l:=⟨⟨p,h.below hb,fun _b hp=>.inl hp⟩,Only.of_grew hb⟩
theorem ChgS.trans {w0:World} {p':Option Nat} {l2:List SE} (hp:∀b,p'=some b->p=some b\/w0.heap.size<=b) (ho:Only (fun x=>x=R\/p=some x) w0 w) (h:ChgS w W R p' l2):ChgS w0 W R p l2:=by
 obtain ⟨q,s,hq⟩:=h.ex;refine ⟨⟨q,s,fun b hb=>?_⟩,?_⟩
 ·rcases hq b hb with h1|h1
  ·exact hp b h1
  ·exact .inr (nLt ho.size h1)
 ·refine ⟨h.only.os.trans ho.os,h.only.tape.trans ho.tape,h.only.output.trans ho.output,nLt ho.size h.only.size,fun x hx hn=>(h.only.block x (nLl hx ho.size) (fun e=>?_)).trans (ho.block x hx hn)⟩
  rcases e with e|e
  ·exact hn (.inl e)
  ·rcases hp x e with h1|h1
   ·exact hn (.inr h1)
   ·omega
end
theorem all_anyS {w:World} {R:Nat} {p:Option Nat} {l:List SE} (h:StQS w R p l):Calls Tryz.prog 62 #[.pointer (some ⟨R,0,none⟩)] w fun e W'=>e=.returned (.map p)/\W'=w:=by
 have hm:=h.mp;go_enter Tryz.func62,Tryz.ntmps62;go_wp2;go_ret;exact ⟨rfl,rfl⟩
theorem new_anyS (w:World):Calls Tryz.prog 41 #[] w fun e W'=>e=.returned (.pointer (some ⟨w.heap.size,0,none⟩))/\W'=w.alloc (.cells #[.map none] 130):=by
 go_enter Tryz.func41,Tryz.ntmps41;go_wp2;go_ret;exact ⟨rfl,rfl⟩
theorem len_anyS {w:World} {R:Nat} {p:Option Nat} {l:List SE} (h:StQS w R p l):Calls Tryz.prog 53 #[.pointer (some ⟨R,0,none⟩)] w fun e W'=>e=.returned (.int .i64 (l.length:Int))/\W'=w:=by
 have HA:=hiD (all_anyS h);have hl:=fun ty=>h.map.len ty
 obtain ⟨L,hL⟩:∃L,L=l.length:=⟨_,rfl⟩;rw [<-hL] at hl ⊢;clear h hL;go_enter Tryz.func53,Tryz.ntmps53
 go_wp2_with fail
 refine HA.out.mono ?_;rintro e W ⟨rfl,rfl⟩;go_wp2;go_ret;exact ⟨rfl,rfl⟩
theorem box_new {w W0:World} {cs:Array Value} {t:TypeId} (h:W0=w.alloc (.cells cs t)):Below w.heap.size w W0/\W0.heap[w.heap.size]?=some (.cells cs t (0,0))/\W0.heap.size=w.heap.size+1:=by
 subst h;exact ⟨(Below.refl _ w).alloc (nLr _) _,wAh w _,Array.size_push _⟩
theorem find_fin {w W:World} {g:Nat} {cs:Array Value} (hb:Below w.heap.size w W) (k:W.heap[g]?=some (.cells cs 45 (0,0))) (hg:w.heap.size<=g) (cd:Nat) (tx:ByteArray) (hcs:cs.size=2) (V:World) (hV:V=(W.setCell ⟨g,0,none⟩ (.int .u8 (cd:Int))).setCell ⟨g,1,none⟩ (.string tx)):
 Below w.heap.size w V/\V.cell? ⟨g,0,none⟩=some (.int .u8 (cd:Int))/\V.cell? ⟨g,1,none⟩=some (.string tx):=by
 subst hV;have k3:=blk_set (blk_set k 0 (.int .u8 (cd:Int))) 1 (.string tx);refine ⟨(hb.setCell (p:=⟨g,0,none⟩) hg _).setCell (p:=⟨g,1,none⟩) hg _,?_,?_⟩
 ·simpa [hcs] using blk_cell k3 0
 ·simpa [hcs] using blk_cell k3 1
theorem find_any {w:World} {p:Option Nat} {l:List SE} (h:MapOS w p l) (c s:Nat) (hc:c<4294967296) (hs:s<4294967296):
 Calls Tryz.prog 63 #[.agg #[.map p],.int .u32 (c:Int),.int .u32 (s:Int)] w fun e W'=>e=.returned (.tuple #[replyV (tellS l c s).1,.int .u8 ((tellS l c s).2:Int)])/\Below w.heap.size w W':=by
 have HM:=hiD h;clear h;go_enter Tryz.func63,Tryz.ntmps63;go_upto_region 1 with (fail)
 obtain ⟨W0,hW0⟩:∃W0,W0=w.alloc (Obj.cells #[.map p] 128):=⟨_,rfl⟩;rw [<-hW0];obtain ⟨W1,hW1⟩:∃W1,W1=W0.alloc (Obj.cells #[.int .u8 0,.string ⟨#[]⟩] 45):=⟨_,rfl⟩;rw [<-hW1];obtain ⟨hb0,k0,s0⟩:=box_new hW0;obtain ⟨hb1,k1,s1⟩:=box_new hW1;have hb:=hb0.trans (Below.mono hb1 hb0.size);have k0':=(hb1.block _ (by omega)).trans k0;have hrun:=(HM.out.below hb).look hc;obtain ⟨v,hv⟩:∃v,v=valS l c:=⟨_,rfl⟩;obtain ⟨is,his⟩:∃b,b=(lookS l c).isSome:=⟨_,rfl⟩;rw [<-hv,<-his] at hrun;obtain ⟨q,hq⟩:∃q,q=w.heap.size:=⟨_,rfl⟩;rw [<-hq] at k0' s0 ⊢;rw [s0] at k1;obtain ⟨g,hg⟩:∃g,g=q+1:=⟨_,rfl⟩;rw [<-hg] at k1 ⊢;have c0:W1.cell? ⟨q,0,none⟩=some (.map p):=by simpa using blk_cell k0' 0
 have HB:=hiD (aI hb (aI k1 (aI hg (aI (show W1.heap.size=q+2 by omega) (aI hq (aI hv his))))));unfold sessV at hrun;obtain ⟨cl,sq,cd,tx⟩:=v;dsimp only at hrun;clear hb hb0 hb1 k0 k0' k1 hq hg s0 s1 hv his;clear hW0 hW1;go_upto_region 2 with (fail)
 obtain ⟨W2,hW2⟩:∃W2,W2=W1.alloc (Obj.cells #[.int .u32 (sq:Int),.int .u8 (cd:Int),.string tx] 111):=⟨_,rfl⟩;rw [<-hW2];obtain ⟨hb2,k2,s2⟩:=box_new hW2;have kg:W2.heap[g]?=some (.cells #[.int .u8 0,.string ⟨#[]⟩] 45 (0,0)):=(hb2.block g (geS.1 HB.out.2.1).1).trans HB.out.2.1;have hgw:w.heap.size<=g:=by have:=HB.out.2.2.1;have:=HB.out.2.2.2.2.1;omega
 obtain ⟨x,hx⟩:∃x,x=W1.heap.size:=⟨_,rfl⟩;rw [<-hx] at k2 ⊢;have x0:W2.cell? ⟨x,0,none⟩=some (.int .u32 (sq:Int)):=by simpa using blk_cell k2 0
 have x1:W2.cell? ⟨x,1,none⟩=some (.int .u8 (cd:Int)):=by simpa using blk_cell k2 1
 have x2:W2.cell? ⟨x,2,none⟩=some (.string tx):=by simpa using blk_cell k2 2
 have y0:W2.cell? ⟨g,0,none⟩=some (.int .u8 0):=by simpa using blk_cell kg 0
 have y1:W2.cell? ⟨g,1,none⟩=some (.string ⟨#[]⟩):=by simpa using blk_cell kg 1
 have u0:=blk_frozen kg 0;have u1:=blk_frozen kg 1;have HF:=hiD (find_fin (HB.out.1.trans (Below.mono hb2 HB.out.1.size)) kg hgw);have HV:=hiD HB.out.2.2.2.2.2;clear hb2 k2 s2 kg hgw hx HB c0 hrun hW2
 cases is with
 |false=>
  have ht:tellS l c s=((0,⟨#[]⟩),0):=by
   have h2:=HV.out.2;unfold tellS
   cases hl:lookS l c with
   |none=>rfl
   |some e=>rw [hl] at h2;cases h2
  obtain ⟨W3,hW3⟩:∃W3,W3=(W2.setCell ⟨g,0,none⟩ (.int .u8 0)).setCell ⟨g,1,none⟩ (.string ⟨#[]⟩):=⟨_,rfl⟩;obtain ⟨f1,f2',f3⟩:=HF.out 0 ⟨#[]⟩ rfl W3 hW3;have f2:W3.cell? ⟨g,0,none⟩=some (.int .u8 0):=f2';clear f2';have HTT:=hiD ht;clear ht;go_wp2;rw [<-hW3];exact bodyPost_ret (v:=.tuple #[.agg #[.int .u8 0,.string ⟨#[]⟩],.int .u8 0]) (by simp [results,Tryz.results63,go_sem,f2,f3]) rfl ⟨by rw [HTT.out];rfl,f1⟩
 |true=>
  obtain ⟨e0,hl⟩:∃e,lookS l c=some e:=by
   have h2:=HV.out.2
   cases hl:lookS l c with
   |none=>rw [hl] at h2;cases h2
   |some e=>exact ⟨e,rfl⟩
  have he0:e0=⟨cl,sq,cd,tx⟩:=by
   have h1:=HV.out.1;rw [valS,hl] at h1;exact h1.symm
  subst he0;have HL:=hiD hl;clear hl
  by_cases hlt:sq<s
  ·have hi:(sq:Int)<(s:Int):=by omega
   have ht:tellS l c s=((0,⟨#[]⟩),0):=by
    unfold tellS;rw [HL.out];exact if_pos hlt
   obtain ⟨W3,hW3⟩:∃W3,W3=(W2.setCell ⟨g,0,none⟩ (.int .u8 0)).setCell ⟨g,1,none⟩ (.string ⟨#[]⟩):=⟨_,rfl⟩;obtain ⟨f1,f2',f3⟩:=HF.out 0 ⟨#[]⟩ rfl W3 hW3;have f2:W3.cell? ⟨g,0,none⟩=some (.int .u8 0):=f2';clear f2';have HTT:=hiD ht;clear ht;go_wp2;rw [<-hW3];exact bodyPost_ret (v:=.tuple #[.agg #[.int .u8 0,.string ⟨#[]⟩],.int .u8 0]) (by simp [results,Tryz.results63,go_sem,f2,f3]) rfl ⟨by rw [HTT.out];rfl,f1⟩
  ·have hi:¬(sq:Int)<(s:Int):=by omega
   by_cases he:sq=s
   ·subst he
    have ht:tellS l c sq=((cd,tx),1):=by
     unfold tellS;rw [HL.out];simp
    obtain ⟨W3,hW3⟩:∃W3,W3=(W2.setCell ⟨g,0,none⟩ (.int .u8 (cd:Int))).setCell ⟨g,1,none⟩ (.string tx):=⟨_,rfl⟩;obtain ⟨f1,f2',f3⟩:=HF.out cd tx rfl W3 hW3;have f2:W3.cell? ⟨g,0,none⟩=some (.int .u8 (cd:Int)):=f2';clear f2';have HTT:=hiD ht;clear ht;go_wp2;rw [<-hW3];exact bodyPost_ret (v:=.tuple #[.agg #[.int .u8 (cd:Int),.string tx],.int .u8 1]) (by simp [results,Tryz.results63,go_sem,f2,f3]) rfl ⟨by rw [HTT.out];rfl,f1⟩
   ·have hne:¬(s:Int)=(sq:Int):=by omega
    have hneb:((s:Int)==(sq:Int))=false:=by simpa using hne
    have ht:tellS l c s=((3,⟨#[]⟩),2):=by
     unfold tellS;rw [HL.out];dsimp only;rw [if_neg hlt,if_neg he]
    obtain ⟨W3,hW3⟩:∃W3,W3=(W2.setCell ⟨g,0,none⟩ (.int .u8 3)).setCell ⟨g,1,none⟩ (.string ⟨#[]⟩):=⟨_,rfl⟩;obtain ⟨f1,f2',f3⟩:=HF.out 3 ⟨#[]⟩ rfl W3 hW3;have f2:W3.cell? ⟨g,0,none⟩=some (.int .u8 3):=f2';clear f2';have HTT:=hiD ht;clear ht;go_wp2;rw [<-hW3];exact bodyPost_ret (v:=.tuple #[.agg #[.int .u8 3,.string ⟨#[]⟩],.int .u8 2]) (by simp [results,Tryz.results63,go_sem,f2,f3]) rfl ⟨by rw [HTT.out];rfl,f1⟩
end Go.Proofs.YtfjmdkhemnmkpaaGreatDoor
