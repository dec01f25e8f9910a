/- Parts of the proof: MKqW. -/
import Derived.Test.YtfjmdkhemnmkpaaGreatDoorR04
import Derived.Test.YtfjmdkhemnmkpaaGreatDoorR06
set_option maxRecDepth 100000
set_option maxHeartbeats 8000000
namespace Go.Proofs.YtfjmdkhemnmkpaaGreatDoor
open Go.Maps Go.RowKit Go.WideMaps
theorem Chg.grew {w W W':World} {R:Nat} {p:Option Nat} {l:List PV} (h:Chg w W R p l) (hb:Below W.heap.size W W'):Chg w W' R p l:=by
 obtain ⟨p',s,hp⟩:=h.ex;exact ⟨⟨p',s.below hb,hp⟩,h.only.grew hb⟩
theorem Prep.drew {w W:World} {R p q:Nat} {m:Option Nat} {l:List PV} {cs:Array Value} (h:Prep w W R m p q l cs):Prep w W.drew R m p q l cs:=⟨h.st.keep rfl (fun _ _=>rfl),h.cmd,h.rep,h.below.drew,h.ps,h.size⟩
theorem reply_end {w W W9:World} {R:Nat} {m:Option Nat} {l:List PV} {q:Nat} (h:Chg w W R m l) (hk:W.heap[q]?=some (.cells reply0 45 (0,0))) (hq:w.heap.size<=q) (hR:R<w.heap.size) (c:Int) (t:ByteArray) (e:W9=(W.setCell ⟨q,0,none⟩ (.int .u8 c)).setCell ⟨q,1,none⟩ (.string t)):
 Chg w W9 R m l/\W9.cell? ⟨q,0,none⟩=some (.int .u8 c)/\W9.cell? ⟨q,1,none⟩=some (.string t):=by
 have k3:W9.heap[q]?=some (.cells #[.int .u8 c,.string t] 45 (0,0)):=by rw [e];exact blk_set (blk_set hk 0 _) 1 _
 exact ⟨by rw [e];exact (h.reply hk hq hR 0 _).reply (blk_set hk 0 _) hq hR 1 _,by simpa using blk_cell k3 0,by simpa using blk_cell k3 1⟩
theorem doPut_any (R:Nat) (m:Option Nat) (l:List PV) (a:CmdV) (w:World) (h:StQ w R m l) (hl:l.length<=5000) (ha:a.ok w) (k:ByteArray) (ks:List ByteArray) (hk:a.ks=k::ks):
 Calls Tryz.prog 88 #[.pointer (some ⟨R,0,none⟩),a.val] w fun e W'=>e=.returned (ReplyV (0,⟨#[]⟩))/\Chg w W' R m (withP l k a.new):=by
 have HAA:=hiD ha;obtain ⟨acl,asq,akd,A,L,c,ks0,old,new,n⟩:=a;simp only at hk;subst hk;obtain ⟨kb,ko,e,l1,f1⟩:=ha.has (by simp);simp only at e;subst e;have hk0:=f1 0 (by simp);simp only [List.getElem_cons_zero,Nat.add_zero] at hk0;have hks:k.size<=maxLen:=ha.each k (by simp);have hnew:=ha.new;simp only at hnew;have hL:0<L:=by have:=ha.len;simp only [List.length_cons] at this;omega
 simp only [CmdV.val,CmdV.cells];have H:=hiD h;have HL:=hiD hL;have HLL:=hiD hl;have HK:=hiD (aI l1 hk0);clear h f1 ha l1 hk0 hl;go_enter Tryz.func88,Tryz.ntmps88;go_upto_region 1 with (fail)
 obtain ⟨W0,hW0⟩:∃W0,W0=w.alloc (Obj.cells #[.int .u32 (acl:Int),.int .u32 (asq:Int),.int .u8 (akd:Int),.slice (some ⟨kb,ko,none⟩) L c,.string old,.string new,.int .i64 n] 57):=⟨_,rfl⟩;rw [<-hW0];obtain ⟨W1,hW1⟩:∃W1,W1=W0.alloc (Obj.cells #[.int .u8 0,.string ⟨#[]⟩] 45):=⟨_,rfl⟩;rw [<-hW1];have P:=prep H.out hW0 hW1;obtain ⟨p,hp⟩:∃p,p=w.heap.size:=⟨_,rfl⟩;rw [<-hp] at P ⊢;obtain ⟨q,hq⟩:∃q,q=p+1:=⟨_,rfl⟩;rw [<-hq] at P ⊢;have HP:=hiD P;have HQ:Hid (w.heap.size<=q):=hiD (by have:=P.ps;omega);have z0:W1.cell? ⟨p,0,none⟩=some (.int .u32 (acl:Int)):=P.cell 0;have z1:W1.cell? ⟨p,1,none⟩=some (.int .u32 (asq:Int)):=P.cell 1;have z2:W1.cell? ⟨p,2,none⟩=some (.int .u8 (akd:Int)):=P.cell 2;have z3:W1.cell? ⟨p,3,none⟩=some (.slice (some ⟨kb,ko,none⟩) L c):=P.cell 3;have z4:W1.cell? ⟨p,4,none⟩=some (.string old):=P.cell 4;have z5:W1.cell? ⟨p,5,none⟩=some (.string new):=P.cell 5;have z6:W1.cell? ⟨p,6,none⟩=some (.int .i64 n):=P.cell 6;have xk:=P.key HK.out.1 HK.out.2;have hLi:(0:Int)<(L:Int):=by have:=HL.out;omega
 clear hW0 hW1 hp hq P;have PD:=HP.out.drew;have HSET:=hiD (set_any PD.st (by have:=HLL.out;omega) k new hks hnew);have hbt:=H.out.blt;have HBT:=hiD hbt;clear PD hbt
 go_region_with (refine HSET.out.mono ?_;rintro e W5 ⟨rfl,h5⟩;have H5:=hiD h5;clear h5)
 all_goals
  obtain ⟨c5,_,q5⟩:=HP.out.drew.chg HBT.out H.out.lt H5.out;have H6:=hiD (aI c5 q5);clear c5 q5
  go_wp2_with fail
  refine (done_any _ _).mono ?_;rintro e W6 ⟨rfl,b6⟩;have c6:=H6.out.1.grew b6;have q6:=(b6.block q (geS.1 H6.out.2).1).trans H6.out.2;clear b6;simp only [ReplyV];have KQ:=hiD q6;have HCH:=hiD c6;have y0:W6.cell? ⟨q,0,none⟩=some (.int .u8 0):=by simpa [reply0] using blk_cell KQ.out 0
  have y1:W6.cell? ⟨q,1,none⟩=some (.string ⟨#[]⟩):=by simpa [reply0] using blk_cell KQ.out 1
  have u0:=blk_frozen KQ.out 0;have u1:=blk_frozen KQ.out 1;go_wp2;obtain ⟨W9,hW9⟩:∃W9,W9=(W6.setCell ⟨q,0,none⟩ (.int .u8 0)).setCell ⟨q,1,none⟩ (.string ⟨#[]⟩):=⟨_,rfl⟩;rw [<-hW9];obtain ⟨c9,d0,d1⟩:=reply_end HCH.out KQ.out HQ.out H.out.lt 0 ⟨#[]⟩ hW9;exact bodyPost_ret (v:=ReplyV (0,⟨#[]⟩)) (by simp [results,Tryz.results88,go_sem,d0,d1,ReplyV]) rfl ⟨by first|rfl|simp,c9⟩
theorem doGet_any (R:Nat) (m:Option Nat) (l:List PV) (a:CmdV) (w:World) (h:StQ w R m l) (hl:l.length<=5000) (ha:a.ok w) (k:ByteArray) (ks:List ByteArray) (hk:a.ks=k::ks):
 Calls Tryz.prog 89 #[.pointer (some ⟨R,0,none⟩),a.val] w fun e W'=>e=.returned (match lookP l k with|none=>ReplyV (1,⟨#[]⟩)|some v=>ReplyV (0,v))/\Below w.heap.size w W':=by
 have HAA:=hiD ha;obtain ⟨acl,asq,akd,A,L,c,ks0,old,new,n⟩:=a;simp only at hk;subst hk;obtain ⟨kb,ko,e,l1,f1⟩:=ha.has (by simp);simp only at e;subst e;have hk0:=f1 0 (by simp);simp only [List.getElem_cons_zero,Nat.add_zero] at hk0;have hks:k.size<=maxLen:=ha.each k (by simp);have hnew:=ha.new;simp only at hnew;have hL:0<L:=by have:=ha.len;simp only [List.length_cons] at this;omega
 simp only [CmdV.val,CmdV.cells];have H:=hiD h;have HL:=hiD hL;have HLL:=hiD hl;have HK:=hiD (aI l1 hk0);clear h f1 ha l1 hk0 hl;obtain ⟨o,hlo⟩:∃o,o=lookP l k:=⟨_,rfl⟩;have HLO:=hiD hlo;rw [<-hlo];clear hlo;go_enter Tryz.func89,Tryz.ntmps89;go_upto_region 1 with (fail)
 obtain ⟨W0,hW0⟩:∃W0,W0=w.alloc (Obj.cells #[.int .u32 (acl:Int),.int .u32 (asq:Int),.int .u8 (akd:Int),.slice (some ⟨kb,ko,none⟩) L c,.string old,.string new,.int .i64 n] 57):=⟨_,rfl⟩;rw [<-hW0];obtain ⟨W1,hW1⟩:∃W1,W1=W0.alloc (Obj.cells #[.int .u8 0,.string ⟨#[]⟩] 45):=⟨_,rfl⟩;rw [<-hW1];have P:=prep H.out hW0 hW1;obtain ⟨p,hp⟩:∃p,p=w.heap.size:=⟨_,rfl⟩;rw [<-hp] at P ⊢;obtain ⟨q,hq⟩:∃q,q=p+1:=⟨_,rfl⟩;rw [<-hq] at P ⊢;have HP:=hiD P;have HQ:Hid (w.heap.size<=q):=hiD (by have:=P.ps;omega);have z0:W1.cell? ⟨p,0,none⟩=some (.int .u32 (acl:Int)):=P.cell 0;have z1:W1.cell? ⟨p,1,none⟩=some (.int .u32 (asq:Int)):=P.cell 1;have z2:W1.cell? ⟨p,2,none⟩=some (.int .u8 (akd:Int)):=P.cell 2;have z3:W1.cell? ⟨p,3,none⟩=some (.slice (some ⟨kb,ko,none⟩) L c):=P.cell 3;have z4:W1.cell? ⟨p,4,none⟩=some (.string old):=P.cell 4;have z5:W1.cell? ⟨p,5,none⟩=some (.string new):=P.cell 5;have z6:W1.cell? ⟨p,6,none⟩=some (.int .i64 n):=P.cell 6;have xk:=P.key HK.out.1 HK.out.2;have hLi:(0:Int)<(L:Int):=by have:=HL.out;omega
 clear hW0 hW1 hp hq P;have hG:=get_any HP.out.st k hks;rw [<-HLO.out] at hG;have HG:=hiD hG;clear hG
 go_wp2_with fail
 refine HG.out.mono ?_;rintro e W5 ⟨rfl,b5⟩;obtain ⟨_,_,q5,w5⟩:=HP.out.grew b5;have H5:=hiD (aI w5 q5);clear b5 q5 w5 z0 z1 z2 z3 z4 z5 z6 xk
 cases o with
 |none=>
  have y0:W5.cell? ⟨q,0,none⟩=some (.int .u8 0):=by simpa [reply0] using blk_cell H5.out.2 0
  have y1:W5.cell? ⟨q,1,none⟩=some (.string ⟨#[]⟩):=by simpa [reply0] using blk_cell H5.out.2 1
  have u0:=blk_frozen H5.out.2 0;have u1:=blk_frozen H5.out.2 1;go_wp2;obtain ⟨W9,hW9⟩:∃W9,W9=(W5.setCell ⟨q,0,none⟩ (.int .u8 1)).setCell ⟨q,1,none⟩ (.string ⟨#[]⟩):=⟨_,rfl⟩;rw [<-hW9];have k3:W9.heap[q]?=some (.cells #[.int .u8 1,.string ⟨#[]⟩] 45 (0,0)):=by rw [hW9];exact blk_set (blk_set H5.out.2 0 _) 1 _
  have hb3:Below w.heap.size w W9:=by rw [hW9];exact (H5.out.1.setCell (p:=⟨q,0,none⟩) HQ.out _).setCell (p:=⟨q,1,none⟩) HQ.out _
  have d0:W9.cell? ⟨q,0,none⟩=some (.int .u8 1):=by simpa using blk_cell k3 0
  have d1:W9.cell? ⟨q,1,none⟩=some (.string ⟨#[]⟩):=by simpa using blk_cell k3 1
  exact bodyPost_ret (v:=ReplyV (1,⟨#[]⟩)) (by simp [results,Tryz.results89,go_sem,d0,d1,ReplyV]) rfl ⟨rfl,hb3⟩
 |some v=>
  go_wp2_with fail
  refine (done_any _ _).mono ?_;rintro e W6 ⟨rfl,b6⟩;have q6:=(b6.block q (geS.1 H5.out.2).1).trans H5.out.2;have w6:=H5.out.1.trans (Below.mono b6 H5.out.1.size);have H6:=hiD (aI w6 q6);clear b6 w6 q6;simp only [ReplyV];have y0:W6.cell? ⟨q,0,none⟩=some (.int .u8 0):=by simpa [reply0] using blk_cell H6.out.2 0
  have y1:W6.cell? ⟨q,1,none⟩=some (.string ⟨#[]⟩):=by simpa [reply0] using blk_cell H6.out.2 1
  have u0:=blk_frozen H6.out.2 0;have u1:=blk_frozen H6.out.2 1;go_wp2;obtain ⟨W9,hW9⟩:∃W9,W9=(W6.setCell ⟨q,0,none⟩ (.int .u8 0)).setCell ⟨q,1,none⟩ (.string v):=⟨_,rfl⟩;rw [<-hW9];have k3:W9.heap[q]?=some (.cells #[.int .u8 0,.string v] 45 (0,0)):=by rw [hW9];exact blk_set (blk_set H6.out.2 0 _) 1 _
  have hb3:Below w.heap.size w W9:=by rw [hW9];exact (H6.out.1.setCell (p:=⟨q,0,none⟩) HQ.out _).setCell (p:=⟨q,1,none⟩) HQ.out _
  have d0:W9.cell? ⟨q,0,none⟩=some (.int .u8 0):=by simpa using blk_cell k3 0
  have d1:W9.cell? ⟨q,1,none⟩=some (.string v):=by simpa using blk_cell k3 1
  exact bodyPost_ret (v:=ReplyV (0,v)) (by simp [results,Tryz.results89,go_sem,d0,d1,ReplyV]) rfl ⟨rfl,hb3⟩
theorem doDel_any (R:Nat) (m:Option Nat) (l:List PV) (a:CmdV) (w:World) (h:StQ w R m l) (hl:l.length<=5000) (ha:a.ok w) (k:ByteArray) (ks:List ByteArray) (hk:a.ks=k::ks):
 Calls Tryz.prog 90 #[.pointer (some ⟨R,0,none⟩),a.val] w fun e W'=>e=.returned (match lookP l k with|none=>ReplyV (1,⟨#[]⟩)|some v=>ReplyV (0,v))/\Chg w W' R m (withoutP l k):=by
 have HAA:=hiD ha;obtain ⟨acl,asq,akd,A,L,c,ks0,old,new,n⟩:=a;simp only at hk;subst hk;obtain ⟨kb,ko,e,l1,f1⟩:=ha.has (by simp);simp only at e;subst e;have hk0:=f1 0 (by simp);simp only [List.getElem_cons_zero,Nat.add_zero] at hk0;have hks:k.size<=maxLen:=ha.each k (by simp);have hnew:=ha.new;simp only at hnew;have hL:0<L:=by have:=ha.len;simp only [List.length_cons] at this;omega
 simp only [CmdV.val,CmdV.cells];have H:=hiD h;have HL:=hiD hL;have HLL:=hiD hl;have HK:=hiD (aI l1 hk0);clear h f1 ha l1 hk0 hl
 obtain ⟨r,hr⟩:∃r:Nat × ByteArray,(match lookP l k with|none=>ReplyV (1,⟨#[]⟩)|some v=>ReplyV (0,v))=ReplyV r:=by
  cases lookP l k with
  |none=>exact ⟨(1,⟨#[]⟩),rfl⟩
  |some v=>exact ⟨(0,v),rfl⟩
 obtain ⟨rc,rt⟩:=r;have HRR:=hiD hr;rw [hr];clear hr;go_enter Tryz.func90,Tryz.ntmps90;go_upto_region 1 with (fail)
 obtain ⟨W0,hW0⟩:∃W0,W0=w.alloc (Obj.cells #[.int .u32 (acl:Int),.int .u32 (asq:Int),.int .u8 (akd:Int),.slice (some ⟨kb,ko,none⟩) L c,.string old,.string new,.int .i64 n] 57):=⟨_,rfl⟩;rw [<-hW0];obtain ⟨W1,hW1⟩:∃W1,W1=W0.alloc (Obj.cells #[.int .u8 0,.string ⟨#[]⟩] 45):=⟨_,rfl⟩;rw [<-hW1];have P:=prep H.out hW0 hW1;obtain ⟨p,hp⟩:∃p,p=w.heap.size:=⟨_,rfl⟩;rw [<-hp] at P ⊢;obtain ⟨q,hq⟩:∃q,q=p+1:=⟨_,rfl⟩;rw [<-hq] at P ⊢;have HP:=hiD P;have HQ:Hid (w.heap.size<=q):=hiD (by have:=P.ps;omega);have z0:W1.cell? ⟨p,0,none⟩=some (.int .u32 (acl:Int)):=P.cell 0;have z1:W1.cell? ⟨p,1,none⟩=some (.int .u32 (asq:Int)):=P.cell 1;have z2:W1.cell? ⟨p,2,none⟩=some (.int .u8 (akd:Int)):=P.cell 2;have z3:W1.cell? ⟨p,3,none⟩=some (.slice (some ⟨kb,ko,none⟩) L c):=P.cell 3;have z4:W1.cell? ⟨p,4,none⟩=some (.string old):=P.cell 4;have z5:W1.cell? ⟨p,5,none⟩=some (.string new):=P.cell 5;have z6:W1.cell? ⟨p,6,none⟩=some (.int .i64 n):=P.cell 6;have xk:=P.key HK.out.1 HK.out.2;have hLi:(0:Int)<(L:Int):=by have:=HL.out;omega
 clear hW0 hW1 hp hq P;have hDG:=doGet_any R m l (⟨acl,asq,akd,some ⟨kb,ko,none⟩,L,c,k::ks,old,new,n⟩:CmdV) W1 HP.out.st HLL.out (HAA.out.below HP.out.below) k ks rfl;rw [HRR.out] at hDG;simp only [CmdV.val,CmdV.cells,ReplyV] at hDG;have HG:=hiD hDG;clear hDG
 go_wp2_with fail
 refine HG.out.mono ?_;rintro e W5 ⟨rfl,b5⟩;obtain ⟨s5,p5,q5,w5⟩:=HP.out.grew b5;obtain ⟨V,hV⟩:∃V,V=W5.alloc (Obj.cells #[.int .u8 (rc:Int),.string rt] 45):=⟨_,rfl⟩;have hBV:Below W5.heap.size W5 V:=by rw [hV];exact (Below.refl _ W5).alloc (nLr _) _
 have kr:V.heap[W5.heap.size]?=some (.cells #[.int .u8 (rc:Int),.string rt] 45 (0,0)):=by rw [hV];exact wAh W5 _
 have pV:=(hBV.block p (geS.1 p5).1).trans p5;have qV:=(hBV.block q (geS.1 q5).1).trans q5;have sV:=s5.below hBV;have wV:=w5.trans (Below.mono hBV w5.size);have xkV:=(wV.cell (p:=⟨kb,ko,none⟩) HK.out.1).trans HK.out.2;have hqr:q<W5.heap.size:=(geS.1 q5).1;have hpr:p<W5.heap.size:=(geS.1 p5).1;clear z0 z1 z2 z3 z4 z5 z6 xk;go_upto_region 2 with (fail)
 rw [<-hV];obtain ⟨N,hN⟩:∃N,N=W5.heap.size:=⟨_,rfl⟩;rw [<-hN] at kr hqr hpr ⊢;have z3:V.cell? ⟨p,3,none⟩=some (.slice (some ⟨kb,ko,none⟩) L c):=by simpa using blk_cell pV 3
 have xm:=sV.mp;obtain ⟨W6,hrun,hm6,hg6⟩:=(sV.map.keep (w':=V.drew) (fun _ _=>rfl)).del hks 0;have hg6u:V.grownBy W6 m:=⟨hg6.os,hg6.tape,hg6.output,hg6.size,hg6.block⟩;have hmp:∀b,m=some b->b<w.heap.size:=H.out.blt;have nb:∀x,w.heap.size<=x->m≠some x:=fun x hx e=>absurd (hmp x e) (by omega)
 have hqw:w.heap.size<=q:=HQ.out;have c6:Chg w W6 R m (withoutP l k):=Chg.trans (w:=V) (fun b e=>.inl e) (Only.of_grew wV) ⟨⟨m,⟨(hg6u.block R sV.lt (fun e=>sV.ne R e.symm rfl)).trans sV.cell,hm6⟩,fun _ e=>.inl e⟩,Only.of_grown hg6u (fun j e=>.inr e)⟩;have hNs:N<V.heap.size:=(geS.1 kr).1;have r6:=(hg6u.block N hNs (fun e=>nb N (by omega) e.symm)).trans kr;have q6:=(hg6u.block q (geS.1 qV).1 (fun e=>nb q hqw e.symm)).trans qV;have H6:=hiD (aI c6 (aI r6 q6));clear hV hBV kr pV qV sV wV hm6 hg6 hg6u hmp nb c6 r6 q6 s5 p5 q5 w5 b5 hqw hN hNs hpr hqr
 go_region
 all_goals
  have r0:W6.cell? ⟨N,0,none⟩=some (.int .u8 (rc:Int)):=by simpa using blk_cell H6.out.2.1 0
  have r1:W6.cell? ⟨N,1,none⟩=some (.string rt):=by simpa using blk_cell H6.out.2.1 1
  have KQ:=hiD H6.out.2.2;have HCH:=hiD H6.out.1;have y0:W6.cell? ⟨q,0,none⟩=some (.int .u8 0):=by simpa [reply0] using blk_cell KQ.out 0
  have y1:W6.cell? ⟨q,1,none⟩=some (.string ⟨#[]⟩):=by simpa [reply0] using blk_cell KQ.out 1
  have u0:=blk_frozen KQ.out 0;have u1:=blk_frozen KQ.out 1;go_wp2;obtain ⟨W9,hW9⟩:∃W9,W9=(W6.setCell ⟨q,0,none⟩ (.int .u8 rc)).setCell ⟨q,1,none⟩ (.string rt):=⟨_,rfl⟩;rw [<-hW9];obtain ⟨c9,d0,d1⟩:=reply_end HCH.out KQ.out HQ.out H.out.lt rc rt hW9;exact bodyPost_ret (v:=.agg #[.int .u8 (rc:Int),.string rt]) (by simp [results,Tryz.results90,go_sem,d0,d1]) rfl ⟨by first|rfl|simp,c9⟩
theorem doCas_any (R:Nat) (m:Option Nat) (l:List PV) (a:CmdV) (w:World) (h:StQ w R m l) (hl:l.length<=5000) (ha:a.ok w) (k:ByteArray) (ks:List ByteArray) (hk:a.ks=k::ks):
 Calls Tryz.prog 92 #[.pointer (some ⟨R,0,none⟩),a.val] w fun e W'=>e=.returned (ReplyV (match lookP l k with|none=>(1,⟨#[]⟩)|some v=>if v=a.old then (0,⟨#[]⟩) else (2,⟨#[]⟩)))/\Chg w W' R m (match lookP l k with|none=>l|some v=>if v=a.old then withP l k a.new else l):=by
 have HAA:=hiD ha;obtain ⟨acl,asq,akd,A,L,c,ks0,old,new,n⟩:=a;simp only at hk;subst hk;obtain ⟨kb,ko,e,l1,f1⟩:=ha.has (by simp);simp only at e;subst e;have hk0:=f1 0 (by simp);simp only [List.getElem_cons_zero,Nat.add_zero] at hk0;have hks:k.size<=maxLen:=ha.each k (by simp);have hnew:=ha.new;simp only at hnew;have hL:0<L:=by have:=ha.len;simp only [List.length_cons] at this;omega
 simp only [CmdV.val,CmdV.cells];have H:=hiD h;have HL:=hiD hL;have HLL:=hiD hl;have HK:=hiD (aI l1 hk0);clear h f1 ha l1 hk0 hl;obtain ⟨o,hlo⟩:∃o,o=lookP l k:=⟨_,rfl⟩;have HLO:=hiD hlo;rw [<-hlo];clear hlo;go_enter Tryz.func92,Tryz.ntmps92;go_upto_region 1 with (fail)
 obtain ⟨W0,hW0⟩:∃W0,W0=w.alloc (Obj.cells #[.int .u32 (acl:Int),.int .u32 (asq:Int),.int .u8 (akd:Int),.slice (some ⟨kb,ko,none⟩) L c,.string old,.string new,.int .i64 n] 57):=⟨_,rfl⟩;rw [<-hW0];obtain ⟨W1,hW1⟩:∃W1,W1=W0.alloc (Obj.cells #[.int .u8 0,.string ⟨#[]⟩] 45):=⟨_,rfl⟩;rw [<-hW1];have P:=prep H.out hW0 hW1;obtain ⟨p,hp⟩:∃p,p=w.heap.size:=⟨_,rfl⟩;rw [<-hp] at P ⊢;obtain ⟨q,hq⟩:∃q,q=p+1:=⟨_,rfl⟩;rw [<-hq] at P ⊢;have HP:=hiD P;have HQ:Hid (w.heap.size<=q):=hiD (by have:=P.ps;omega);have z0:W1.cell? ⟨p,0,none⟩=some (.int .u32 (acl:Int)):=P.cell 0;have z1:W1.cell? ⟨p,1,none⟩=some (.int .u32 (asq:Int)):=P.cell 1;have z2:W1.cell? ⟨p,2,none⟩=some (.int .u8 (akd:Int)):=P.cell 2;have z3:W1.cell? ⟨p,3,none⟩=some (.slice (some ⟨kb,ko,none⟩) L c):=P.cell 3;have z4:W1.cell? ⟨p,4,none⟩=some (.string old):=P.cell 4;have z5:W1.cell? ⟨p,5,none⟩=some (.string new):=P.cell 5;have z6:W1.cell? ⟨p,6,none⟩=some (.int .i64 n):=P.cell 6;have xk:=P.key HK.out.1 HK.out.2;have hLi:(0:Int)<(L:Int):=by have:=HL.out;omega
 clear hW0 hW1 hp hq P;have hG:=get_any HP.out.st k hks;rw [<-HLO.out] at hG;have HG:=hiD hG;clear hG
 go_wp2_with fail
 refine HG.out.mono ?_;rintro e W5 ⟨rfl,b5⟩;obtain ⟨s5,p5,q5,w5⟩:=HP.out.grew b5;have H5:=hiD (aI w5 (aI q5 s5));have z0:=blk_cell p5 0;have z1:=blk_cell p5 1;have z2:=blk_cell p5 2;have z3:=blk_cell p5 3;have z4:=blk_cell p5 4;have z5:=blk_cell p5 5;have z6:=blk_cell p5 6;simp at z0 z1 z2 z3 z4 z5 z6;clear b5 p5 q5 w5 s5 xk
 cases o with
 |none=>
  have c5:=Chg.same H.out H5.out.1;have KQ:=hiD H5.out.2.1;have HCH:=hiD c5;have y0:W5.cell? ⟨q,0,none⟩=some (.int .u8 0):=by simpa [reply0] using blk_cell KQ.out 0
  have y1:W5.cell? ⟨q,1,none⟩=some (.string ⟨#[]⟩):=by simpa [reply0] using blk_cell KQ.out 1
  have u0:=blk_frozen KQ.out 0;have u1:=blk_frozen KQ.out 1;go_wp2;obtain ⟨W9,hW9⟩:∃W9,W9=(W5.setCell ⟨q,0,none⟩ (.int .u8 1)).setCell ⟨q,1,none⟩ (.string ⟨#[]⟩):=⟨_,rfl⟩;rw [<-hW9];obtain ⟨c9,d0,d1⟩:=reply_end HCH.out KQ.out HQ.out H.out.lt 1 ⟨#[]⟩ hW9;exact bodyPost_ret (v:=ReplyV (1,⟨#[]⟩)) (by simp [results,Tryz.results92,go_sem,d0,d1,ReplyV]) rfl ⟨by first|rfl|simp,c9⟩
 |some v=>
  by_cases he:v=old
  ·subst he;have hDP:=doPut_any R m l (⟨acl,asq,akd,some ⟨kb,ko,none⟩,L,c,k::ks,v,new,n⟩:CmdV) W5 H5.out.2.2 HLL.out (HAA.out.below H5.out.1) k ks rfl;simp only [CmdV.val,CmdV.cells] at hDP;have HDP:=hiD hDP;have hR:=H.out.lt;have HBT:=hiD H.out.blt;clear hDP
   go_wp2_with fail
   refine HDP.out.mono ?_;rintro e W6 ⟨rfl,h6⟩;have c6:=Chg.trans (fun b e=>.inl e) (Only.of_grew H5.out.1) h6
   have q6:=(h6.only.block q (geS.1 H5.out.2.1).1 (fun e=>by
    have:=HQ.out
    rcases e with e|e
    ·omega
    ·have:=HBT.out q e;omega)).trans H5.out.2.1
   clear h6 z0 z1 z2 z3 z4 z5 z6;simp only [ReplyV];have KQ:=hiD q6;have HCH:=hiD c6;have y0:W6.cell? ⟨q,0,none⟩=some (.int .u8 0):=by simpa [reply0] using blk_cell KQ.out 0
   have y1:W6.cell? ⟨q,1,none⟩=some (.string ⟨#[]⟩):=by simpa [reply0] using blk_cell KQ.out 1
   have u0:=blk_frozen KQ.out 0;have u1:=blk_frozen KQ.out 1;go_wp2;obtain ⟨W9,hW9⟩:∃W9,W9=(W6.setCell ⟨q,0,none⟩ (.int .u8 0)).setCell ⟨q,1,none⟩ (.string ⟨#[]⟩):=⟨_,rfl⟩;rw [<-hW9];obtain ⟨c9,d0,d1⟩:=reply_end HCH.out KQ.out HQ.out H.out.lt 0 ⟨#[]⟩ hW9;exact bodyPost_ret (v:=ReplyV (0,⟨#[]⟩)) (by simp [results,Tryz.results92,go_sem,d0,d1,ReplyV]) rfl ⟨by simp [ReplyV],by simpa using c9⟩
  ·have hne:¬v.toList=old.toList:=fun h=>he (toList_inj9.1 h)
   have hneb:(v.toList==old.toList)=false:=by simpa using hne
   have c5:=Chg.same H.out H5.out.1;have KQ:=hiD H5.out.2.1;have HCH:=hiD c5;have y0:W5.cell? ⟨q,0,none⟩=some (.int .u8 0):=by simpa [reply0] using blk_cell KQ.out 0
   have y1:W5.cell? ⟨q,1,none⟩=some (.string ⟨#[]⟩):=by simpa [reply0] using blk_cell KQ.out 1
   have u0:=blk_frozen KQ.out 0;have u1:=blk_frozen KQ.out 1;go_wp2;obtain ⟨W9,hW9⟩:∃W9,W9=(W5.setCell ⟨q,0,none⟩ (.int .u8 2)).setCell ⟨q,1,none⟩ (.string ⟨#[]⟩):=⟨_,rfl⟩;rw [<-hW9];obtain ⟨c9,d0,d1⟩:=reply_end HCH.out KQ.out HQ.out H.out.lt 2 ⟨#[]⟩ hW9;exact bodyPost_ret (v:=ReplyV (2,⟨#[]⟩)) (by simp [results,Tryz.results92,go_sem,d0,d1,ReplyV]) rfl ⟨by simp [ReplyV],by simpa [he] using c9⟩
theorem lookP_putW (l:List PV) (k:ByteArray) (o:Option ByteArray) (j:ByteArray):lookP (putW l k (o.getD ⟨#[]⟩) o.isSome) j=if j=k then o else lookP l j:=by
 unfold putW
 cases o with
 |none=>simp [lookP_without]
 |some v=>simp [lookP_with]
theorem SortedP.putW {l:List PV} (h:SortedP l) (k v:ByteArray) (is:Bool):SortedP (putW l k v is):=by
 unfold Go.Proofs.YtfjmdkhemnmkpaaGreatDoor.putW
 cases is with
 |true=>simpa using h.with_ k v
 |false=>simpa using h.without k
theorem swap_putW {l:List PV} (h:SortedP l) (a b:ByteArray):putW (putW l a ((lookP l b).getD ⟨#[]⟩) (lookP l b).isSome) b ((lookP l a).getD ⟨#[]⟩) (lookP l a).isSome=swapP l a b:=by
 have hsw:SortedP (swapP l a b):=by
  unfold swapP;exact (((h.without a).without b).put a _).put b _
 refine SortedP.ext ((h.putW a _ _).putW b _ _) hsw fun j=>?_
 rw [lookP_putW,lookP_putW,lookP_swap]
theorem putW_len (l:List PV) (k v:ByteArray) (is:Bool):(putW l k v is).length<=l.length+1:=by
 unfold putW
 cases is with
 |true=>have:=withP_len l k v;simp;omega
 |false=>have:=withoutP_len l k;simp;omega
theorem doSwap_any (R:Nat) (m:Option Nat) (l:List PV) (a:CmdV) (w:World) (h:StQ w R m l) (hl:l.length<=5000) (ha:a.ok w) (k k2:ByteArray) (ks:List ByteArray) (hk:a.ks=k::k2::ks) (hs:SortedP l) (hvz:∀x v,lookP l x=some v->v.size<=1000):
 Calls Tryz.prog 93 #[.pointer (some ⟨R,0,none⟩),a.val] w fun e W'=>e=.returned (ReplyV (0,⟨#[]⟩))/\Chg w W' R m (swapP l k k2):=by
 have HAA:=hiD ha;obtain ⟨acl,asq,akd,A,L,c,ks0,old,new,n⟩:=a;simp only at hk;subst hk;obtain ⟨kb,ko,e,l1,f1⟩:=ha.has (by simp);simp only at e;subst e;have hk0:=f1 0 (by simp);simp only [List.getElem_cons_zero,Nat.add_zero] at hk0;have hks:k.size<=maxLen:=ha.each k (by simp);have hk1:=f1 1 (by simp);simp only [List.getElem_cons_succ,List.getElem_cons_zero] at hk1;have hks2:k2.size<=maxLen:=ha.each k2 (by simp);have HK2:=hiD (aI l1 hk1);have hnew:=ha.new;simp only at hnew;have hL:1<L:=by have:=ha.len;simp only [List.length_cons] at this;omega
 simp only [CmdV.val,CmdV.cells];have H:=hiD h;have HL:=hiD hL;have HLL:=hiD hl;have HK:=hiD (aI l1 hk0);clear h f1 ha l1 hk0 hk1 hl;rw [<-swap_putW hs];obtain ⟨oa,hoa⟩:∃o,o=lookP l k:=⟨_,rfl⟩;obtain ⟨ob,hob⟩:∃o,o=lookP l k2:=⟨_,rfl⟩
 have hva:(oa.getD ⟨#[]⟩).size<=maxLen:=by
  cases hc:lookP l k with
  |none=>rw [hoa,hc];decide
  |some v=>rw [hoa,hc];have:=hvz k v hc;simp only [maxLen,Option.getD_some];omega
 have hvb:(ob.getD ⟨#[]⟩).size<=maxLen:=by
  cases hc:lookP l k2 with
  |none=>rw [hob,hc];decide
  |some v=>rw [hob,hc];have:=hvz k2 v hc;simp only [maxLen,Option.getD_some];omega
 have HOO:=hiD (aI hoa hob);rw [<-hoa,<-hob];obtain ⟨va,hva'⟩:∃v,v=oa.getD ⟨#[]⟩:=⟨_,rfl⟩;obtain ⟨vb,hvb'⟩:∃v,v=ob.getD ⟨#[]⟩:=⟨_,rfl⟩;obtain ⟨ia,hia⟩:∃v,v=oa.isSome:=⟨_,rfl⟩;obtain ⟨ib,hib⟩:∃v,v=ob.isSome:=⟨_,rfl⟩;rw [<-hva'] at hva;rw [<-hvb'] at hvb;rw [<-hva',<-hvb',<-hia,<-hib];have HVV:=hiD (aI (aI hva hvb) (aI (aI hva' hvb') (aI hia hib)));clear hoa hob hva hvb hva' hvb' hia hib hs hvz;go_enter Tryz.func93,Tryz.ntmps93;go_upto_region 1 with (fail)
 obtain ⟨W0,hW0⟩:∃W0,W0=w.alloc (Obj.cells #[.int .u32 (acl:Int),.int .u32 (asq:Int),.int .u8 (akd:Int),.slice (some ⟨kb,ko,none⟩) L c,.string old,.string new,.int .i64 n] 57):=⟨_,rfl⟩;rw [<-hW0];obtain ⟨W1,hW1⟩:∃W1,W1=W0.alloc (Obj.cells #[.int .u8 0,.string ⟨#[]⟩] 45):=⟨_,rfl⟩;rw [<-hW1];have P:=prep H.out hW0 hW1;obtain ⟨p,hp⟩:∃p,p=w.heap.size:=⟨_,rfl⟩;rw [<-hp] at P ⊢;obtain ⟨q,hq⟩:∃q,q=p+1:=⟨_,rfl⟩;rw [<-hq] at P ⊢;have HP:=hiD P;have HQ:Hid (w.heap.size<=q):=hiD (by have:=P.ps;omega);have z0:W1.cell? ⟨p,0,none⟩=some (.int .u32 (acl:Int)):=P.cell 0;have z1:W1.cell? ⟨p,1,none⟩=some (.int .u32 (asq:Int)):=P.cell 1;have z2:W1.cell? ⟨p,2,none⟩=some (.int .u8 (akd:Int)):=P.cell 2;have z3:W1.cell? ⟨p,3,none⟩=some (.slice (some ⟨kb,ko,none⟩) L c):=P.cell 3;have z4:W1.cell? ⟨p,4,none⟩=some (.string old):=P.cell 4;have z5:W1.cell? ⟨p,5,none⟩=some (.string new):=P.cell 5;have z6:W1.cell? ⟨p,6,none⟩=some (.int .i64 n):=P.cell 6;have xk:=P.key HK.out.1 HK.out.2;have xk2:=P.key HK2.out.1 HK2.out.2;have hLi:(1:Int)<(L:Int):=by have:=HL.out;omega
 clear hW0 hW1 hp hq P;have hLi0:(0:Int)<(L:Int):=by have:=HL.out;omega
 have HP1:=hiD HP.out.drew;have HBT:=hiD H.out.blt
 go_region
 all_goals
  have hG:=get_any HP1.out.st k hks;rw [<-HOO.out.1,<-HVV.out.2.1.1,<-HVV.out.2.2.1] at hG;have HG:=hiD hG;clear hG z0 z1 z2 z3 z4 z5 z6 xk xk2
  go_wp2_with fail
  refine HG.out.mono ?_;rintro e W2 ⟨rfl,b2⟩;have hS2:=HP1.out.grew b2;have H2:=hiD hS2;have hG2:=get_any hS2.1 k2 hks2;rw [<-HOO.out.2,<-HVV.out.2.1.2,<-HVV.out.2.2.2] at hG2;have HG2:=hiD hG2;clear hG2 b2 hS2 HG
  go_wp2_with fail
  refine HG2.out.mono ?_;rintro e W3 ⟨rfl,b3⟩;have H3:=hiD (aI (H2.out.1.below b3) (aI ((b3.block q (geS.1 H2.out.2.2.1).1).trans H2.out.2.2.1) (H2.out.2.2.2.trans (Below.mono b3 H2.out.2.2.2.size))));have HM:=hiD (move_any H3.out.1 (by have:=HLL.out;omega) k vb ib hks HVV.out.1.2);clear b3 HG2
  go_wp2_with fail
  refine HM.out.mono ?_;rintro e W4 ⟨rfl,h4⟩;obtain ⟨m4,s4,hm4⟩:=h4.ex;have c4:=Chg.trans (fun b e=>.inl e) (Only.of_grew H3.out.2.2) h4;have hqx:∀x,m=some x->x<w.heap.size:=HBT.out;have hqw:=HQ.out;have hRw:=H.out.lt;have hq3:=(geS.1 H3.out.2.1).1
  have q4:=(h4.only.block q hq3 (fun e=>by
   rcases e with e|e
   ·omega
   ·have:=hqx q e;omega)).trans H3.out.2.1
  have H4:=hiD (aI s4 (aI c4 (aI q4 (aI hm4 (nLl hq3 (nLr _))))));have HM2:=hiD (move_any s4 (by have:=HLL.out;have:=putW_len l k vb ib;omega) k2 va ia hks2 HVV.out.1.1);clear h4 s4 c4 q4 hm4 hqx hqw hRw hq3 HM
  go_wp2_with fail
  refine HM2.out.mono ?_;rintro e W5 ⟨rfl,h5⟩
  have c5:Chg w W5 R m (putW (putW l k vb ib) k2 va ia):=Chg.trans (fun b e=>by
   rcases H4.out.2.2.2.1 b e with e'|e'
   ·exact .inl e'
   ·exact .inr (nLt H3.out.2.2.size e')) H4.out.2.1.only h5
  have q5:=(h5.only.block q (geS.1 H4.out.2.2.1).1 (fun e=>by
   rcases e with e|e
   ·have:=HQ.out;have:=H.out.lt;omega
   ·rcases H4.out.2.2.2.1 q e with e'|e'
    ·have:=HBT.out q e';have:=HQ.out;omega
    ·have:=(geS.1 H3.out.2.1).1;omega)).trans H4.out.2.2.1
  have H5:=hiD (aI c5 q5);clear c5 q5 h5 HM2
  go_wp2_with fail
  refine (done_any _ _).mono ?_;rintro e W6 ⟨rfl,b6⟩;have c6:=H5.out.1.grew b6;have q6:=(b6.block q (geS.1 H5.out.2).1).trans H5.out.2;clear b6;simp only [ReplyV];have KQ:=hiD q6;have HCH:=hiD c6;have y0:W6.cell? ⟨q,0,none⟩=some (.int .u8 0):=by simpa [reply0] using blk_cell KQ.out 0
  have y1:W6.cell? ⟨q,1,none⟩=some (.string ⟨#[]⟩):=by simpa [reply0] using blk_cell KQ.out 1
  have u0:=blk_frozen KQ.out 0;have u1:=blk_frozen KQ.out 1;go_wp2;obtain ⟨W9,hW9⟩:∃W9,W9=(W6.setCell ⟨q,0,none⟩ (.int .u8 0)).setCell ⟨q,1,none⟩ (.string ⟨#[]⟩):=⟨_,rfl⟩;rw [<-hW9];obtain ⟨c9,d0,d1⟩:=reply_end HCH.out KQ.out HQ.out H.out.lt 0 ⟨#[]⟩ hW9;exact bodyPost_ret (v:=ReplyV (0,⟨#[]⟩)) (by simp [results,Tryz.results93,go_sem,d0,d1,ReplyV]) rfl ⟨by first|rfl|simp,c9⟩
theorem doClear_any (R:Nat) (m:Option Nat) (l:List PV) (a:CmdV) (w:World) (h:StQ w R m l) (hl:l.length<=5000) (ha:a.ok w) (hn:a.ks.length<=16) (hT:TabK w):
 Calls Tryz.prog 95 #[.pointer (some ⟨R,0,none⟩),a.val] w fun e W'=>e=.returned (ReplyV (0,str (decI ((l.length:Int) - (restP l a.ks).length))))/\Chg w W' R m (restP l a.ks):=by
 obtain ⟨acl,asq,akd,KA,L,c,ks,old,new,n⟩:=a;simp only at hn;have HAS:=hiD ha.has;have HLN:Hid (L=ks.length):=hiD ha.len;have HEA:Hid (∀k∈ks,k.size<=maxLen):=hiD ha.each;have hLi:(L:Int)<=16:=by have:=HLN.out;omega
 have H:=hiD h;have HT:=hiD hT;obtain ⟨B,hB⟩:∃B,B=l.length:=⟨_,rfl⟩;have HBL:=hiD (aI hB hl);simp only [CmdV.val,CmdV.cells];rw [<-hB];clear h ha hn hT hl hB;go_enter Tryz.func95,Tryz.ntmps95;go_upto_region 1 with (fail)
 obtain ⟨W0,hW0⟩:∃W0,W0=w.alloc (Obj.cells #[.int .u32 (acl:Int),.int .u32 (asq:Int),.int .u8 (akd:Int),.slice KA L c,.string old,.string new,.int .i64 n] 57):=⟨_,rfl⟩;rw [<-hW0];obtain ⟨W1,hW1⟩:∃W1,W1=W0.alloc (Obj.cells #[.int .u8 0,.string ⟨#[]⟩] 45):=⟨_,rfl⟩;rw [<-hW1];have P:=prep H.out hW0 hW1;obtain ⟨p,hp⟩:∃p,p=w.heap.size:=⟨_,rfl⟩;rw [<-hp] at P ⊢;obtain ⟨q,hq⟩:∃q,q=p+1:=⟨_,rfl⟩;rw [<-hq] at P ⊢;have HP:=hiD P;have HQ:Hid (w.heap.size<=q/\w.heap.size<=p):=hiD (by have:=P.ps;omega);have HBT:=hiD H.out.blt;have HLE:=hiD (len_any P.st);have z3:W1.cell? ⟨p,3,none⟩=some (.slice KA L c):=P.cell 3;clear hW0 hW1 hp hq P;rw [<-HBL.out.1] at HLE
 go_wp2_with fail
 refine HLE.out.mono ?_;rintro e W2 ⟨rfl,rfl⟩;clear HLE;go_wp2
 go_loopw [13] (fun i wr=>∃j:Nat,j<=L/\i=.int .i64 (j:Int)/\Hid (StQ wr R m (restP l (ks.take j)))/\Hid (Only (fun x=>m=some x) W2 wr)) (fun i _=>L - (intOf i).toNat)
 case atStart=>exact ⟨0,Nat.zero_le _,rfl,hiD HP.out.st,hiD (Only.refl _ _)⟩
 case round=>
  obtain ⟨j,hj,rfl,HS,HO⟩:=hrel
  by_cases hlt:j<L
  ·have hji:(j:Int)<L:=by omega
   have hj1:j<ks.length:=by have:=HLN.out;omega
   obtain ⟨kb,ko,e1,l1,f1⟩:=HAS.out (by rintro rfl;simp at hj1);subst e1;have g1:=f1 j hj1;obtain ⟨t,ht⟩:∃t,t=ks[j]:=⟨_,rfl⟩;rw [<-ht] at g1
   have hkw:wr.heap[kb]?=w.heap[kb]?:=(HO.out.block kb (nLl l1 HP.out.below.size) (fun e=>by
    obtain ⟨es,clock,hb⟩:=H.out.map.blk e;have hc:w.cell? ⟨kb,ko+j,none⟩=none:=by simp [World.cell?,hb]
    rw [hc] at g1
    cases g1)).trans (HP.out.below.block kb l1)
   have g2:wr.cell? ⟨kb,ko+j,none⟩=some (.string t):=(World.cell?_of_block hkw).trans g1;have hts:t.size<=maxLen:=HEA.out t (by rw [ht];exact List.getElem_mem hj1);have hJ:restP l (ks.take (j+1))=withoutP (restP l (ks.take j)) t:=by rw [restP_succ hj1,<-ht]
   have xm:=HS.out.mp;obtain ⟨W3,hrun,hm3,hg3⟩:=HS.out.map.del hts 0;have HR3:Hid (StQ W3 R m (restP l (ks.take (j+1)))/\Only (fun x=>m=some x) W2 W3):=hiD ⟨⟨(hg3.block R HS.out.lt (fun e=>HS.out.ne R e.symm rfl)).trans HS.out.cell,by rw [hJ];exact hm3⟩,HO.out.grown hg3 (fun k e=>.inl e)⟩;clear f1 g1 l1 ht hJ hm3 hg3 hkw;go_wp2;exact ⟨⟨j+1,by omega,by congr 1,hiD HR3.out.1,hiD HR3.out.2⟩,by simp only [intOf];omega⟩
  ·have hji:¬(j:Int)<L:=by omega
   obtain rfl:j=L:=by omega
   have hs:=HS.out;rw [List.take_of_length_le (by have:=HLN.out;omega)] at hs;have HS2:=hiD hs;have HLE2:=len_any hs;obtain ⟨N,hN⟩:∃N,N=(restP l ks).length:=⟨_,rfl⟩;rw [<-hN] at HLE2;have hNB:N<=B:=by rw [hN,HBL.out.1];exact restP_len l ks
   have hB5:B<=5000:=by rw [HBL.out.1];exact HBL.out.2
   obtain ⟨D,hD⟩:∃D:Int,D=(B:Int) - N:=⟨_,rfl⟩;have hwr:IntKind.i64.wrap ((B:Int) - (N:Int))=D:=by rw [hD];exact wrap_i64 (by omega) (by omega)
   have HLX:=hiD HLE2;have HDD:=hiD (aI hD (aI hN (show -9223372036854775808<=D/\D<=9223372036854775807 by omega)));have hmp:∀x,m=some x->x<w.heap.size:=HBT.out;have hqq:=HQ.out;have hsz:=HP.out.size;have hps:=HP.out.ps;have q2:wr.heap[q]?=some (.cells reply0 45 (0,0)):=(HO.out.block q (by omega) (fun e=>by have:=hmp q e;omega)).trans HP.out.rep;have o2:Only (fun x=>x=R\/m=some x) w wr:=⟨HO.out.os.trans HP.out.below.os,HO.out.tape.trans HP.out.below.tape,HO.out.output.trans HP.out.below.output,nLt HP.out.below.size HO.out.size,fun x hx hn=>(HO.out.block x (nLl hx HP.out.below.size) (fun e=>hn (.inr e))).trans (HP.out.below.block x hx)⟩;have c2:Chg w wr R m (restP l ks):=⟨⟨m,hs,fun _ e=>.inl e⟩,o2⟩;have H2:=hiD (aI c2 q2)
   have hTw:TabK wr:=by
    have hT1:=HT.out;have hkey:=hT1.keys
    have hgb:∀{nm:String} {cs:Array Value},w.var? Tryz.prog nm=some cs->wr.var? Tryz.prog nm=some cs:=fun {nm cs} hv=>var_keep hv (fun g hg hc=>by
     have e1:=HO.out.block g (nLl hg HP.out.below.size) (fun e=>by
      obtain ⟨es,clock,hb⟩:=H.out.map.blk e;obtain ⟨cs',t',u',hcc⟩:=hc;rw [hb] at hcc
      cases hcc)
     exact e1.trans (HP.out.below.block g hg))
    refine ⟨⟨nLl hkey.1 (nLt HP.out.below.size HO.out.size),fun i hi=>?_⟩,hgb hT1.pow,let ⟨tp,p,e⟩:=hT1.syn;⟨tp,p,hgb e⟩,let ⟨tp,p,e⟩:=hT1.ran;⟨tp,p,hgb e⟩⟩
    have hb:wr.heap[(0:Nat)]?=w.heap[(0:Nat)]?:=(HO.out.block _ (nLl hkey.1 HP.out.below.size) (fun e=>by
     obtain ⟨es,clock,hb⟩:=H.out.map.blk e;have hc:w.cell? ⟨0,0*2,none⟩=none:=by simp [World.cell?,hb]
     have:=(hkey.2 0 (by omega)).1;rw [hc] at this
     cases this)).trans (HP.out.below.block _ hkey.1)
    exact ⟨(World.cell?_of_block hb).trans (hkey.2 i hi).1,(World.cell?_of_block hb).trans (hkey.2 i hi).2⟩
   have HIT:=hiD (itoa_any D HDD.out.2.2.1 HDD.out.2.2.2 wr hTw);clear hs HLE2 hN hNB hB5 hD hmp hqq hsz hps q2 o2 c2 hTw
   go_wp2_with fail
   refine HLX.out.mono ?_;rintro e W4 ⟨rfl,rfl⟩
   go_wp2_with fail
   refine HIT.out.mono ?_;rintro e W5 ⟨rfl,b5⟩;have H5:=hiD (aI (H2.out.1.grew b5) ((b5.block q (geS.1 H2.out.2).1).trans H2.out.2));clear b5 hwr
   go_wp2_with fail
   refine (done_any _ _).mono ?_;rintro e W6 ⟨rfl,b6⟩;have c6:=H5.out.1.grew b6;have q6:=(b6.block q (geS.1 H5.out.2).1).trans H5.out.2;clear b6;simp only [ReplyV];have KQ:=hiD q6;have HCH:=hiD c6;have y0:W6.cell? ⟨q,0,none⟩=some (.int .u8 0):=by simpa [reply0] using blk_cell KQ.out 0
   have y1:W6.cell? ⟨q,1,none⟩=some (.string ⟨#[]⟩):=by simpa [reply0] using blk_cell KQ.out 1
   have u0:=blk_frozen KQ.out 0;have u1:=blk_frozen KQ.out 1;go_wp2;obtain ⟨W9,hW9⟩:∃W9,W9=(W6.setCell ⟨q,0,none⟩ (.int .u8 0)).setCell ⟨q,1,none⟩ (.string (str (decI D))):=⟨_,rfl⟩;rw [<-hW9];obtain ⟨c9,d0,d1⟩:=reply_end HCH.out KQ.out HQ.out.1 H.out.lt 0 (str (decI D)) hW9;exact bodyPost_ret (v:=.agg #[.int .u8 0,.string (str (decI D))]) (by simp [results,Tryz.results95,go_sem,d0,d1]) rfl ⟨by rw [HDD.out.1,HDD.out.2.1];rfl,c9⟩
theorem num_zero:numM [48]=some 0:=by
 have:=numM_decI (v:=0) (by decide) (by decide)
 rwa [show decI 0=[48] by rw [decI,if_neg (by decide),show (0:Int).toNat=0 from rfl,decN_lt (by decide)];rfl] at this
theorem addP_no {l:List PV} {k:ByteArray} {n:Int} (h:seedP l k=none):addP l k n=(l,2,⟨#[]⟩):=by rw [addP,sumP_none h]
theorem addP_bad {l:List PV} {k:ByteArray} {n m:Int} (h:seedP l k=some m) (hs:sumB m n=none):addP l k n=(l,2,⟨#[]⟩):=by rw [addP,sumP_some h,show (if -9223372036854775808<=m+n/\m+n<=9223372036854775807 then some (m+n) else none)=sumB m n from rfl,hs]
theorem addP_ok {l:List PV} {k:ByteArray} {n m s:Int} (h:seedP l k=some m) (hs:sumB m n=some s):addP l k n=(withP l k (str (decI s)),0,str (decI s)):=by rw [addP,sumP_some h,show (if -9223372036854775808<=m+n/\m+n<=9223372036854775807 then some (m+n) else none)=sumB m n from rfl,hs]
theorem sumB_range {m n s:Int} (h:sumB m n=some s): -9223372036854775808<=s/\s<=9223372036854775807:=by
 unfold sumB at h
 split at h
 ·cases h;assumption
 ·cases h
theorem doAdd_any (R:Nat) (m:Option Nat) (l:List PV) (a:CmdV) (w:World) (h:StQ w R m l) (hl:l.length<=5000) (ha:a.ok w) (k:ByteArray) (ks:List ByteArray) (hk:a.ks=k::ks) (hT:TabK w) (hvz:∀x v,lookP l x=some v->v.size<=1000):
 Calls Tryz.prog 91 #[.pointer (some ⟨R,0,none⟩),a.val] w fun e W'=>e=.returned (ReplyV (addP l k a.n).2)/\Chg w W' R m (addP l k a.n).1:=by
 have HAA:=hiD ha;obtain ⟨acl,asq,akd,A,L,c,ks0,old,new,n⟩:=a;simp only at hk;subst hk;obtain ⟨kb,ko,e,l1,f1⟩:=ha.has (by simp);simp only at e;subst e;have hk0:=f1 0 (by simp);simp only [List.getElem_cons_zero,Nat.add_zero] at hk0;have hks:k.size<=maxLen:=ha.each k (by simp);have hnew:=ha.new;simp only at hnew;have hL:0<L:=by have:=ha.len;simp only [List.length_cons] at this;omega
 simp only [CmdV.val,CmdV.cells];have H:=hiD h;have HL:=hiD hL;have HLL:=hiD hl;have HK:=hiD (aI l1 hk0);clear h f1 ha l1 hk0 hl;obtain ⟨r,hr⟩:∃r,r=addP l k n:=⟨_,rfl⟩;have HRR:=hiD hr;rw [<-hr];have HN64:Hid (-9223372036854775808<=n/\n<=9223372036854775807):=hiD HAA.out.n;have HT:=hiD hT;have HVZ:=hiD hvz;have HBT:=hiD H.out.blt;clear hr hT hvz;go_enter Tryz.func91,Tryz.ntmps91;go_upto_region 1 with (fail)
 obtain ⟨W0,hW0⟩:∃W0,W0=w.alloc (Obj.cells #[.int .u32 (acl:Int),.int .u32 (asq:Int),.int .u8 (akd:Int),.slice (some ⟨kb,ko,none⟩) L c,.string old,.string new,.int .i64 n] 57):=⟨_,rfl⟩;rw [<-hW0];obtain ⟨W1,hW1⟩:∃W1,W1=W0.alloc (Obj.cells #[.int .u8 0,.string ⟨#[]⟩] 45):=⟨_,rfl⟩;rw [<-hW1];have P:=prep H.out hW0 hW1;obtain ⟨p,hp⟩:∃p,p=w.heap.size:=⟨_,rfl⟩;rw [<-hp] at P ⊢;obtain ⟨q,hq⟩:∃q,q=p+1:=⟨_,rfl⟩;rw [<-hq] at P ⊢;have HP:=hiD P;have HQ:Hid (w.heap.size<=q):=hiD (by have:=P.ps;omega);have z0:W1.cell? ⟨p,0,none⟩=some (.int .u32 (acl:Int)):=P.cell 0;have z1:W1.cell? ⟨p,1,none⟩=some (.int .u32 (asq:Int)):=P.cell 1;have z2:W1.cell? ⟨p,2,none⟩=some (.int .u8 (akd:Int)):=P.cell 2;have z3:W1.cell? ⟨p,3,none⟩=some (.slice (some ⟨kb,ko,none⟩) L c):=P.cell 3;have z4:W1.cell? ⟨p,4,none⟩=some (.string old):=P.cell 4;have z5:W1.cell? ⟨p,5,none⟩=some (.string new):=P.cell 5;have z6:W1.cell? ⟨p,6,none⟩=some (.int .i64 n):=P.cell 6;have xk:=P.key HK.out.1 HK.out.2;have hLi:(0:Int)<(L:Int):=by have:=HL.out;omega
 clear hW0 hW1 hp hq P;have hG:=get_any HP.out.st k hks;obtain ⟨o,ho⟩:∃o,o=lookP l k:=⟨_,rfl⟩;rw [<-ho] at hG;have HG:=hiD hG;have HO:=hiD ho;clear hG ho
 go_wp2_with fail
 refine HG.out.mono ?_;rintro e W5 ⟨rfl,b5⟩;obtain ⟨s5,p5,q5,w5⟩:=HP.out.grew b5;have H5:=hiD (aI w5 (aI q5 (aI s5 p5)));have z3:W5.cell? ⟨p,3,none⟩=some (.slice (some ⟨kb,ko,none⟩) L c):=by simpa using blk_cell p5 3
 have z6:W5.cell? ⟨p,6,none⟩=some (.int .i64 n):=by simpa using blk_cell p5 6
 have xk:=(w5.cell (p:=⟨kb,ko,none⟩) HK.out.1).trans HK.out.2;clear b5 p5 q5 w5 s5 z0 z1 z2 z4 z5 HG
 cases o with
 |none=>
  have HSEED:Hid (seedP l k=numM (⟨#[48]⟩:ByteArray).data.toList):=hiD (by rw [seedP,<-HO.out];exact num_zero.symm);have HVS:Hid ((⟨#[48]⟩:ByteArray).size<=100000):=hiD (by decide);clear z3 z6 xk;have HPA:=hiD (parse_any (⟨#[48]⟩:ByteArray) HVS.out W5 (HT.out.grew H5.out.1))
  go_wp2_with fail
  refine HPA.out.mono ?_;rintro e W6 ⟨rfl,b6⟩;have w6:=H5.out.1.trans (Below.mono b6 H5.out.1.size);have q6:=(b6.block q (geS.1 H5.out.2.1).1).trans H5.out.2.1;have p6:=(b6.block p (geS.1 H5.out.2.2.2).1).trans H5.out.2.2.2;have s6:=H5.out.2.2.1.below b6;have H6:=hiD (aI w6 (aI q6 s6));have z3:W6.cell? ⟨p,3,none⟩=some (.slice (some ⟨kb,ko,none⟩) L c):=by simpa using blk_cell p6 3
  have z6:W6.cell? ⟨p,6,none⟩=some (.int .i64 n):=by simpa using blk_cell p6 6
  have HP6:=hiD p6;clear b6 w6 q6 p6 s6 HPA;obtain ⟨x,hx⟩:∃x,x=numM (⟨#[48]⟩:ByteArray).data.toList:=⟨_,rfl⟩;rw [<-hx]
  have hxr: -9223372036854775808<=x.getD 0/\x.getD 0<=9223372036854775807:=by
   cases hc:numM (⟨#[48]⟩:ByteArray).data.toList with
   |none=>rw [hx,hc];decide
   |some m=>rw [hx,hc];exact numM_range hc
  have HSX:=hiD (HSEED.out.trans hx.symm);have HSU:=hiD (sum_any (x.getD 0) n hxr HN64.out W6);clear hx hxr
  go_wp2_with fail
  refine HSU.out.mono ?_;rintro e W7 ⟨rfl,rfl⟩;clear HSU
  cases x with
  |none=>
   obtain rfl:=HRR.out.trans (addP_no HSX.out);have c5:=Chg.same H.out H6.out.1;simp only [Option.getD_none,Option.isSome_none];have KQ:=hiD H6.out.2.1;have HCH:=hiD c5;have y0:W7.cell? ⟨q,0,none⟩=some (.int .u8 0):=by simpa [reply0] using blk_cell KQ.out 0
   have y1:W7.cell? ⟨q,1,none⟩=some (.string ⟨#[]⟩):=by simpa [reply0] using blk_cell KQ.out 1
   have u0:=blk_frozen KQ.out 0;have u1:=blk_frozen KQ.out 1;go_wp2;obtain ⟨W9,hW9⟩:∃W9,W9=(W7.setCell ⟨q,0,none⟩ (.int .u8 2)).setCell ⟨q,1,none⟩ (.string ⟨#[]⟩):=⟨_,rfl⟩;rw [<-hW9];obtain ⟨c9,d0,d1⟩:=reply_end HCH.out KQ.out HQ.out H.out.lt 2 ⟨#[]⟩ hW9;exact bodyPost_ret (v:=ReplyV (2,⟨#[]⟩)) (by simp [results,Tryz.results91,go_sem,d0,d1,ReplyV]) rfl ⟨by first|rfl|simp,c9⟩
  |some m1=>
   simp only [Option.getD_some,Option.isSome_some];obtain ⟨y,hy⟩:∃y,y=sumB m1 n:=⟨_,rfl⟩;rw [<-hy];have HSY:=hiD hy.symm;clear hy
   cases y with
   |none=>
    obtain rfl:=HRR.out.trans (addP_bad HSX.out HSY.out);have c5:=Chg.same H.out H6.out.1;simp only [Option.getD_none,Option.isSome_none];have KQ:=hiD H6.out.2.1;have HCH:=hiD c5;have y0:W7.cell? ⟨q,0,none⟩=some (.int .u8 0):=by simpa [reply0] using blk_cell KQ.out 0
    have y1:W7.cell? ⟨q,1,none⟩=some (.string ⟨#[]⟩):=by simpa [reply0] using blk_cell KQ.out 1
    have u0:=blk_frozen KQ.out 0;have u1:=blk_frozen KQ.out 1;go_wp2;obtain ⟨W9,hW9⟩:∃W9,W9=(W7.setCell ⟨q,0,none⟩ (.int .u8 2)).setCell ⟨q,1,none⟩ (.string ⟨#[]⟩):=⟨_,rfl⟩;rw [<-hW9];obtain ⟨c9,d0,d1⟩:=reply_end HCH.out KQ.out HQ.out H.out.lt 2 ⟨#[]⟩ hW9;exact bodyPost_ret (v:=ReplyV (2,⟨#[]⟩)) (by simp [results,Tryz.results91,go_sem,d0,d1,ReplyV]) rfl ⟨by first|rfl|simp,c9⟩
   |some s1=>
    obtain rfl:=HRR.out.trans (addP_ok HSX.out HSY.out);simp only [Option.getD_some,Option.isSome_some];have hs1:=sumB_range HSY.out;have HFM:=hiD (format_any s1 hs1.1 hs1.2 W7 (HT.out.grew H6.out.1));have hsl:=decI_len hs1.1 hs1.2;obtain ⟨S,hS⟩:∃S,S=str (decI s1):=⟨_,rfl⟩;rw [<-hS] at HFM;have hSz:S.size<=maxLen:=by rw [hS];simp only [maxLen];show (decI s1).toArray.size<=_;simp;omega
    have HSZ:=hiD (aI hSz hS);clear hs1 hsl hS hSz z6
    go_wp2_with fail
    refine HFM.out.mono ?_;rintro e W8 ⟨rfl,b8⟩;have w8:=H6.out.1.trans (Below.mono b8 H6.out.1.size);have q8:=(b8.block q (geS.1 H6.out.2.1).1).trans H6.out.2.1;have s8:=H6.out.2.2.below b8;have p8:=(b8.block p (geS.1 HP6.out).1).trans HP6.out;have z3:W8.cell? ⟨p,3,none⟩=some (.slice (some ⟨kb,ko,none⟩) L c):=by simpa using blk_cell p8 3
    have xk:=(w8.cell (p:=⟨kb,ko,none⟩) HK.out.1).trans HK.out.2;have HST:=hiD (set_any s8 (by have:=HLL.out;omega) k S hks HSZ.out.1);have H8:=hiD (aI w8 (aI q8 s8));clear b8 w8 q8 s8 p8 HFM
    go_wp2_with fail
    refine HST.out.mono ?_;rintro e W9 ⟨rfl,h9⟩;have c9:=Chg.trans (fun b e=>.inl e) (Only.of_grew H8.out.1) h9;have hRl:=H.out.lt
    have q9:=(h9.only.block q (geS.1 H8.out.2.1).1 (fun e=>by
     have:=HQ.out
     rcases e with e|e
     ·omega
     ·have:=HBT.out q e;omega)).trans H8.out.2.1
    have H9:=hiD (aI c9 q9);clear h9 c9 q9 hRl HST xk
    go_wp2_with fail
    refine (done_any _ _).mono ?_;rintro e W10 ⟨rfl,b10⟩;have c10:=H9.out.1.grew b10;have q10:=(b10.block q (geS.1 H9.out.2).1).trans H9.out.2;clear b10;simp only [ReplyV];rw [HSZ.out.2];have KQ:=hiD q10;have HCH:=hiD (HSZ.out.2 ▸ c10);have y0:W10.cell? ⟨q,0,none⟩=some (.int .u8 0):=by simpa [reply0] using blk_cell KQ.out 0
    have y1:W10.cell? ⟨q,1,none⟩=some (.string ⟨#[]⟩):=by simpa [reply0] using blk_cell KQ.out 1
    have u0:=blk_frozen KQ.out 0;have u1:=blk_frozen KQ.out 1;go_wp2;obtain ⟨W19,hW19⟩:∃W19,W19=(W10.setCell ⟨q,0,none⟩ (.int .u8 0)).setCell ⟨q,1,none⟩ (.string (str (decI s1))):=⟨_,rfl⟩;rw [<-hW19];obtain ⟨c9,d0,d1⟩:=reply_end HCH.out KQ.out HQ.out H.out.lt 0 (str (decI s1)) hW19;exact bodyPost_ret (v:=ReplyV (0,(str (decI s1)))) (by simp [results,Tryz.results91,go_sem,d0,d1,ReplyV]) rfl ⟨by first|rfl|simp,c9⟩
 |some v=>
  have HSEED:Hid (seedP l k=numM v.data.toList):=hiD (by rw [seedP,<-HO.out]);have HVS:Hid (v.size<=100000):=hiD (by have:=HVZ.out k v HO.out.symm;omega);clear z3 z6 xk;have HPA:=hiD (parse_any v HVS.out W5 (HT.out.grew H5.out.1))
  go_wp2_with fail
  refine HPA.out.mono ?_;rintro e W6 ⟨rfl,b6⟩;have w6:=H5.out.1.trans (Below.mono b6 H5.out.1.size);have q6:=(b6.block q (geS.1 H5.out.2.1).1).trans H5.out.2.1;have p6:=(b6.block p (geS.1 H5.out.2.2.2).1).trans H5.out.2.2.2;have s6:=H5.out.2.2.1.below b6;have H6:=hiD (aI w6 (aI q6 s6));have z3:W6.cell? ⟨p,3,none⟩=some (.slice (some ⟨kb,ko,none⟩) L c):=by simpa using blk_cell p6 3
  have z6:W6.cell? ⟨p,6,none⟩=some (.int .i64 n):=by simpa using blk_cell p6 6
  have HP6:=hiD p6;clear b6 w6 q6 p6 s6 HPA;obtain ⟨x,hx⟩:∃x,x=numM v.data.toList:=⟨_,rfl⟩;rw [<-hx]
  have hxr: -9223372036854775808<=x.getD 0/\x.getD 0<=9223372036854775807:=by
   cases hc:numM v.data.toList with
   |none=>rw [hx,hc];decide
   |some m=>rw [hx,hc];exact numM_range hc
  have HSX:=hiD (HSEED.out.trans hx.symm);have HSU:=hiD (sum_any (x.getD 0) n hxr HN64.out W6);clear hx hxr
  go_wp2_with fail
  refine HSU.out.mono ?_;rintro e W7 ⟨rfl,rfl⟩;clear HSU
  cases x with
  |none=>
   obtain rfl:=HRR.out.trans (addP_no HSX.out);have c5:=Chg.same H.out H6.out.1;simp only [Option.getD_none,Option.isSome_none];have KQ:=hiD H6.out.2.1;have HCH:=hiD c5;have y0:W7.cell? ⟨q,0,none⟩=some (.int .u8 0):=by simpa [reply0] using blk_cell KQ.out 0
   have y1:W7.cell? ⟨q,1,none⟩=some (.string ⟨#[]⟩):=by simpa [reply0] using blk_cell KQ.out 1
   have u0:=blk_frozen KQ.out 0;have u1:=blk_frozen KQ.out 1;go_wp2;obtain ⟨W9,hW9⟩:∃W9,W9=(W7.setCell ⟨q,0,none⟩ (.int .u8 2)).setCell ⟨q,1,none⟩ (.string ⟨#[]⟩):=⟨_,rfl⟩;rw [<-hW9];obtain ⟨c9,d0,d1⟩:=reply_end HCH.out KQ.out HQ.out H.out.lt 2 ⟨#[]⟩ hW9;exact bodyPost_ret (v:=ReplyV (2,⟨#[]⟩)) (by simp [results,Tryz.results91,go_sem,d0,d1,ReplyV]) rfl ⟨by first|rfl|simp,c9⟩
  |some m1=>
   simp only [Option.getD_some,Option.isSome_some];obtain ⟨y,hy⟩:∃y,y=sumB m1 n:=⟨_,rfl⟩;rw [<-hy];have HSY:=hiD hy.symm;clear hy
   cases y with
   |none=>
    obtain rfl:=HRR.out.trans (addP_bad HSX.out HSY.out);have c5:=Chg.same H.out H6.out.1;simp only [Option.getD_none,Option.isSome_none];have KQ:=hiD H6.out.2.1;have HCH:=hiD c5;have y0:W7.cell? ⟨q,0,none⟩=some (.int .u8 0):=by simpa [reply0] using blk_cell KQ.out 0
    have y1:W7.cell? ⟨q,1,none⟩=some (.string ⟨#[]⟩):=by simpa [reply0] using blk_cell KQ.out 1
    have u0:=blk_frozen KQ.out 0;have u1:=blk_frozen KQ.out 1;go_wp2;obtain ⟨W9,hW9⟩:∃W9,W9=(W7.setCell ⟨q,0,none⟩ (.int .u8 2)).setCell ⟨q,1,none⟩ (.string ⟨#[]⟩):=⟨_,rfl⟩;rw [<-hW9];obtain ⟨c9,d0,d1⟩:=reply_end HCH.out KQ.out HQ.out H.out.lt 2 ⟨#[]⟩ hW9;exact bodyPost_ret (v:=ReplyV (2,⟨#[]⟩)) (by simp [results,Tryz.results91,go_sem,d0,d1,ReplyV]) rfl ⟨by first|rfl|simp,c9⟩
   |some s1=>
    obtain rfl:=HRR.out.trans (addP_ok HSX.out HSY.out);simp only [Option.getD_some,Option.isSome_some];have hs1:=sumB_range HSY.out;have HFM:=hiD (format_any s1 hs1.1 hs1.2 W7 (HT.out.grew H6.out.1));have hsl:=decI_len hs1.1 hs1.2;obtain ⟨S,hS⟩:∃S,S=str (decI s1):=⟨_,rfl⟩;rw [<-hS] at HFM;have hSz:S.size<=maxLen:=by rw [hS];simp only [maxLen];show (decI s1).toArray.size<=_;simp;omega
    have HSZ:=hiD (aI hSz hS);clear hs1 hsl hS hSz z6
    go_wp2_with fail
    refine HFM.out.mono ?_;rintro e W8 ⟨rfl,b8⟩;have w8:=H6.out.1.trans (Below.mono b8 H6.out.1.size);have q8:=(b8.block q (geS.1 H6.out.2.1).1).trans H6.out.2.1;have s8:=H6.out.2.2.below b8;have p8:=(b8.block p (geS.1 HP6.out).1).trans HP6.out;have z3:W8.cell? ⟨p,3,none⟩=some (.slice (some ⟨kb,ko,none⟩) L c):=by simpa using blk_cell p8 3
    have xk:=(w8.cell (p:=⟨kb,ko,none⟩) HK.out.1).trans HK.out.2;have HST:=hiD (set_any s8 (by have:=HLL.out;omega) k S hks HSZ.out.1);have H8:=hiD (aI w8 (aI q8 s8));clear b8 w8 q8 s8 p8 HFM
    go_wp2_with fail
    refine HST.out.mono ?_;rintro e W9 ⟨rfl,h9⟩;have c9:=Chg.trans (fun b e=>.inl e) (Only.of_grew H8.out.1) h9;have hRl:=H.out.lt
    have q9:=(h9.only.block q (geS.1 H8.out.2.1).1 (fun e=>by
     have:=HQ.out
     rcases e with e|e
     ·omega
     ·have:=HBT.out q e;omega)).trans H8.out.2.1
    have H9:=hiD (aI c9 q9);clear h9 c9 q9 hRl HST xk
    go_wp2_with fail
    refine (done_any _ _).mono ?_;rintro e W10 ⟨rfl,b10⟩;have c10:=H9.out.1.grew b10;have q10:=(b10.block q (geS.1 H9.out.2).1).trans H9.out.2;clear b10;simp only [ReplyV];rw [HSZ.out.2];have KQ:=hiD q10;have HCH:=hiD (HSZ.out.2 ▸ c10);have y0:W10.cell? ⟨q,0,none⟩=some (.int .u8 0):=by simpa [reply0] using blk_cell KQ.out 0
    have y1:W10.cell? ⟨q,1,none⟩=some (.string ⟨#[]⟩):=by simpa [reply0] using blk_cell KQ.out 1
    have u0:=blk_frozen KQ.out 0;have u1:=blk_frozen KQ.out 1;go_wp2;obtain ⟨W19,hW19⟩:∃W19,W19=(W10.setCell ⟨q,0,none⟩ (.int .u8 0)).setCell ⟨q,1,none⟩ (.string (str (decI s1))):=⟨_,rfl⟩;rw [<-hW19];obtain ⟨c9,d0,d1⟩:=reply_end HCH.out KQ.out HQ.out H.out.lt 0 (str (decI s1)) hW19;exact bodyPost_ret (v:=ReplyV (0,(str (decI s1)))) (by simp [results,Tryz.results91,go_sem,d0,d1,ReplyV]) rfl ⟨by first|rfl|simp,c9⟩
theorem lookB (l:List PV) (k:ByteArray):((lookP l k).getD ⟨#[]⟩).data.toList=(lookP l k).elim [] fun v=>v.data.toList:=by
 cases lookP l k<;>rfl
theorem one_grew (w:World):Below w.heap.size w (w.alloc (Obj.cells #[.int .u8 44] 5)):=(Below.refl _ w).alloc (nLr _) _
theorem one_has (w:World):HasA (w.alloc (Obj.cells #[.int .u8 44] 5)) (w.alloc (Obj.cells #[.int .u8 44] 5)).heap.size (some ⟨w.heap.size,0,none⟩) [44]:=fun _=>⟨w.heap.size,0,rfl,(geS.1 (wAh w _)).1,fun i h1=>by
 obtain rfl:i=0:=by simpa using h1
 exact blk_cell (wAh w (.cells #[.int .u8 44] 5)) 0⟩
theorem doJoin_any (R:Nat) (m:Option Nat) (l:List PV) (a:CmdV) (w:World) (h:StQ w R m l) (ha:a.ok w) (hn:a.ks.length<=16) (hvz:∀x v,lookP l x=some v->v.size<=1000):
 Calls Tryz.prog 94 #[.pointer (some ⟨R,0,none⟩),a.val] w fun e W'=>e=.returned (ReplyV (0,str (joinP l a.ks)))/\Chg w W' R m l:=by
 obtain ⟨i0,hi,hz0,hz1,hz2⟩:=info_parts info5;obtain ⟨acl,asq,akd,KA,L,c,ks,old,new,n⟩:=a;simp only at hn;have HAS:=hiD ha.has;have HLN:Hid (L=ks.length):=hiD ha.len;have HEA:Hid (∀k∈ks,k.size<=maxLen):=hiD ha.each;have HLL:Hid (L<=16):=hiD (by have:=HLN.out;omega);have hLi:(L:Int)<=16:=by have:=HLL.out;omega
 have HVZ:=hiD hvz;have H:=hiD h;simp only [CmdV.val,CmdV.cells];clear h ha hn hvz;go_enter Tryz.func94,Tryz.ntmps94;go_upto_region 1 with (fail)
 obtain ⟨W0,hW0⟩:∃W0,W0=w.alloc (Obj.cells #[.int .u32 (acl:Int),.int .u32 (asq:Int),.int .u8 (akd:Int),.slice KA L c,.string old,.string new,.int .i64 n] 57):=⟨_,rfl⟩;rw [<-hW0];obtain ⟨W1,hW1⟩:∃W1,W1=W0.alloc (Obj.cells #[.int .u8 0,.string ⟨#[]⟩] 45):=⟨_,rfl⟩;rw [<-hW1];have P:=prep H.out hW0 hW1;obtain ⟨p,hp⟩:∃p,p=w.heap.size:=⟨_,rfl⟩;rw [<-hp] at P ⊢;obtain ⟨q,hq⟩:∃q,q=p+1:=⟨_,rfl⟩;rw [<-hq] at P ⊢;have HP:=hiD P;have HQ:Hid (w.heap.size<=q):=hiD (by have:=P.ps;omega);have z3:W1.cell? ⟨p,3,none⟩=some (.slice KA L c):=P.cell 3;clear hW0 hW1 hp hq P;go_wp2
 go_loopw [5,13] (fun o i wr=>∃(j M:Nat) (A5:Option Addr) (c5:Nat),j<=L/\i=.int .i64 (j:Int)/\o=.slice A5 M c5/\M<=j*1001/\Hid (wr.ownsRow W1.heap.size 5 1 (.slice A5 M c5) M ((joinP l (ks.take j)).map enc))/\Hid (Below W1.heap.size W1 wr)) (fun _ i _=>L - (intOf i).toNat)
 case atStart=>exact ⟨0,0,none,0,Nat.zero_le _,rfl,rfl,nLr _,hiD ⟨by simp [joinP],.inl ⟨rfl,by simp⟩⟩,hiD (Below.refl _ _)⟩
 case round=>
  obtain ⟨j,M,A5,c5,hj,rfl,rfl,hM,HO,HB⟩:=hrel
  by_cases hlt:j<L
  ·have hji:(j:Int)<L:=by omega
   have hj1:j<ks.length:=by have:=HLN.out;omega
   obtain ⟨kb,ko,e1,l1,f1⟩:=HAS.out (by rintro rfl;simp at hj1);subst e1;have g1:=f1 j hj1;obtain ⟨t,ht⟩:∃t,t=ks[j]:=⟨_,rfl⟩;rw [<-ht] at g1;have g2:wr.cell? ⟨kb,ko+j,none⟩=some (.string t):=(HB.out.cell (p:=⟨kb,ko+j,none⟩) (nLl l1 HP.out.below.size)).trans ((HP.out.below.cell (p:=⟨kb,ko+j,none⟩) l1).trans g1);have hts:t.size<=maxLen:=HEA.out t (by rw [ht];exact List.getElem_mem hj1);have HT:=hiD ht;have hS:=HP.out.grew HB.out;have HG:=hiD (get_any hS.1 t hts);have hJ:joinP l (ks.take (j+1))=joinP l (ks.take j)++((lookP l t).getD ⟨#[]⟩).data.toList++[44]:=by rw [joinP_succ hj1,<-ht,lookB]
   have hvs:((lookP l t).getD ⟨#[]⟩).size<=1000:=by
    cases hc:lookP l t with
    |none=>decide
    |some v=>exact HVZ.out t v hc
   obtain ⟨v,hv⟩:∃v,v=(lookP l t).getD ⟨#[]⟩:=⟨_,rfl⟩;rw [<-hv] at hJ hvs HG;have HJ:=hiD hJ;have HVS:=hiD hvs;clear f1 g1 l1 ht hS hJ hv hvs
   go_wp2_with fail
   refine HG.out.mono ?_;rintro e W2 ⟨rfl,b2⟩;have HB2:=hiD (HB.out.trans (Below.mono b2 HB.out.size));have HO2:=hiD (own_below HO.out b2);clear b2 HG g2;have hls:M+v.size<=140737488355328:=by have:=HVS.out;have:=HLL.out;omega
   have hls2:M+v.size+1<=140737488355328:=by have:=HVS.out;have:=HLL.out;omega
   go_wp2_with (first
    |(at_builtin;refine wpList_append_str rfl (.tmp 23) (.tmp 24) 48 9 rfl W1.heap.size 5 i0 Tryz.underlying48 Tryz.underlying9 hi hz0 hz1 hz2 _ M (joinP l (ks.take j)) rfl HO2.out v rfl hls HB2.out.size ?_;intro u1 U1 hown hg;have hb3:Below W1.heap.size W1 U1:=HB2.out.grown hg HB2.out.size (fun k e=>(HO2.out.lt k e).1);obtain ⟨A6,c6,rfl⟩:=own_form hown;have O3:=hiD hown;have B3:=hiD hb3;clear hown hg hb3;have O4:=hiD (own_below O3.out (one_grew U1));have B4:=hiD (B3.out.trans (Below.mono (one_grew U1) B3.out.size));have HA4:=hiD (one_has U1))
    |(at_builtin;refine wpList_append_has rfl (.tmp 26) (.tmp 27) 48 rfl W1.heap.size 5 i0 Tryz.underlying48 hi hz0 hz1 hz2 _ (M+v.size) (joinP l (ks.take j)++v.data.toList) rfl O4.out _ _ 1 1 [44] rfl rfl HA4.out hls2 B4.out.size ?_;intro u2 U3 hown hg;have hb3:Below W1.heap.size W1 U3:=B4.out.grown hg B4.out.size (fun k e=>(O4.out.lt k e).1);obtain ⟨A7,c7,rfl⟩:=own_form hown;have O5:=hiD hown;have B5:=hiD hb3;clear hown hg hb3)
    |fail)
   refine ⟨⟨j+1,M+v.size+1,A7,c7,by omega,by congr 1,rfl,by have:=HVS.out;omega,hiD (by rw [HJ.out];exact O5.out),B5⟩,by simp only [intOf];omega⟩
  ·have hji:¬(j:Int)<L:=by omega
   obtain rfl:j=L:=by omega
   have ho:=HO.out;rw [List.take_of_length_le (by have:=HLN.out;omega)] at ho;obtain ⟨A7,L7,c7,he7,hL7,hA7⟩:=IsB.own ho
   cases he7
   have hcv:=run_conv hA7 c5 Tryz.underlying48 Tryz.underlying5 Tryz.underlying9 hL7;obtain ⟨_,_,q2,_⟩:=HP.out.grew HB.out;have H2:=hiD q2;have C2:Hid (Below w.heap.size w wr):=hiD (HP.out.below.trans (Below.mono HB.out HP.out.below.size));obtain ⟨S,hS⟩:∃S,S=str (joinP l ks):=⟨_,rfl⟩;rw [<-hS] at hcv;have HSS:=hiD hS;clear ho hL7 hA7 q2 hS
   go_wp2_with fail
   refine (done_any _ _).mono ?_;rintro e W6 ⟨rfl,b6⟩;have c6:=(Chg.same H.out C2.out).grew b6;have q6:=(b6.block q (geS.1 H2.out).1).trans H2.out;clear b6 hcv;simp only [ReplyV];have KQ:=hiD q6;have HCH:=hiD c6;have y0:W6.cell? ⟨q,0,none⟩=some (.int .u8 0):=by simpa [reply0] using blk_cell KQ.out 0
   have y1:W6.cell? ⟨q,1,none⟩=some (.string ⟨#[]⟩):=by simpa [reply0] using blk_cell KQ.out 1
   have u0:=blk_frozen KQ.out 0;have u1:=blk_frozen KQ.out 1;go_wp2;obtain ⟨W9,hW9⟩:∃W9,W9=(W6.setCell ⟨q,0,none⟩ (.int .u8 0)).setCell ⟨q,1,none⟩ (.string S):=⟨_,rfl⟩;rw [<-hW9];obtain ⟨c9,d0,d1⟩:=reply_end HCH.out KQ.out HQ.out H.out.lt 0 S hW9;exact bodyPost_ret (v:=.agg #[.int .u8 0,.string S]) (by simp [results,Tryz.results94,go_sem,d0,d1]) rfl ⟨by rw [<-HSS.out];rfl,c9⟩
end Go.Proofs.YtfjmdkhemnmkpaaGreatDoor
