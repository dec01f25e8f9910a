/- Parts of the proof: KvDoZ. -/
import Derived.Test.YtfjmdkhemnmkpaaGreatDoorR03
import Derived.Test.YtfjmdkhemnmkpaaGreatDoorR20
import Derived.Test.YtfjmdkhemnmkpaaGreatDoorR19
set_option maxRecDepth 100000
set_option maxHeartbeats 8000000
namespace Go.Proofs.YtfjmdkhemnmkpaaGreatDoor
open Go.RowKit
theorem doSetup (w:World) (acl asq akd:Nat) (KA:Option Addr) (KL kc:Nat) (old new:ByteArray) (n:Int):∃W1 p q,(w.alloc (Obj.cells #[.int .u32 (acl:Int),.int .u32 (asq:Int),.int .u8 (akd:Int),.slice KA KL kc,.string old,.string new,.int .i64 n] 57)).alloc (Obj.cells #[.int .u8 0,.string {data:=#[]}] 45)=W1/\w.heap.size+1=q/\w.heap.size=p/\Hid (∀i u,(#[.int .u32 (acl:Int),.int .u32 (asq:Int),.int .u8 (akd:Int),.slice KA KL kc,.string old,.string new,.int .i64 n]:Array Value)[i]?=some u->W1.cell? ⟨p,i,none⟩=some u)/\Hid (Below w.heap.size w W1)/\Hid (W1.heap[q]?=some (.cells #[.int .u8 0,.string {data:=#[]}] 45 (0,0)))/\Hid (p<W1.heap.size/\q<W1.heap.size/\q=w.heap.size+1):=by
 obtain ⟨W0,hW0⟩:∃W0,W0=w.alloc (Obj.cells #[.int .u32 (acl:Int),.int .u32 (asq:Int),.int .u8 (akd:Int),.slice KA KL kc,.string old,.string new,.int .i64 n] 57):=⟨_,rfl⟩;rw [<-hW0];have hs0:W0.heap.size=w.heap.size+1:=by rw [hW0];exact World.size_alloc _ _
 have b1:Below W0.heap.size W0 (W0.alloc (Obj.cells #[.int .u8 0,.string {data:=#[]}] 45)):=(Below.refl _ _).alloc (nLr _) _;have b0:Below w.heap.size w W0:=by rw [hW0];exact (Below.refl _ w).alloc (nLr _) _
 have k0:W0.heap[w.heap.size]?=some (.cells #[.int .u32 (acl:Int),.int .u32 (asq:Int),.int .u8 (akd:Int),.slice KA KL kc,.string old,.string new,.int .i64 n] 57 (0,0)):=by
  rw [hW0];exact wAh w _
 have k1:=(b1.block w.heap.size (by omega)).trans k0;refine ⟨_,_,_,rfl,rfl,rfl,hiD fun i u hu=>by rw [blk_cell k1 i];simpa using hu,hiD (b0.trans (Below.mono b1 b0.size)),hiD ?_,hiD ⟨by rw [World.size_alloc];omega,by rw [World.size_alloc];omega,rfl⟩⟩;rw [<-hs0];exact wAh W0 _
theorem Do_no (A:Option Addr) (L c:Nat) (l:List PV) (v:CmdV) (w:World) (hL:L=l.length) (hLm:L<=5000) (hA:HasP w A l) (hs:∀p∈l,p.2.size<=1000000) (hv:v.ok w) (hm:v.m.may=false):
 Calls Tryz.prog 45 #[.slice A L c,v.val] w (PR w A l (doP l v.m)):=by
 have hv0:=hv;obtain ⟨acl,asq,akd,KA,KL,kc,ks,old,new,n⟩:=v;obtain ⟨hcl,hsq,hkd,hn64,hlen,hmx,hhas,heach,hold,hnew⟩:=hv;simp only at hcl hsq hkd hn64 hlen hmx hhas heach hold hnew;simp only [CmdV.val,CmdV.cells];have HL:=hiD hL;have HA:=hiD hA;have HV:=hiD hs;have HV0:=hiD hv0;have HM:=hiD hm;have hLi:(L:Int)<=5000:=by omega
 have HLEN:=hiD hlen;have HHAS:=hiD hhas;have hKLi:(KL:Int)<=140737488351232:=by omega
 clear hL hA hs hv0 hm heach hold hnew hlen hhas hmx hkd;go_enter Tryz.func45,Tryz.ntmps45;go_upto_region 1 with (fail)
 obtain ⟨W1,p,q,hW1,hq,hp,FF,XB,QQ,PP⟩:=doSetup w acl asq akd (KA) KL kc old new n;rw [hW1,hq,hp];have x0:=FF.out 0 _ rfl;have x1:=FF.out 1 _ rfl;have x2:=FF.out 2 _ rfl;have x3:=FF.out 3 _ rfl;have x4:=FF.out 4 _ rfl;have x5:=FF.out 5 _ rfl;have x6:=FF.out 6 _ rfl;have HA1:=hiD (HA.out.below XB.out);have hmay:=refMay_any ⟨acl,asq,akd,KA,KL,kc,ks,old,new,n⟩ W1 (HV0.out.below XB.out);rw [show (CmdV.m ⟨acl,asq,akd,KA,KL,kc,ks,old,new,n⟩).may=false from HM.out] at hmay;have MAY:=hiD hmay;clear hmay hW1 hp hq
 go_wp2_with fail
 refine MAY.out.mono ?_;rintro e W2 ⟨rfl,hb2⟩;have B2:=hiD hb2;have HA2:=hiD (HA1.out.below hb2);clear x0 x1 x2 x3 x4 x5 x6 hb2 MAY;have q2:=(B2.out.block q PP.out.2.1).trans QQ.out;have d0:W2.cell? ⟨q,0,none⟩=some (.int .u8 0):=by rw [blk_cell q2 0];rfl
 have d1:W2.cell? ⟨q,1,none⟩=some (.string {data:=#[]}):=by rw [blk_cell q2 1];rfl
 have z0:W2.frozen? ⟨q,0,none⟩=false:=blk_frozen q2 0;have z1:W2.frozen? ⟨q,1,none⟩=false:=blk_frozen q2 1;have QS:=hiD q2;clear q2;have HR:=hiD (show doP l (CmdV.m ⟨acl,asq,akd,KA,KL,kc,ks,old,new,n⟩)=(l,2,⟨#[]⟩) by unfold doP;rw [if_pos HM.out]);go_wp2;obtain ⟨d0,d1,hbz,hbq⟩:=reply_set (.int .u8 2) (.string {data:=#[]}) QS.out (XB.out.trans (Below.mono B2.out XB.out.size)) (by have:=PP.out.2.2;omega) (nLt XB.out.size B2.out.size);exact bodyPost_ret (v:=.tuple #[.slice A L c,.agg #[.int .u8 2,.string {data:=#[]}]]) (by simp [results,Tryz.results45,go_sem,d0,d1]) rfl ⟨A,L,c,by rw [HR.out];rfl,by rw [HR.out];exact HL.out,by rw [HR.out];exact HA.out.below hbz,.inl ⟨rfl,by rw [HR.out]⟩,hbz⟩
theorem Do_put (A:Option Addr) (L c:Nat) (l:List PV) (v:CmdV) (w:World) (hL:L=l.length) (hLm:L<=5000) (hA:HasP w A l) (hs:∀p∈l,p.2.size<=1000000) (hv:v.ok w) (hm:v.m.may=true) (hkd1:v.kd=1):
 Calls Tryz.prog 45 #[.slice A L c,v.val] w (PR w A l (doP l v.m)):=by
 have hv0:=hv;obtain ⟨acl,asq,akd,KA,KL,kc,ks,old,new,n⟩:=v;obtain ⟨hcl,hsq,hkd,hn64,hlen,hmx,hhas,heach,hold,hnew⟩:=hv;simp only at hkd1 hcl hsq hkd hn64 hlen hmx hhas heach hold hnew;have hMay:=CM.may_iff.1 hm
 have hk:0<ks.length:=by
  have h:leastK akd<=ks.length:=hMay.len.1;unfold leastK at h
  split at h<;>omega
 obtain ⟨kb,ko,rfl,kl,kf⟩:=hhas (by rintro rfl;exact Nat.not_lt_zero _ hk);have kc0:=kf 0 hk;obtain ⟨k0,hk0⟩:∃k0,k0=ks[0]:=⟨_,rfl⟩;rw [<-hk0] at kc0;have KEY:=hiD (show keyP ks 0=k0 by rw [keyP,hk0];simp [hk]);have hKLn:0<KL:=by omega
 have hKL0:(0:Int)<KL:=by omega
 have KF:=hiD kf;have KLB:=hiD kl;have KC:=hiD kc0;have HMAY:=hiD hMay;have hk':=hiD hk;have HKD:=hiD hkd1;clear kf kl kc0 hk0 hk hkd1 hMay;simp only [CmdV.val,CmdV.cells];have HL:=hiD hL;have HA:=hiD hA;have HV:=hiD hs;have HV0:=hiD hv0;have HM:=hiD hm;have hLi:(L:Int)<=5000:=by omega
 have HLEN:=hiD hlen;have HHAS:=hiD hhas;have hKLi:(KL:Int)<=140737488351232:=by omega
 clear hL hA hs hv0 hm heach hold hnew hlen hhas hmx hkd;go_enter Tryz.func45,Tryz.ntmps45;go_upto_region 1 with (fail)
 obtain ⟨W1,p,q,hW1,hq,hp,FF,XB,QQ,PP⟩:=doSetup w acl asq akd (some ⟨kb,ko,none⟩) KL kc old new n;rw [hW1,hq,hp];have x0:=FF.out 0 _ rfl;have x1:=FF.out 1 _ rfl;have x2:=FF.out 2 _ rfl;have x3:=FF.out 3 _ rfl;have x4:=FF.out 4 _ rfl;have x5:=FF.out 5 _ rfl;have x6:=FF.out 6 _ rfl;have HA1:=hiD (HA.out.below XB.out);have hmay:=refMay_any ⟨acl,asq,akd,some ⟨kb,ko,none⟩,KL,kc,ks,old,new,n⟩ W1 (HV0.out.below XB.out);rw [show (CmdV.m ⟨acl,asq,akd,some ⟨kb,ko,none⟩,KL,kc,ks,old,new,n⟩).may=true from HM.out] at hmay;have MAY:=hiD hmay;clear hmay hW1 hp hq
 go_wp2_with fail
 refine MAY.out.mono ?_;rintro e W2 ⟨rfl,hb2⟩;have B2:=hiD hb2;have HA2:=hiD (HA1.out.below hb2);clear x0 x1 x2 x3 x4 x5 x6 hb2 MAY;have x3:=(B2.out.cell (p:=⟨p,3,none⟩) PP.out.1).trans (FF.out 3 _ rfl);have x4:=(B2.out.cell (p:=⟨p,4,none⟩) PP.out.1).trans (FF.out 4 _ rfl);have x5:=(B2.out.cell (p:=⟨p,5,none⟩) PP.out.1).trans (FF.out 5 _ rfl);have g0:=((XB.out.trans (Below.mono B2.out XB.out.size)).cell (p:=⟨kb,ko+0,none⟩) KLB.out).trans KC.out;rw [Nat.add_zero] at g0
 go_wp2_with fail
 refine (Find_any A L c l k0 W2 HL.out (by omega) HA2.out).mono ?_;rintro e W3 ⟨he,hb3⟩;obtain ⟨x,hx⟩:∃x,x=findI l k0:=⟨_,rfl⟩;rw [<-hx] at he;subst he;have HX:=hiD hx;have B3:=hiD (B2.out.trans (Below.mono hb3 B2.out.size));have HA3:=hiD (HA2.out.below hb3);clear hx hb3 x3 x4 x5 g0;have x3:=(B3.out.cell (p:=⟨p,3,none⟩) PP.out.1).trans (FF.out 3 _ rfl);have x4:=(B3.out.cell (p:=⟨p,4,none⟩) PP.out.1).trans (FF.out 4 _ rfl);have x5:=(B3.out.cell (p:=⟨p,5,none⟩) PP.out.1).trans (FF.out 5 _ rfl);have g0:=((XB.out.trans (Below.mono B3.out XB.out.size)).cell (p:=⟨kb,ko+0,none⟩) KLB.out).trans KC.out;rw [Nat.add_zero] at g0
 have x2:W3.cell? ⟨p,2,none⟩=some (.int .u8 1):=by
  have h:=(B3.out.cell (p:=⟨p,2,none⟩) PP.out.1).trans (FF.out 2 _ rfl);have e:(akd:Int)=1:=by have:=HKD.out;omega
  rw [<-e];exact h
 go_upto_region 6 with (fail)
 refine do_put_region p q kb ko kc KL A L c l k0 new W3.heap.size _ W3 _ rfl rfl rfl rfl (nLr _) ((B3.out.block q PP.out.2.1).trans QQ.out) HL.out (by omega) HA3.out x3 g0 hKLn x5 ?_;intro vr v4 W4 _ h4 hg4;obtain ⟨A4,n4,c4,rfl,hn4,ho4⟩:=h4;have O4:=hiD ho4;have N4:=hiD hn4;have B4:=hiD (B3.out.trans (Below.mono hg4 B3.out.size));have hdo:=(doP_put (l:=l) (m:=(CmdV.m ⟨acl,asq,akd,some ⟨kb,ko,none⟩,KL,kc,ks,old,new,n⟩)) HM.out HKD.out KEY.out);have HR:=hiD hdo;clear hdo;have hq3:q<W3.heap.size:=nLl PP.out.2.1 B3.out.size;have QS:=hiD ((B4.out.block q PP.out.2.1).trans QQ.out);clear ho4 hn4 hg4;simp only [puts,List.foldl_cons,List.foldl_nil,Act.put,List.setIfInBounds_toArray,List.set_cons_succ,List.set_cons_zero];go_wp2;obtain ⟨d0,d1,hbz,hbq⟩:=reply_set (.int .u8 0) (.string {data:=#[]}) QS.out (XB.out.trans (Below.mono B4.out XB.out.size)) (by have:=PP.out.2.2;omega) (nLt XB.out.size B4.out.size);exact bodyPost_ret (v:=.tuple #[.slice A4 n4 c4,.agg #[.int .u8 0,.string {data:=#[]}]]) (by simp [results,Tryz.results45,go_sem,d0,d1]) rfl ⟨A4,n4,c4,by rw [HR.out];rfl,by rw [HR.out];exact N4.out,by rw [HR.out];exact ((O4.out.set hq3).set hq3).has,.inr (fun b o m e=>nLt (nLt XB.out.size B3.out.size) (O4.out.lo e)),hbz⟩
theorem Do_get (A:Option Addr) (L c:Nat) (l:List PV) (v:CmdV) (w:World) (hL:L=l.length) (hLm:L<=5000) (hA:HasP w A l) (hs:∀p∈l,p.2.size<=1000000) (hv:v.ok w) (hm:v.m.may=true) (hkd1:v.kd=2):
 Calls Tryz.prog 45 #[.slice A L c,v.val] w (PR w A l (doP l v.m)):=by
 have hv0:=hv;obtain ⟨acl,asq,akd,KA,KL,kc,ks,old,new,n⟩:=v;obtain ⟨hcl,hsq,hkd,hn64,hlen,hmx,hhas,heach,hold,hnew⟩:=hv;simp only at hkd1 hcl hsq hkd hn64 hlen hmx hhas heach hold hnew;have hMay:=CM.may_iff.1 hm
 have hk:0<ks.length:=by
  have h:leastK akd<=ks.length:=hMay.len.1;unfold leastK at h
  split at h<;>omega
 obtain ⟨kb,ko,rfl,kl,kf⟩:=hhas (by rintro rfl;exact Nat.not_lt_zero _ hk);have kc0:=kf 0 hk;obtain ⟨k0,hk0⟩:∃k0,k0=ks[0]:=⟨_,rfl⟩;rw [<-hk0] at kc0;have KEY:=hiD (show keyP ks 0=k0 by rw [keyP,hk0];simp [hk]);have hKLn:0<KL:=by omega
 have hKL0:(0:Int)<KL:=by omega
 have KF:=hiD kf;have KLB:=hiD kl;have KC:=hiD kc0;have HMAY:=hiD hMay;have hk':=hiD hk;have HKD:=hiD hkd1;clear kf kl kc0 hk0 hk hkd1 hMay;simp only [CmdV.val,CmdV.cells];have HL:=hiD hL;have HA:=hiD hA;have HV:=hiD hs;have HV0:=hiD hv0;have HM:=hiD hm;have hLi:(L:Int)<=5000:=by omega
 have HLEN:=hiD hlen;have HHAS:=hiD hhas;have hKLi:(KL:Int)<=140737488351232:=by omega
 clear hL hA hs hv0 hm heach hold hnew hlen hhas hmx hkd;go_enter Tryz.func45,Tryz.ntmps45;go_upto_region 1 with (fail)
 obtain ⟨W1,p,q,hW1,hq,hp,FF,XB,QQ,PP⟩:=doSetup w acl asq akd (some ⟨kb,ko,none⟩) KL kc old new n;rw [hW1,hq,hp];have x0:=FF.out 0 _ rfl;have x1:=FF.out 1 _ rfl;have x2:=FF.out 2 _ rfl;have x3:=FF.out 3 _ rfl;have x4:=FF.out 4 _ rfl;have x5:=FF.out 5 _ rfl;have x6:=FF.out 6 _ rfl;have HA1:=hiD (HA.out.below XB.out);have hmay:=refMay_any ⟨acl,asq,akd,some ⟨kb,ko,none⟩,KL,kc,ks,old,new,n⟩ W1 (HV0.out.below XB.out);rw [show (CmdV.m ⟨acl,asq,akd,some ⟨kb,ko,none⟩,KL,kc,ks,old,new,n⟩).may=true from HM.out] at hmay;have MAY:=hiD hmay;clear hmay hW1 hp hq
 go_wp2_with fail
 refine MAY.out.mono ?_;rintro e W2 ⟨rfl,hb2⟩;have B2:=hiD hb2;have HA2:=hiD (HA1.out.below hb2);clear x0 x1 x2 x3 x4 x5 x6 hb2 MAY;have x3:=(B2.out.cell (p:=⟨p,3,none⟩) PP.out.1).trans (FF.out 3 _ rfl);have x4:=(B2.out.cell (p:=⟨p,4,none⟩) PP.out.1).trans (FF.out 4 _ rfl);have x5:=(B2.out.cell (p:=⟨p,5,none⟩) PP.out.1).trans (FF.out 5 _ rfl);have g0:=((XB.out.trans (Below.mono B2.out XB.out.size)).cell (p:=⟨kb,ko+0,none⟩) KLB.out).trans KC.out;rw [Nat.add_zero] at g0
 go_wp2_with fail
 refine (Find_any A L c l k0 W2 HL.out (by omega) HA2.out).mono ?_;rintro e W3 ⟨he,hb3⟩;obtain ⟨x,hx⟩:∃x,x=findI l k0:=⟨_,rfl⟩;rw [<-hx] at he;subst he;have HX:=hiD hx;have B3:=hiD (B2.out.trans (Below.mono hb3 B2.out.size));have HA3:=hiD (HA2.out.below hb3);clear hx hb3 x3 x4 x5 g0;have x3:=(B3.out.cell (p:=⟨p,3,none⟩) PP.out.1).trans (FF.out 3 _ rfl);have x4:=(B3.out.cell (p:=⟨p,4,none⟩) PP.out.1).trans (FF.out 4 _ rfl);have x5:=(B3.out.cell (p:=⟨p,5,none⟩) PP.out.1).trans (FF.out 5 _ rfl);have g0:=((XB.out.trans (Below.mono B3.out XB.out.size)).cell (p:=⟨kb,ko+0,none⟩) KLB.out).trans KC.out;rw [Nat.add_zero] at g0
 have x2:W3.cell? ⟨p,2,none⟩=some (.int .u8 2):=by
  have h:=(B3.out.cell (p:=⟨p,2,none⟩) PP.out.1).trans (FF.out 2 _ rfl);have e:(akd:Int)=2:=by have:=HKD.out;omega
  rw [<-e];exact h
 rcases find_cases l k0 with ⟨hf,hl⟩|⟨j,hj,hf,hl⟩
 ·have ex:x= -1:=HX.out.trans hf;clear HX;subst ex;have LK:=hiD hl;clear hf hl;have HR:=hiD (doP_get0 (m:=(CmdV.m ⟨acl,asq,akd,some ⟨kb,ko,none⟩,KL,kc,ks,old,new,n⟩)) HM.out HKD.out KEY.out LK.out);have q2:=(B3.out.block q PP.out.2.1).trans QQ.out;have d0:W3.cell? ⟨q,0,none⟩=some (.int .u8 0):=by rw [blk_cell q2 0];rfl
  have d1:W3.cell? ⟨q,1,none⟩=some (.string {data:=#[]}):=by rw [blk_cell q2 1];rfl
  have z0:W3.frozen? ⟨q,0,none⟩=false:=blk_frozen q2 0;have z1:W3.frozen? ⟨q,1,none⟩=false:=blk_frozen q2 1;have QS:=hiD q2;clear q2;go_wp2;obtain ⟨d0,d1,hbz,hbq⟩:=reply_set (.int .u8 1) (.string {data:=#[]}) QS.out (XB.out.trans (Below.mono B3.out XB.out.size)) (by have:=PP.out.2.2;omega) (nLt XB.out.size B3.out.size);exact bodyPost_ret (v:=.tuple #[.slice A L c,.agg #[.int .u8 1,.string {data:=#[]}]]) (by simp [results,Tryz.results45,go_sem,d0,d1]) rfl ⟨A,L,c,by rw [HR.out];rfl,by rw [HR.out];exact HL.out,by rw [HR.out];exact HA.out.below hbz,.inl ⟨rfl,by rw [HR.out]⟩,hbz⟩
 ·have ex:x=(j:Int):=HX.out.trans hf;clear HX;subst ex;obtain ⟨u,hu⟩:∃u,u=l[j].2:=⟨_,rfl⟩;have LK:=hiD (show lookP l k0=some u by rw [hl,hu]);obtain ⟨ab,ao,e1,l1,f1⟩:=HA3.out (by rintro rfl;exact Nat.not_lt_zero _ hj);subst e1;have cu:=(f1 j hj).2;rw [<-hu] at cu;have hjn:j<L:=by have:=HL.out;omega
  have hjL:(j:Int)<L:=by omega
  have hj0:(0:Int)<=(j:Int):=by omega
  clear hf hl hu f1 l1 hj;have HR:=hiD (doP_get1 (m:=(CmdV.m ⟨acl,asq,akd,some ⟨kb,ko,none⟩,KL,kc,ks,old,new,n⟩)) HM.out HKD.out KEY.out LK.out);have q2:=(B3.out.block q PP.out.2.1).trans QQ.out;have d0:W3.cell? ⟨q,0,none⟩=some (.int .u8 0):=by rw [blk_cell q2 0];rfl
  have d1:W3.cell? ⟨q,1,none⟩=some (.string {data:=#[]}):=by rw [blk_cell q2 1];rfl
  have z0:W3.frozen? ⟨q,0,none⟩=false:=blk_frozen q2 0;have z1:W3.frozen? ⟨q,1,none⟩=false:=blk_frozen q2 1;have QS:=hiD q2;clear q2;go_upto_region 13 with (fail)
  go_region
  go_wp2;obtain ⟨d0,d1,hbz,hbq⟩:=reply_set (.int .u8 0) (.string u) QS.out (XB.out.trans (Below.mono B3.out XB.out.size)) (by have:=PP.out.2.2;omega) (nLt XB.out.size B3.out.size);exact bodyPost_ret (v:=.tuple #[.slice (some ⟨ab,ao,none⟩) L c,.agg #[.int .u8 0,.string u]]) (by simp [results,Tryz.results45,go_sem,d0,d1]) rfl ⟨_,L,c,by rw [HR.out];rfl,by rw [HR.out];exact HL.out,by rw [HR.out];exact HA.out.below hbz.drew,.inl ⟨rfl,by rw [HR.out]⟩,hbz.drew⟩
theorem Do_del (A:Option Addr) (L c:Nat) (l:List PV) (v:CmdV) (w:World) (hL:L=l.length) (hLm:L<=5000) (hA:HasP w A l) (hs:∀p∈l,p.2.size<=1000000) (hv:v.ok w) (hm:v.m.may=true) (hkd1:v.kd=3):
 Calls Tryz.prog 45 #[.slice A L c,v.val] w (PR w A l (doP l v.m)):=by
 have hv0:=hv;obtain ⟨acl,asq,akd,KA,KL,kc,ks,old,new,n⟩:=v;obtain ⟨hcl,hsq,hkd,hn64,hlen,hmx,hhas,heach,hold,hnew⟩:=hv;simp only at hkd1 hcl hsq hkd hn64 hlen hmx hhas heach hold hnew;have hMay:=CM.may_iff.1 hm
 have hk:0<ks.length:=by
  have h:leastK akd<=ks.length:=hMay.len.1;unfold leastK at h
  split at h<;>omega
 obtain ⟨kb,ko,rfl,kl,kf⟩:=hhas (by rintro rfl;exact Nat.not_lt_zero _ hk);have kc0:=kf 0 hk;obtain ⟨k0,hk0⟩:∃k0,k0=ks[0]:=⟨_,rfl⟩;rw [<-hk0] at kc0;have KEY:=hiD (show keyP ks 0=k0 by rw [keyP,hk0];simp [hk]);have hKLn:0<KL:=by omega
 have hKL0:(0:Int)<KL:=by omega
 have KF:=hiD kf;have KLB:=hiD kl;have KC:=hiD kc0;have HMAY:=hiD hMay;have hk':=hiD hk;have HKD:=hiD hkd1;clear kf kl kc0 hk0 hk hkd1 hMay;simp only [CmdV.val,CmdV.cells];have HL:=hiD hL;have HA:=hiD hA;have HV:=hiD hs;have HV0:=hiD hv0;have HM:=hiD hm;have hLi:(L:Int)<=5000:=by omega
 have HLEN:=hiD hlen;have HHAS:=hiD hhas;have hKLi:(KL:Int)<=140737488351232:=by omega
 clear hL hA hs hv0 hm heach hold hnew hlen hhas hmx hkd;go_enter Tryz.func45,Tryz.ntmps45;go_upto_region 1 with (fail)
 obtain ⟨W1,p,q,hW1,hq,hp,FF,XB,QQ,PP⟩:=doSetup w acl asq akd (some ⟨kb,ko,none⟩) KL kc old new n;rw [hW1,hq,hp];have x0:=FF.out 0 _ rfl;have x1:=FF.out 1 _ rfl;have x2:=FF.out 2 _ rfl;have x3:=FF.out 3 _ rfl;have x4:=FF.out 4 _ rfl;have x5:=FF.out 5 _ rfl;have x6:=FF.out 6 _ rfl;have HA1:=hiD (HA.out.below XB.out);have hmay:=refMay_any ⟨acl,asq,akd,some ⟨kb,ko,none⟩,KL,kc,ks,old,new,n⟩ W1 (HV0.out.below XB.out);rw [show (CmdV.m ⟨acl,asq,akd,some ⟨kb,ko,none⟩,KL,kc,ks,old,new,n⟩).may=true from HM.out] at hmay;have MAY:=hiD hmay;clear hmay hW1 hp hq
 go_wp2_with fail
 refine MAY.out.mono ?_;rintro e W2 ⟨rfl,hb2⟩;have B2:=hiD hb2;have HA2:=hiD (HA1.out.below hb2);clear x0 x1 x2 x3 x4 x5 x6 hb2 MAY;have x3:=(B2.out.cell (p:=⟨p,3,none⟩) PP.out.1).trans (FF.out 3 _ rfl);have x4:=(B2.out.cell (p:=⟨p,4,none⟩) PP.out.1).trans (FF.out 4 _ rfl);have x5:=(B2.out.cell (p:=⟨p,5,none⟩) PP.out.1).trans (FF.out 5 _ rfl);have g0:=((XB.out.trans (Below.mono B2.out XB.out.size)).cell (p:=⟨kb,ko+0,none⟩) KLB.out).trans KC.out;rw [Nat.add_zero] at g0
 go_wp2_with fail
 refine (Find_any A L c l k0 W2 HL.out (by omega) HA2.out).mono ?_;rintro e W3 ⟨he,hb3⟩;obtain ⟨x,hx⟩:∃x,x=findI l k0:=⟨_,rfl⟩;rw [<-hx] at he;subst he;have HX:=hiD hx;have B3:=hiD (B2.out.trans (Below.mono hb3 B2.out.size));have HA3:=hiD (HA2.out.below hb3);clear hx hb3 x3 x4 x5 g0;have x3:=(B3.out.cell (p:=⟨p,3,none⟩) PP.out.1).trans (FF.out 3 _ rfl);have x4:=(B3.out.cell (p:=⟨p,4,none⟩) PP.out.1).trans (FF.out 4 _ rfl);have x5:=(B3.out.cell (p:=⟨p,5,none⟩) PP.out.1).trans (FF.out 5 _ rfl);have g0:=((XB.out.trans (Below.mono B3.out XB.out.size)).cell (p:=⟨kb,ko+0,none⟩) KLB.out).trans KC.out;rw [Nat.add_zero] at g0
 have x2:W3.cell? ⟨p,2,none⟩=some (.int .u8 3):=by
  have h:=(B3.out.cell (p:=⟨p,2,none⟩) PP.out.1).trans (FF.out 2 _ rfl);have e:(akd:Int)=3:=by have:=HKD.out;omega
  rw [<-e];exact h
 rcases find_cases l k0 with ⟨hf,hl⟩|⟨j,hj,hf,hl⟩
 ·have ex:x= -1:=HX.out.trans hf;clear HX;subst ex;have LK:=hiD hl;clear hf hl;have HR:=hiD (doP_del0 (m:=(CmdV.m ⟨acl,asq,akd,some ⟨kb,ko,none⟩,KL,kc,ks,old,new,n⟩)) HM.out HKD.out KEY.out LK.out);have q2:=(B3.out.block q PP.out.2.1).trans QQ.out;have d0:W3.cell? ⟨q,0,none⟩=some (.int .u8 0):=by rw [blk_cell q2 0];rfl
  have d1:W3.cell? ⟨q,1,none⟩=some (.string {data:=#[]}):=by rw [blk_cell q2 1];rfl
  have z0:W3.frozen? ⟨q,0,none⟩=false:=blk_frozen q2 0;have z1:W3.frozen? ⟨q,1,none⟩=false:=blk_frozen q2 1;have QS:=hiD q2;clear q2;go_wp2;obtain ⟨d0,d1,hbz,hbq⟩:=reply_set (.int .u8 1) (.string {data:=#[]}) QS.out (XB.out.trans (Below.mono B3.out XB.out.size)) (by have:=PP.out.2.2;omega) (nLt XB.out.size B3.out.size);exact bodyPost_ret (v:=.tuple #[.slice A L c,.agg #[.int .u8 1,.string {data:=#[]}]]) (by simp [results,Tryz.results45,go_sem,d0,d1]) rfl ⟨A,L,c,by rw [HR.out];rfl,by rw [HR.out];exact HL.out,by rw [HR.out];exact HA.out.below hbz,.inl ⟨rfl,by rw [HR.out]⟩,hbz⟩
 ·have ex:x=(j:Int):=HX.out.trans hf;clear HX;subst ex;obtain ⟨u,hu⟩:∃u,u=l[j].2:=⟨_,rfl⟩;have LK:=hiD (show lookP l k0=some u by rw [hl,hu]);obtain ⟨ab,ao,e1,l1,f1⟩:=HA3.out (by rintro rfl;exact Nat.not_lt_zero _ hj);subst e1;have cu:=(f1 j hj).2;rw [<-hu] at cu;have hjn:j<L:=by have:=HL.out;omega
  have hjL:(j:Int)<L:=by omega
  have hj0:(0:Int)<=(j:Int):=by omega
  clear hf hl hu f1 l1 hj;go_upto_region 12 with (fail)
  refine do_del_region p q kb ko kc KL ab ao j (some ⟨ab,ao,none⟩) L c l k0 u W3.heap.size _ W3 _ rfl rfl rfl rfl rfl (nLr _) ((B3.out.block q PP.out.2.1).trans QQ.out) HL.out (by omega) HA3.out x3 g0 hKLn rfl hjn cu ?_;intro vr v4 W4 _ h4 hg4;obtain ⟨A4,n4,c4,rfl,hn4,ho4⟩:=h4;have O4:=hiD ho4;have N4:=hiD hn4;have B4:=hiD (B3.out.trans (Below.mono hg4 B3.out.size));have hdo:=(doP_del1 (m:=(CmdV.m ⟨acl,asq,akd,some ⟨kb,ko,none⟩,KL,kc,ks,old,new,n⟩)) HM.out HKD.out KEY.out LK.out);have HR:=hiD hdo;clear hdo;have hq3:q<W3.heap.size:=nLl PP.out.2.1 B3.out.size;have QS:=hiD ((B4.out.block q PP.out.2.1).trans QQ.out);clear ho4 hn4 hg4;simp only [puts,List.foldl_cons,List.foldl_nil,Act.put,List.setIfInBounds_toArray,List.set_cons_succ,List.set_cons_zero];go_wp2;obtain ⟨d0,d1,hbz,hbq⟩:=reply_set (.int .u8 0) (.string u) QS.out (XB.out.trans (Below.mono B4.out XB.out.size)) (by have:=PP.out.2.2;omega) (nLt XB.out.size B4.out.size);exact bodyPost_ret (v:=.tuple #[.slice A4 n4 c4,.agg #[.int .u8 0,.string u]]) (by simp [results,Tryz.results45,go_sem,d0,d1]) rfl ⟨A4,n4,c4,by rw [HR.out];rfl,by rw [HR.out];exact N4.out,by rw [HR.out];exact ((O4.out.set hq3).set hq3).has,.inr (fun b o m e=>nLt (nLt XB.out.size B3.out.size) (O4.out.lo e)),hbz⟩
theorem Do_add (A:Option Addr) (L c:Nat) (l:List PV) (v:CmdV) (w:World) (hL:L=l.length) (hLm:L<=5000) (hA:HasP w A l) (hs:∀p∈l,p.2.size<=1000000) (hv:v.ok w) (hm:v.m.may=true) (hkd1:v.kd=4):
 Calls Tryz.prog 45 #[.slice A L c,v.val] w (PR w A l (doP l v.m)):=by
 have hv0:=hv;obtain ⟨acl,asq,akd,KA,KL,kc,ks,old,new,n⟩:=v;obtain ⟨hcl,hsq,hkd,hn64,hlen,hmx,hhas,heach,hold,hnew⟩:=hv;simp only at hkd1 hcl hsq hkd hn64 hlen hmx hhas heach hold hnew;have hMay:=CM.may_iff.1 hm
 have hk:0<ks.length:=by
  have h:leastK akd<=ks.length:=hMay.len.1;unfold leastK at h
  split at h<;>omega
 obtain ⟨kb,ko,rfl,kl,kf⟩:=hhas (by rintro rfl;exact Nat.not_lt_zero _ hk);have kc0:=kf 0 hk;obtain ⟨k0,hk0⟩:∃k0,k0=ks[0]:=⟨_,rfl⟩;rw [<-hk0] at kc0;have KEY:=hiD (show keyP ks 0=k0 by rw [keyP,hk0];simp [hk]);have hKLn:0<KL:=by omega
 have hKL0:(0:Int)<KL:=by omega
 have KF:=hiD kf;have KLB:=hiD kl;have KC:=hiD kc0;have HMAY:=hiD hMay;have hk':=hiD hk;have HKD:=hiD hkd1;clear kf kl kc0 hk0 hk hkd1 hMay;simp only [CmdV.val,CmdV.cells];have HL:=hiD hL;have HA:=hiD hA;have HV:=hiD hs;have HV0:=hiD hv0;have HM:=hiD hm;have hLi:(L:Int)<=5000:=by omega
 have HLEN:=hiD hlen;have HHAS:=hiD hhas;have hKLi:(KL:Int)<=140737488351232:=by omega
 clear hL hA hs hv0 hm heach hold hnew hlen hhas hmx hkd;go_enter Tryz.func45,Tryz.ntmps45;go_upto_region 1 with (fail)
 obtain ⟨W1,p,q,hW1,hq,hp,FF,XB,QQ,PP⟩:=doSetup w acl asq akd (some ⟨kb,ko,none⟩) KL kc old new n;rw [hW1,hq,hp];have x0:=FF.out 0 _ rfl;have x1:=FF.out 1 _ rfl;have x2:=FF.out 2 _ rfl;have x3:=FF.out 3 _ rfl;have x4:=FF.out 4 _ rfl;have x5:=FF.out 5 _ rfl;have x6:=FF.out 6 _ rfl;have HA1:=hiD (HA.out.below XB.out);have hmay:=refMay_any ⟨acl,asq,akd,some ⟨kb,ko,none⟩,KL,kc,ks,old,new,n⟩ W1 (HV0.out.below XB.out);rw [show (CmdV.m ⟨acl,asq,akd,some ⟨kb,ko,none⟩,KL,kc,ks,old,new,n⟩).may=true from HM.out] at hmay;have MAY:=hiD hmay;clear hmay hW1 hp hq
 go_wp2_with fail
 refine MAY.out.mono ?_;rintro e W2 ⟨rfl,hb2⟩;have B2:=hiD hb2;have HA2:=hiD (HA1.out.below hb2);clear x0 x1 x2 x3 x4 x5 x6 hb2 MAY;have x3:=(B2.out.cell (p:=⟨p,3,none⟩) PP.out.1).trans (FF.out 3 _ rfl);have x4:=(B2.out.cell (p:=⟨p,4,none⟩) PP.out.1).trans (FF.out 4 _ rfl);have x5:=(B2.out.cell (p:=⟨p,5,none⟩) PP.out.1).trans (FF.out 5 _ rfl);have g0:=((XB.out.trans (Below.mono B2.out XB.out.size)).cell (p:=⟨kb,ko+0,none⟩) KLB.out).trans KC.out;rw [Nat.add_zero] at g0
 go_wp2_with fail
 refine (Find_any A L c l k0 W2 HL.out (by omega) HA2.out).mono ?_;rintro e W3 ⟨he,hb3⟩;obtain ⟨x,hx⟩:∃x,x=findI l k0:=⟨_,rfl⟩;rw [<-hx] at he;subst he;have HX:=hiD hx;have B3:=hiD (B2.out.trans (Below.mono hb3 B2.out.size));have HA3:=hiD (HA2.out.below hb3);clear hx hb3 x3 x4 x5 g0;have x3:=(B3.out.cell (p:=⟨p,3,none⟩) PP.out.1).trans (FF.out 3 _ rfl);have x4:=(B3.out.cell (p:=⟨p,4,none⟩) PP.out.1).trans (FF.out 4 _ rfl);have x5:=(B3.out.cell (p:=⟨p,5,none⟩) PP.out.1).trans (FF.out 5 _ rfl);have g0:=((XB.out.trans (Below.mono B3.out XB.out.size)).cell (p:=⟨kb,ko+0,none⟩) KLB.out).trans KC.out;rw [Nat.add_zero] at g0
 have x2:W3.cell? ⟨p,2,none⟩=some (.int .u8 4):=by
  have h:=(B3.out.cell (p:=⟨p,2,none⟩) PP.out.1).trans (FF.out 2 _ rfl);have e:(akd:Int)=4:=by have:=HKD.out;omega
  rw [<-e];exact h
 have x0:=(B3.out.cell (p:=⟨p,0,none⟩) PP.out.1).trans (FF.out 0 _ rfl);have x1:=(B3.out.cell (p:=⟨p,1,none⟩) PP.out.1).trans (FF.out 1 _ rfl);have x6:=(B3.out.cell (p:=⟨p,6,none⟩) PP.out.1).trans (FF.out 6 _ rfl)
 go_wp2_with fail
 have hv3:(CmdV.mk acl asq 4 (some ⟨kb,ko,none⟩) KL kc ks old new n).ok W3:=by
  have h:=HV0.out.below (XB.out.trans (Below.mono B3.out XB.out.size));exact ⟨h.cl,h.sq,by show 4<256;omega,h.n,h.len,h.max,h.has,h.each,h.old,h.new⟩
 have hk00:ks[0]'hk'.out=k0:=by
  have h:=KEY.out;unfold keyP at h;rw [List.getElem?_eq_getElem hk'.out] at h;exact h
 refine (add_any A L c l (CmdV.mk acl asq 4 (some ⟨kb,ko,none⟩) KL kc ks old new n) k0 W3 HL.out (by omega) HA3.out HV.out hv3 hk'.out hk00).mono ?_;rintro e W4 ⟨A4,n4,c4,rfl,hn4,ho4,hat,hb4⟩;have O4:=hiD (aI ho4 hat);have B4:=hiD (B3.out.trans (Below.mono hb4 B3.out.size));have HR:=hiD (doP_add (l:=l) (m:=(CmdV.m ⟨acl,asq,akd,some ⟨kb,ko,none⟩,KL,kc,ks,old,new,n⟩)) HM.out HKD.out KEY.out);obtain ⟨cd,hcd⟩:∃cd,cd=(addP l k0 n).2.1:=⟨_,rfl⟩;obtain ⟨tx,htx⟩:∃tx,tx=(addP l k0 n).2.2:=⟨_,rfl⟩;rw [<-hcd,<-htx];have N4:=hiD (aI hn4 (aI hcd htx));clear hn4 ho4 hat hb4 hcd htx x0 x1 x2 x3 x4 x5 x6 g0 hv3 hk00;have q2:=(B4.out.block q PP.out.2.1).trans QQ.out;have d0:W4.cell? ⟨q,0,none⟩=some (.int .u8 0):=by rw [blk_cell q2 0];rfl
 have d1:W4.cell? ⟨q,1,none⟩=some (.string {data:=#[]}):=by rw [blk_cell q2 1];rfl
 have z0:W4.frozen? ⟨q,0,none⟩=false:=blk_frozen q2 0;have z1:W4.frozen? ⟨q,1,none⟩=false:=blk_frozen q2 1;have QS:=hiD q2;clear q2;go_wp2;obtain ⟨d0,d1,hbz,hbq⟩:=reply_set (.int .u8 (cd:Int)) (.string tx) QS.out (XB.out.trans (Below.mono B4.out XB.out.size)) (by have:=PP.out.2.2;omega) (nLt XB.out.size B4.out.size)
 have hq4:HasP ((W4.setCell ⟨q,0,none⟩ (.int .u8 (cd:Int))).setCell ⟨q,1,none⟩ (.string tx)) A4 (addP l k0 n).1:=fun hne=>by
  obtain ⟨b,o,e1,e2,e3⟩:=O4.out.1 hne
  have hbq2:b≠q:=by
   rcases O4.out.2 with h|h
   ·obtain ⟨b2,o2,f1,f2,_⟩:=HA.out (by rw [<-h.2];exact hne);rw [<-h.1,e1] at f1
    cases f1
    have:=PP.out.2.2;omega
   ·have:=h b o none e1;have:=nLl PP.out.2.1 B3.out.size;omega
  have keep:∀i,((W4.setCell ⟨q,0,none⟩ (.int .u8 (cd:Int))).setCell ⟨q,1,none⟩ (.string tx)).cell? ⟨b,i,none⟩=W4.cell? ⟨b,i,none⟩:=fun i=>
   World.cell?_of_block ((Below.heap_setCell _ _ _ _ hbq2).trans (Below.heap_setCell _ _ _ _ hbq2))
  exact ⟨b,o,e1,by simpa [World.setCell] using e2,fun j hj=>⟨(keep _).trans (e3 j hj).1,(keep _).trans (e3 j hj).2⟩⟩
 exact bodyPost_ret (v:=.tuple #[.slice A4 n4 c4,.agg #[.int .u8 (cd:Int),.string tx]]) (by simp [results,Tryz.results45,go_sem,d0,d1]) rfl ⟨A4,n4,c4,by rw [HR.out];show _=Ending.returned (.tuple #[.slice A4 n4 c4,.agg #[.int .u8 (((addP l k0 n).2.1:Nat):Int),.string (addP l k0 n).2.2]]);rw [<-N4.out.2.1,<-N4.out.2.2],by rw [HR.out];exact N4.out.1,by rw [HR.out];exact hq4,O4.out.2.imp (fun h=>⟨h.1,by rw [HR.out];exact h.2⟩) (fun h b o m e=>nLt (nLt XB.out.size B3.out.size) (h b o m e)),hbz⟩
theorem Do_cas (A:Option Addr) (L c:Nat) (l:List PV) (v:CmdV) (w:World) (hL:L=l.length) (hLm:L<=5000) (hA:HasP w A l) (hs:∀p∈l,p.2.size<=1000000) (hv:v.ok w) (hm:v.m.may=true) (hkd1:v.kd=5):
 Calls Tryz.prog 45 #[.slice A L c,v.val] w (PR w A l (doP l v.m)):=by
 have hv0:=hv;obtain ⟨acl,asq,akd,KA,KL,kc,ks,old,new,n⟩:=v;obtain ⟨hcl,hsq,hkd,hn64,hlen,hmx,hhas,heach,hold,hnew⟩:=hv;simp only at hkd1 hcl hsq hkd hn64 hlen hmx hhas heach hold hnew;have hMay:=CM.may_iff.1 hm
 have hk:0<ks.length:=by
  have h:leastK akd<=ks.length:=hMay.len.1;unfold leastK at h
  split at h<;>omega
 obtain ⟨kb,ko,rfl,kl,kf⟩:=hhas (by rintro rfl;exact Nat.not_lt_zero _ hk);have kc0:=kf 0 hk;obtain ⟨k0,hk0⟩:∃k0,k0=ks[0]:=⟨_,rfl⟩;rw [<-hk0] at kc0;have KEY:=hiD (show keyP ks 0=k0 by rw [keyP,hk0];simp [hk]);have hKLn:0<KL:=by omega
 have hKL0:(0:Int)<KL:=by omega
 have KF:=hiD kf;have KLB:=hiD kl;have KC:=hiD kc0;have HMAY:=hiD hMay;have hk':=hiD hk;have HKD:=hiD hkd1;clear kf kl kc0 hk0 hk hkd1 hMay;simp only [CmdV.val,CmdV.cells];have HL:=hiD hL;have HA:=hiD hA;have HV:=hiD hs;have HV0:=hiD hv0;have HM:=hiD hm;have hLi:(L:Int)<=5000:=by omega
 have HLEN:=hiD hlen;have HHAS:=hiD hhas;have hKLi:(KL:Int)<=140737488351232:=by omega
 clear hL hA hs hv0 hm heach hold hnew hlen hhas hmx hkd;go_enter Tryz.func45,Tryz.ntmps45;go_upto_region 1 with (fail)
 obtain ⟨W1,p,q,hW1,hq,hp,FF,XB,QQ,PP⟩:=doSetup w acl asq akd (some ⟨kb,ko,none⟩) KL kc old new n;rw [hW1,hq,hp];have x0:=FF.out 0 _ rfl;have x1:=FF.out 1 _ rfl;have x2:=FF.out 2 _ rfl;have x3:=FF.out 3 _ rfl;have x4:=FF.out 4 _ rfl;have x5:=FF.out 5 _ rfl;have x6:=FF.out 6 _ rfl;have HA1:=hiD (HA.out.below XB.out);have hmay:=refMay_any ⟨acl,asq,akd,some ⟨kb,ko,none⟩,KL,kc,ks,old,new,n⟩ W1 (HV0.out.below XB.out);rw [show (CmdV.m ⟨acl,asq,akd,some ⟨kb,ko,none⟩,KL,kc,ks,old,new,n⟩).may=true from HM.out] at hmay;have MAY:=hiD hmay;clear hmay hW1 hp hq
 go_wp2_with fail
 refine MAY.out.mono ?_;rintro e W2 ⟨rfl,hb2⟩;have B2:=hiD hb2;have HA2:=hiD (HA1.out.below hb2);clear x0 x1 x2 x3 x4 x5 x6 hb2 MAY;have x3:=(B2.out.cell (p:=⟨p,3,none⟩) PP.out.1).trans (FF.out 3 _ rfl);have x4:=(B2.out.cell (p:=⟨p,4,none⟩) PP.out.1).trans (FF.out 4 _ rfl);have x5:=(B2.out.cell (p:=⟨p,5,none⟩) PP.out.1).trans (FF.out 5 _ rfl);have g0:=((XB.out.trans (Below.mono B2.out XB.out.size)).cell (p:=⟨kb,ko+0,none⟩) KLB.out).trans KC.out;rw [Nat.add_zero] at g0
 go_wp2_with fail
 refine (Find_any A L c l k0 W2 HL.out (by omega) HA2.out).mono ?_;rintro e W3 ⟨he,hb3⟩;obtain ⟨x,hx⟩:∃x,x=findI l k0:=⟨_,rfl⟩;rw [<-hx] at he;subst he;have HX:=hiD hx;have B3:=hiD (B2.out.trans (Below.mono hb3 B2.out.size));have HA3:=hiD (HA2.out.below hb3);clear hx hb3 x3 x4 x5 g0;have x3:=(B3.out.cell (p:=⟨p,3,none⟩) PP.out.1).trans (FF.out 3 _ rfl);have x4:=(B3.out.cell (p:=⟨p,4,none⟩) PP.out.1).trans (FF.out 4 _ rfl);have x5:=(B3.out.cell (p:=⟨p,5,none⟩) PP.out.1).trans (FF.out 5 _ rfl);have g0:=((XB.out.trans (Below.mono B3.out XB.out.size)).cell (p:=⟨kb,ko+0,none⟩) KLB.out).trans KC.out;rw [Nat.add_zero] at g0
 have x2:W3.cell? ⟨p,2,none⟩=some (.int .u8 5):=by
  have h:=(B3.out.cell (p:=⟨p,2,none⟩) PP.out.1).trans (FF.out 2 _ rfl);have e:(akd:Int)=5:=by have:=HKD.out;omega
  rw [<-e];exact h
 rcases find_cases l k0 with ⟨hf,hl⟩|⟨j,hj,hf,hl⟩
 ·have ex:x= -1:=HX.out.trans hf;clear HX;subst ex;have LK:=hiD hl;clear hf hl;have HR:=hiD (doP_cas0 (m:=(CmdV.m ⟨acl,asq,akd,some ⟨kb,ko,none⟩,KL,kc,ks,old,new,n⟩)) HM.out HKD.out KEY.out LK.out);have q2:=(B3.out.block q PP.out.2.1).trans QQ.out;have d0:W3.cell? ⟨q,0,none⟩=some (.int .u8 0):=by rw [blk_cell q2 0];rfl
  have d1:W3.cell? ⟨q,1,none⟩=some (.string {data:=#[]}):=by rw [blk_cell q2 1];rfl
  have z0:W3.frozen? ⟨q,0,none⟩=false:=blk_frozen q2 0;have z1:W3.frozen? ⟨q,1,none⟩=false:=blk_frozen q2 1;have QS:=hiD q2;clear q2;go_wp2;obtain ⟨d0,d1,hbz,hbq⟩:=reply_set (.int .u8 1) (.string {data:=#[]}) QS.out (XB.out.trans (Below.mono B3.out XB.out.size)) (by have:=PP.out.2.2;omega) (nLt XB.out.size B3.out.size);exact bodyPost_ret (v:=.tuple #[.slice A L c,.agg #[.int .u8 1,.string {data:=#[]}]]) (by simp [results,Tryz.results45,go_sem,d0,d1]) rfl ⟨A,L,c,by rw [HR.out];rfl,by rw [HR.out];exact HL.out,by rw [HR.out];exact HA.out.below hbz,.inl ⟨rfl,by rw [HR.out]⟩,hbz⟩
 ·have ex:x=(j:Int):=HX.out.trans hf;clear HX;subst ex;obtain ⟨u,hu⟩:∃u,u=l[j].2:=⟨_,rfl⟩;have LK:=hiD (show lookP l k0=some u by rw [hl,hu]);obtain ⟨ab,ao,e1,l1,f1⟩:=HA3.out (by rintro rfl;exact Nat.not_lt_zero _ hj);subst e1;have cu:=(f1 j hj).2;rw [<-hu] at cu;have hjn:j<L:=by have:=HL.out;omega
  have hjL:(j:Int)<L:=by omega
  have hj0:(0:Int)<=(j:Int):=by omega
  clear hf hl hu f1 l1 hj;have q2:=(B3.out.block q PP.out.2.1).trans QQ.out
  by_cases ho:u=old
  ·have hdo:=(doP_cas2 (m:=(CmdV.m ⟨acl,asq,akd,some ⟨kb,ko,none⟩,KL,kc,ks,old,new,n⟩)) HM.out HKD.out KEY.out LK.out ho);have HDO:=hiD hdo;clear hdo;subst ho;go_upto_region 19 with (fail)
   go_region
   go_upto_region 21 with (fail)
   refine do_cas_region p q kb ko kc KL (some ⟨ab,ao,none⟩) L c l k0 new W3.heap.size _ W3.drew _ rfl rfl rfl rfl (nLr _) q2 HL.out (by omega) HA3.out x3 g0 hKLn x5 ?_;intro vr v4 W4 _ h4 hg4;obtain ⟨A4,n4,c4,rfl,hn4,ho4⟩:=h4;have O4:=hiD ho4;have N4:=hiD hn4;have B4:=hiD (B3.out.trans (Below.mono ((Below.refl _ W3).drew.trans hg4) B3.out.size));have hdo:=HDO.out;have HR:=hiD hdo;clear hdo;have hq3:q<W3.heap.size:=nLl PP.out.2.1 B3.out.size;have QS:=hiD ((B4.out.block q PP.out.2.1).trans QQ.out);clear ho4 hn4 hg4;simp only [puts,List.foldl_cons,List.foldl_nil,Act.put,List.setIfInBounds_toArray,List.set_cons_succ,List.set_cons_zero];go_wp2;obtain ⟨d0,d1,hbz,hbq⟩:=reply_set (.int .u8 0) (.string {data:=#[]}) QS.out (XB.out.trans (Below.mono B4.out XB.out.size)) (by have:=PP.out.2.2;omega) (nLt XB.out.size B4.out.size);exact bodyPost_ret (v:=.tuple #[.slice A4 n4 c4,.agg #[.int .u8 0,.string {data:=#[]}]]) (by simp [results,Tryz.results45,go_sem,d0,d1]) rfl ⟨A4,n4,c4,by rw [HR.out];rfl,by rw [HR.out];exact N4.out,by rw [HR.out];exact ((O4.out.set hq3).set hq3).has,.inr (fun b o m e=>nLt (nLt XB.out.size B3.out.size) (O4.out.lo e)),hbz⟩
  ·have hdo:=(doP_cas1 (m:=(CmdV.m ⟨acl,asq,akd,some ⟨kb,ko,none⟩,KL,kc,ks,old,new,n⟩)) HM.out HKD.out KEY.out LK.out ho);have hne:¬u.toList=old.toList:=fun h=>ho (toList_inj9.1 h)
   have hneb:(u.toList==old.toList)=false:=by simpa using hne
   have HR:=hiD hdo;have d0:W3.cell? ⟨q,0,none⟩=some (.int .u8 0):=by rw [blk_cell q2 0];rfl
   have d1:W3.cell? ⟨q,1,none⟩=some (.string {data:=#[]}):=by rw [blk_cell q2 1];rfl
   have z0:W3.frozen? ⟨q,0,none⟩=false:=blk_frozen q2 0;have z1:W3.frozen? ⟨q,1,none⟩=false:=blk_frozen q2 1;have QS:=hiD q2;clear hdo ho q2;go_upto_region 19 with (fail)
   go_region
   go_wp2;obtain ⟨d0,d1,hbz,hbq⟩:=reply_set (.int .u8 2) (.string {data:=#[]}) QS.out (XB.out.trans (Below.mono B3.out XB.out.size)) (by have:=PP.out.2.2;omega) (nLt XB.out.size B3.out.size);exact bodyPost_ret (v:=.tuple #[.slice (some ⟨ab,ao,none⟩) L c,.agg #[.int .u8 2,.string {data:=#[]}]]) (by simp [results,Tryz.results45,go_sem,d0,d1]) rfl ⟨_,L,c,by rw [HR.out];rfl,by rw [HR.out];exact HL.out,by rw [HR.out];exact HA.out.below hbz.drew,.inl ⟨rfl,by rw [HR.out]⟩,hbz.drew⟩
theorem Do_swap (A:Option Addr) (L c:Nat) (l:List PV) (v:CmdV) (w:World) (hL:L=l.length) (hLm:L<=5000) (hA:HasP w A l) (hs:∀p∈l,p.2.size<=1000000) (hv:v.ok w) (hm:v.m.may=true) (hkd1:v.kd=6):
 Calls Tryz.prog 45 #[.slice A L c,v.val] w (PR w A l (doP l v.m)):=by
 have hv0:=hv;obtain ⟨acl,asq,akd,KA,KL,kc,ks,old,new,n⟩:=v;obtain ⟨hcl,hsq,hkd,hn64,hlen,hmx,hhas,heach,hold,hnew⟩:=hv;simp only at hkd1 hcl hsq hkd hn64 hlen hmx hhas heach hold hnew;have hMay:=CM.may_iff.1 hm
 have hk:0<ks.length:=by
  have h:leastK akd<=ks.length:=hMay.len.1;unfold leastK at h
  split at h<;>omega
 obtain ⟨kb,ko,rfl,kl,kf⟩:=hhas (by rintro rfl;exact Nat.not_lt_zero _ hk);have kc0:=kf 0 hk;obtain ⟨k0,hk0⟩:∃k0,k0=ks[0]:=⟨_,rfl⟩;rw [<-hk0] at kc0;have KEY:=hiD (show keyP ks 0=k0 by rw [keyP,hk0];simp [hk]);have hKLn:0<KL:=by omega
 have hKL0:(0:Int)<KL:=by omega
 have KF:=hiD kf;have KLB:=hiD kl;have KC:=hiD kc0;have HMAY:=hiD hMay;have hk':=hiD hk;have HKD:=hiD hkd1;clear kf kl kc0 hk0 hk hkd1 hMay;simp only [CmdV.val,CmdV.cells];have HL:=hiD hL;have HA:=hiD hA;have HV:=hiD hs;have HV0:=hiD hv0;have HM:=hiD hm;have hLi:(L:Int)<=5000:=by omega
 have HLEN:=hiD hlen;have HHAS:=hiD hhas;have hKLi:(KL:Int)<=140737488351232:=by omega
 clear hL hA hs hv0 hm heach hold hnew hlen hhas hmx hkd;go_enter Tryz.func45,Tryz.ntmps45;go_upto_region 1 with (fail)
 obtain ⟨W1,p,q,hW1,hq,hp,FF,XB,QQ,PP⟩:=doSetup w acl asq akd (some ⟨kb,ko,none⟩) KL kc old new n;rw [hW1,hq,hp];have x0:=FF.out 0 _ rfl;have x1:=FF.out 1 _ rfl;have x2:=FF.out 2 _ rfl;have x3:=FF.out 3 _ rfl;have x4:=FF.out 4 _ rfl;have x5:=FF.out 5 _ rfl;have x6:=FF.out 6 _ rfl;have HA1:=hiD (HA.out.below XB.out);have hmay:=refMay_any ⟨acl,asq,akd,some ⟨kb,ko,none⟩,KL,kc,ks,old,new,n⟩ W1 (HV0.out.below XB.out);rw [show (CmdV.m ⟨acl,asq,akd,some ⟨kb,ko,none⟩,KL,kc,ks,old,new,n⟩).may=true from HM.out] at hmay;have MAY:=hiD hmay;clear hmay hW1 hp hq
 go_wp2_with fail
 refine MAY.out.mono ?_;rintro e W2 ⟨rfl,hb2⟩;have B2:=hiD hb2;have HA2:=hiD (HA1.out.below hb2);clear x0 x1 x2 x3 x4 x5 x6 hb2 MAY;have x3:=(B2.out.cell (p:=⟨p,3,none⟩) PP.out.1).trans (FF.out 3 _ rfl);have x4:=(B2.out.cell (p:=⟨p,4,none⟩) PP.out.1).trans (FF.out 4 _ rfl);have x5:=(B2.out.cell (p:=⟨p,5,none⟩) PP.out.1).trans (FF.out 5 _ rfl);have g0:=((XB.out.trans (Below.mono B2.out XB.out.size)).cell (p:=⟨kb,ko+0,none⟩) KLB.out).trans KC.out;rw [Nat.add_zero] at g0
 go_wp2_with fail
 refine (Find_any A L c l k0 W2 HL.out (by omega) HA2.out).mono ?_;rintro e W3 ⟨he,hb3⟩;obtain ⟨x,hx⟩:∃x,x=findI l k0:=⟨_,rfl⟩;rw [<-hx] at he;subst he;have HX:=hiD hx;have B3:=hiD (B2.out.trans (Below.mono hb3 B2.out.size));have HA3:=hiD (HA2.out.below hb3);clear hx hb3 x3 x4 x5 g0;have x3:=(B3.out.cell (p:=⟨p,3,none⟩) PP.out.1).trans (FF.out 3 _ rfl);have x4:=(B3.out.cell (p:=⟨p,4,none⟩) PP.out.1).trans (FF.out 4 _ rfl);have x5:=(B3.out.cell (p:=⟨p,5,none⟩) PP.out.1).trans (FF.out 5 _ rfl);have g0:=((XB.out.trans (Below.mono B3.out XB.out.size)).cell (p:=⟨kb,ko+0,none⟩) KLB.out).trans KC.out;rw [Nat.add_zero] at g0
 have x2:W3.cell? ⟨p,2,none⟩=some (.int .u8 6):=by
  have h:=(B3.out.cell (p:=⟨p,2,none⟩) PP.out.1).trans (FF.out 2 _ rfl);have e:(akd:Int)=6:=by have:=HKD.out;omega
  rw [<-e];exact h
 have hk2:1<ks.length:=by
  have h:leastK akd<=ks.length:=HMAY.out.len.1;rw [show akd=6 from HKD.out] at h;exact h
 obtain ⟨k1,hk1⟩:∃k1,k1=ks[1]:=⟨_,rfl⟩;have g1:=((XB.out.trans (Below.mono B3.out XB.out.size)).cell (p:=⟨kb,ko+1,none⟩) KLB.out).trans (KF.out 1 hk2);rw [<-hk1] at g1;have hKL2:1<KL:=by have h:KL=ks.length:=HLEN.out;omega
 have hdo:=(doP_swap (l:=l) (m:=(CmdV.m ⟨acl,asq,akd,some ⟨kb,ko,none⟩,KL,kc,ks,old,new,n⟩)) HM.out HKD.out KEY.out (show keyP ks 1=k1 by rw [keyP,hk1];simp [hk2]));have HDO:=hiD hdo;clear hk1 hk2 hdo;go_upto_region 23 with (fail)
 refine do_swap_region p q kb ko kc KL A L c l k0 k1 W3.heap.size _ W3 _ rfl rfl rfl rfl (nLr _) ((B3.out.block q PP.out.2.1).trans QQ.out) HL.out (by omega) HA3.out x3 g0 hKLn g1 hKL2 ?_;intro vr v4 W4 _ h4 hg4;obtain ⟨A4,n4,c4,rfl,hn4,ho4⟩:=h4;have O4:=hiD ho4;have N4:=hiD hn4;have B4:=hiD (B3.out.trans (Below.mono hg4 B3.out.size));have hdo:=HDO.out;have HR:=hiD hdo;clear hdo;have hq3:q<W3.heap.size:=nLl PP.out.2.1 B3.out.size;have QS:=hiD ((B4.out.block q PP.out.2.1).trans QQ.out);clear ho4 hn4 hg4;simp only [puts,List.foldl_cons,List.foldl_nil,Act.put,List.setIfInBounds_toArray,List.set_cons_succ,List.set_cons_zero];go_wp2;obtain ⟨d0,d1,hbz,hbq⟩:=reply_set (.int .u8 0) (.string {data:=#[]}) QS.out (XB.out.trans (Below.mono B4.out XB.out.size)) (by have:=PP.out.2.2;omega) (nLt XB.out.size B4.out.size);exact bodyPost_ret (v:=.tuple #[.slice A4 n4 c4,.agg #[.int .u8 0,.string {data:=#[]}]]) (by simp [results,Tryz.results45,go_sem,d0,d1]) rfl ⟨A4,n4,c4,by rw [HR.out];rfl,by rw [HR.out];exact N4.out,by rw [HR.out];exact ((O4.out.set hq3).set hq3).has,.inr (fun b o m e=>nLt (nLt XB.out.size B3.out.size) (O4.out.lo e)),hbz⟩
theorem Do_join (A:Option Addr) (L c:Nat) (l:List PV) (v:CmdV) (w:World) (hL:L=l.length) (hLm:L<=5000) (hA:HasP w A l) (hs:∀p∈l,p.2.size<=1000000) (hv:v.ok w) (hm:v.m.may=true) (hkd1:v.kd=7):
 Calls Tryz.prog 45 #[.slice A L c,v.val] w (PR w A l (doP l v.m)):=by
 have hv0:=hv;obtain ⟨acl,asq,akd,KA,KL,kc,ks,old,new,n⟩:=v;obtain ⟨hcl,hsq,hkd,hn64,hlen,hmx,hhas,heach,hold,hnew⟩:=hv;simp only at hkd1 hcl hsq hkd hn64 hlen hmx hhas heach hold hnew;have hMay:=CM.may_iff.1 hm
 have hk:0<ks.length:=by
  have h:leastK akd<=ks.length:=hMay.len.1;unfold leastK at h
  split at h<;>omega
 obtain ⟨kb,ko,rfl,kl,kf⟩:=hhas (by rintro rfl;exact Nat.not_lt_zero _ hk);have kc0:=kf 0 hk;obtain ⟨k0,hk0⟩:∃k0,k0=ks[0]:=⟨_,rfl⟩;rw [<-hk0] at kc0;have KEY:=hiD (show keyP ks 0=k0 by rw [keyP,hk0];simp [hk]);have hKLn:0<KL:=by omega
 have hKL0:(0:Int)<KL:=by omega
 have KF:=hiD kf;have KLB:=hiD kl;have KC:=hiD kc0;have HMAY:=hiD hMay;have hk':=hiD hk;have HKD:=hiD hkd1;clear kf kl kc0 hk0 hk hkd1 hMay;simp only [CmdV.val,CmdV.cells];have HL:=hiD hL;have HA:=hiD hA;have HV:=hiD hs;have HV0:=hiD hv0;have HM:=hiD hm;have hLi:(L:Int)<=5000:=by omega
 have HLEN:=hiD hlen;have HHAS:=hiD hhas;have hKLi:(KL:Int)<=140737488351232:=by omega
 clear hL hA hs hv0 hm heach hold hnew hlen hhas hmx hkd;go_enter Tryz.func45,Tryz.ntmps45;go_upto_region 1 with (fail)
 obtain ⟨W1,p,q,hW1,hq,hp,FF,XB,QQ,PP⟩:=doSetup w acl asq akd (some ⟨kb,ko,none⟩) KL kc old new n;rw [hW1,hq,hp];have x0:=FF.out 0 _ rfl;have x1:=FF.out 1 _ rfl;have x2:=FF.out 2 _ rfl;have x3:=FF.out 3 _ rfl;have x4:=FF.out 4 _ rfl;have x5:=FF.out 5 _ rfl;have x6:=FF.out 6 _ rfl;have HA1:=hiD (HA.out.below XB.out);have hmay:=refMay_any ⟨acl,asq,akd,some ⟨kb,ko,none⟩,KL,kc,ks,old,new,n⟩ W1 (HV0.out.below XB.out);rw [show (CmdV.m ⟨acl,asq,akd,some ⟨kb,ko,none⟩,KL,kc,ks,old,new,n⟩).may=true from HM.out] at hmay;have MAY:=hiD hmay;clear hmay hW1 hp hq
 go_wp2_with fail
 refine MAY.out.mono ?_;rintro e W2 ⟨rfl,hb2⟩;have B2:=hiD hb2;have HA2:=hiD (HA1.out.below hb2);clear x0 x1 x2 x3 x4 x5 x6 hb2 MAY;have x3:=(B2.out.cell (p:=⟨p,3,none⟩) PP.out.1).trans (FF.out 3 _ rfl);have x4:=(B2.out.cell (p:=⟨p,4,none⟩) PP.out.1).trans (FF.out 4 _ rfl);have x5:=(B2.out.cell (p:=⟨p,5,none⟩) PP.out.1).trans (FF.out 5 _ rfl);have g0:=((XB.out.trans (Below.mono B2.out XB.out.size)).cell (p:=⟨kb,ko+0,none⟩) KLB.out).trans KC.out;rw [Nat.add_zero] at g0
 go_wp2_with fail
 refine (Find_any A L c l k0 W2 HL.out (by omega) HA2.out).mono ?_;rintro e W3 ⟨he,hb3⟩;obtain ⟨x,hx⟩:∃x,x=findI l k0:=⟨_,rfl⟩;rw [<-hx] at he;subst he;have HX:=hiD hx;have B3:=hiD (B2.out.trans (Below.mono hb3 B2.out.size));have HA3:=hiD (HA2.out.below hb3);clear hx hb3 x3 x4 x5 g0;have x3:=(B3.out.cell (p:=⟨p,3,none⟩) PP.out.1).trans (FF.out 3 _ rfl);have x4:=(B3.out.cell (p:=⟨p,4,none⟩) PP.out.1).trans (FF.out 4 _ rfl);have x5:=(B3.out.cell (p:=⟨p,5,none⟩) PP.out.1).trans (FF.out 5 _ rfl);have g0:=((XB.out.trans (Below.mono B3.out XB.out.size)).cell (p:=⟨kb,ko+0,none⟩) KLB.out).trans KC.out;rw [Nat.add_zero] at g0
 have x2:W3.cell? ⟨p,2,none⟩=some (.int .u8 7):=by
  have h:=(B3.out.cell (p:=⟨p,2,none⟩) PP.out.1).trans (FF.out 2 _ rfl);have e:(akd:Int)=7:=by have:=HKD.out;omega
  rw [<-e];exact h
 have q2:=(B3.out.block q PP.out.2.1).trans QQ.out;have HKS:=hiD (show KL=ks.length from HLEN.out)
 have hKL16:(KL:Int)<=16:=by
  have h1:ks.length<=mostK akd:=HMAY.out.len.2;have h2:=mostK_le akd;have h3:KL=ks.length:=HLEN.out;omega
 have HX2:=hiD x2;have HX3:=hiD x3;have HQ2:=hiD q2;have HAS:=hiD (HHAS.out.below (XB.out.trans (Below.mono B3.out XB.out.size)));have hPP:=hiD (show p<W3.heap.size/\q<W3.heap.size/\kb<W3.heap.size from ⟨nLl PP.out.1 B3.out.size,nLl PP.out.2.1 B3.out.size,nLl KLB.out (Below.size (XB.out.trans (Below.mono B3.out XB.out.size)))⟩);clear x3 x4 x5 g0 q2 hKL0 hKLn;go_upto_region 26 with (fail)
 clear x2 HX;go_wp2
 go_loopw [7,8,9] (fun t r i wr=>∃(j:Nat) (T:ByteArray) (A8:Option Addr) (n8 c8:Nat),j<=KL/\i=.int .i64 (j:Int)/\t=.string T/\r=.slice A8 n8 c8/\n8<=5000/\T.size<=j*1000001/\Hid (T=str (joinP l (ks.take j)))/\Hid (n8=(restP l (ks.take j)).length)/\Hid (HasP wr A8 (restP l (ks.take j)))/\Hid (A8=A/\restP l (ks.take j)=l\/∀b o m,A8=some ⟨b,o,m⟩->W3.heap.size<=b)/\Hid (Below W3.heap.size W3 wr)) (fun _ _ i _=>KL - (intOf i).toNat)
 case atStart=>
  exact ⟨0,⟨#[]⟩,A,L,c,Nat.zero_le _,rfl,rfl,rfl,hLm,nLr _,hiD rfl,hiD HL.out,hiD HA3.out,hiD (.inl ⟨rfl,rfl⟩),hiD (Below.refl _ _)⟩
 case round=>
  obtain ⟨j,T,A8,n8,c8,hj,rfl,rfl,rfl,hn8,hTs,HT,HN8,HP8,HAT,HB⟩:=hrel;have x3:=(HB.out.cell (p:=⟨p,3,none⟩) hPP.out.1).trans HX3.out
  by_cases hlt:j<KL
  ·have hji:(j:Int)<KL:=by omega
   have hj1:j<ks.length:=by have:=HKS.out;omega
   obtain ⟨kj,hkj⟩:∃kj,kj=ks[j]:=⟨_,rfl⟩;have gj:=((XB.out.trans (Below.mono B3.out XB.out.size)).trans (Below.mono HB.out (Below.size (XB.out.trans (Below.mono B3.out XB.out.size))))).cell (p:=⟨kb,ko+j,none⟩) KLB.out |>.trans (KF.out j hj1);rw [<-hkj] at gj;have HS1:=hiD (joinP_succ (l:=l) hj1);have HS2:=hiD (restP_succ (l:=l) hj1);have HKJ:=hiD hkj;clear hkj
   go_wp2_with fail
   refine (Find_any A L c l kj wr HL.out (by omega) (HA3.out.below HB.out)).mono ?_;rintro e W4 ⟨he,hb4⟩;obtain ⟨y,hy⟩:∃y,y=findI l kj:=⟨_,rfl⟩;rw [<-hy] at he;subst he;have HY:=hiD hy;have B4:=hiD (HB.out.trans (Below.mono hb4 HB.out.size));have HP84:=hiD (HP8.out.below hb4);clear hy hb4 x3 gj;go_upto_region 30 with (fail)
   go_cut [125] (fun s wx=>W4=wx/\s=.bool (decide (0<=y)))
   case first=>
    go_wp2;go_meet;exact ⟨rfl,rfl⟩
   obtain ⟨rfl,rfl⟩:=hcut
   apply_assumption
   go_cut [7] (fun s7 wx=>W4=wx/\∃T2:ByteArray,s7=.string T2/\T2.size<=j*1000001+1000000/\Hid (T2++str [44]=str (joinP l (ks.take (j+1)))))
   case first=>
    rcases find_cases l kj with ⟨hf,hl⟩|⟨i,hi,hf,hl⟩
    ·have ey:y= -1:=HY.out.trans hf;clear HY;subst ey
     have hT2:T++str [44]=str (joinP l (ks.take (j+1))):=by
      rw [HS1.out,<-HKJ.out,hl,HT.out,<-str_append];simp
     have HT2:=hiD hT2;clear hf hl hT2;go_wp2;go_meet;exact ⟨rfl,T,rfl,nLt hTs (Nat.le_add_right _ _),HT2⟩
    ·have ey:y=(i:Int):=HY.out.trans hf;clear HY;subst ey;obtain ⟨u,hu⟩:∃u,u=l[i].2:=⟨_,rfl⟩;have hus:u.size<=1000000:=by rw [hu];exact HV.out l[i] (List.getElem_mem hi)
     have hT2:T++u++str [44]=str (joinP l (ks.take (j+1))):=by
      rw [HS1.out,<-HKJ.out,hl,<-hu,HT.out];show _=str (joinP l (ks.take j)++u.data.toList++[44]);rw [str_append,str_append,str_data]
     obtain ⟨ab,ao,e1,l1,f1⟩:=HA.out (by rintro rfl;exact Nat.not_lt_zero _ hi);subst e1;have cu:=((XB.out.trans (Below.mono B3.out XB.out.size)).trans (Below.mono B4.out (Below.size (XB.out.trans (Below.mono B3.out XB.out.size))))).cell (p:=⟨ab,ao+i*2+1,none⟩) l1 |>.trans (f1 i hi).2;rw [<-hu] at cu;have hiL:(i:Int)<L:=by have:=HL.out;omega
     have hi0:(0:Int)<=(i:Int):=by omega
     have hj16:j<=16:=by omega
     have hsz:T.size+u.size<=9223372036854775807:=by omega
     have hsT:(T++u).size<=j*1000001+1000000:=by rw [ByteArray.size_append];omega
     have HT2:=hiD (aI hT2 hsT);clear hf hl hT2 hu hsT f1 l1;go_wp2;go_meet;exact ⟨rfl,T++u,rfl,HT2.out.2,hiD HT2.out.1⟩
   obtain ⟨rfl,T2,rfl,hT2s,HT2⟩:=hcut
   apply_assumption
   have x3:=(B4.out.cell (p:=⟨p,3,none⟩) hPP.out.1).trans HX3.out;have gj:=((XB.out.trans (Below.mono B3.out XB.out.size)).trans (Below.mono B4.out (Below.size (XB.out.trans (Below.mono B3.out XB.out.size))))).cell (p:=⟨kb,ko+j,none⟩) KLB.out |>.trans (KF.out j hj1);rw [<-HKJ.out] at gj
   go_wp2_with fail
   refine (Without_any A8 n8 c8 (restP l (ks.take j)) kj W4 HN8.out (nLt hn8 (by decide)) HP84.out).mono ?_;rintro e W5 ⟨v5,rfl,ho5,hb5⟩;rw [HKJ.out,<-HS2.out] at ho5;obtain ⟨A5,c5,rfl,_⟩:=ho5.form;obtain ⟨n5,hn5⟩:∃n5,n5=(restP l (ks.take (j+1))).length:=⟨_,rfl⟩
   have hn5l:n5<=5000:=by
    rw [hn5];exact nLt (restP_len l _) (by rw [<-HL.out];exact hLm)
   rw [<-hn5] at ho5 ⊢;have O5:=hiD ho5;have N5:=hiD hn5;have B5:=hiD (B4.out.trans (Below.mono hb5 B4.out.size))
   have hT3:(T2++str [44]).size<=(j+1)*1000001:=by
    rw [ByteArray.size_append];show T2.size+1<=_;rw [Nat.add_mul];omega
   have HT3:=hiD hT3;clear ho5 hn5 hb5 x3 gj hT3;go_wp2;exact ⟨⟨j+1,T2++str [44],A5,n5,c5,by omega,by congr 1,rfl,rfl,hn5l,HT3.out,HT2,N5,hiD O5.out.has,hiD (.inr (fun b o m e=>nLt B4.out.size (O5.out.lo e))),B5⟩,by simp only [intOf];omega⟩
  ·have hji:¬(j:Int)<KL:=by omega
   obtain rfl:j=KL:=by omega
   have hks:ks.take j=ks:=by rw [HKS.out];exact List.take_length
   rw [hks] at HT HN8 HP8 HAT;have x2:=(HB.out.cell (p:=⟨p,2,none⟩) hPP.out.1).trans HX2.out;have q2:=(HB.out.block q hPP.out.2.1).trans HQ2.out;have QS:=hiD q2;have BB:=hiD (B3.out.trans (Below.mono HB.out B3.out.size));have d0:wr.cell? ⟨q,0,none⟩=some (.int .u8 0):=by rw [blk_cell q2 0];rfl
   have d1:wr.cell? ⟨q,1,none⟩=some (.string {data:=#[]}):=by rw [blk_cell q2 1];rfl
   have z0:wr.frozen? ⟨q,0,none⟩=false:=blk_frozen q2 0;have z1:wr.frozen? ⟨q,1,none⟩=false:=blk_frozen q2 1;clear q2 hks;have HR:=hiD (doP_join (l:=l) (m:=(CmdV.m ⟨acl,asq,akd,some ⟨kb,ko,none⟩,j,kc,ks,old,new,n⟩)) HM.out HKD.out);go_wp2;rw [HT.out];obtain ⟨d0,d1,hbz,hbq⟩:=reply_set (.int .u8 0) (.string (str (joinP l ks))) QS.out (XB.out.trans (Below.mono BB.out XB.out.size)) (by have:=PP.out.2.2;omega) (nLt XB.out.size BB.out.size);exact bodyPost_ret (v:=.tuple #[.slice A L c,.agg #[.int .u8 0,.string (str (joinP l ks))]]) (by simp [results,Tryz.results45,go_sem,d0,d1]) rfl ⟨A,L,c,by rw [HR.out];rfl,by rw [HR.out];exact HL.out,by rw [HR.out];exact HA.out.below hbz,.inl ⟨rfl,by rw [HR.out]⟩,hbz⟩
theorem Do_clear (A:Option Addr) (L c:Nat) (l:List PV) (v:CmdV) (w:World) (hL:L=l.length) (hLm:L<=5000) (hA:HasP w A l) (hs:∀p∈l,p.2.size<=1000000) (hv:v.ok w) (hm:v.m.may=true) (hkd1:v.kd=8):
 Calls Tryz.prog 45 #[.slice A L c,v.val] w (PR w A l (doP l v.m)):=by
 have hv0:=hv;obtain ⟨acl,asq,akd,KA,KL,kc,ks,old,new,n⟩:=v;obtain ⟨hcl,hsq,hkd,hn64,hlen,hmx,hhas,heach,hold,hnew⟩:=hv;simp only at hkd1 hcl hsq hkd hn64 hlen hmx hhas heach hold hnew;have hMay:=CM.may_iff.1 hm
 have hk:0<ks.length:=by
  have h:leastK akd<=ks.length:=hMay.len.1;unfold leastK at h
  split at h<;>omega
 obtain ⟨kb,ko,rfl,kl,kf⟩:=hhas (by rintro rfl;exact Nat.not_lt_zero _ hk);have kc0:=kf 0 hk;obtain ⟨k0,hk0⟩:∃k0,k0=ks[0]:=⟨_,rfl⟩;rw [<-hk0] at kc0;have KEY:=hiD (show keyP ks 0=k0 by rw [keyP,hk0];simp [hk]);have hKLn:0<KL:=by omega
 have hKL0:(0:Int)<KL:=by omega
 have KF:=hiD kf;have KLB:=hiD kl;have KC:=hiD kc0;have HMAY:=hiD hMay;have hk':=hiD hk;have HKD:=hiD hkd1;clear kf kl kc0 hk0 hk hkd1 hMay;simp only [CmdV.val,CmdV.cells];have HL:=hiD hL;have HA:=hiD hA;have HV:=hiD hs;have HV0:=hiD hv0;have HM:=hiD hm;have hLi:(L:Int)<=5000:=by omega
 have HLEN:=hiD hlen;have HHAS:=hiD hhas;have hKLi:(KL:Int)<=140737488351232:=by omega
 clear hL hA hs hv0 hm heach hold hnew hlen hhas hmx hkd;go_enter Tryz.func45,Tryz.ntmps45;go_upto_region 1 with (fail)
 obtain ⟨W1,p,q,hW1,hq,hp,FF,XB,QQ,PP⟩:=doSetup w acl asq akd (some ⟨kb,ko,none⟩) KL kc old new n;rw [hW1,hq,hp];have x0:=FF.out 0 _ rfl;have x1:=FF.out 1 _ rfl;have x2:=FF.out 2 _ rfl;have x3:=FF.out 3 _ rfl;have x4:=FF.out 4 _ rfl;have x5:=FF.out 5 _ rfl;have x6:=FF.out 6 _ rfl;have HA1:=hiD (HA.out.below XB.out);have hmay:=refMay_any ⟨acl,asq,akd,some ⟨kb,ko,none⟩,KL,kc,ks,old,new,n⟩ W1 (HV0.out.below XB.out);rw [show (CmdV.m ⟨acl,asq,akd,some ⟨kb,ko,none⟩,KL,kc,ks,old,new,n⟩).may=true from HM.out] at hmay;have MAY:=hiD hmay;clear hmay hW1 hp hq
 go_wp2_with fail
 refine MAY.out.mono ?_;rintro e W2 ⟨rfl,hb2⟩;have B2:=hiD hb2;have HA2:=hiD (HA1.out.below hb2);clear x0 x1 x2 x3 x4 x5 x6 hb2 MAY;have x3:=(B2.out.cell (p:=⟨p,3,none⟩) PP.out.1).trans (FF.out 3 _ rfl);have x4:=(B2.out.cell (p:=⟨p,4,none⟩) PP.out.1).trans (FF.out 4 _ rfl);have x5:=(B2.out.cell (p:=⟨p,5,none⟩) PP.out.1).trans (FF.out 5 _ rfl);have g0:=((XB.out.trans (Below.mono B2.out XB.out.size)).cell (p:=⟨kb,ko+0,none⟩) KLB.out).trans KC.out;rw [Nat.add_zero] at g0
 go_wp2_with fail
 refine (Find_any A L c l k0 W2 HL.out (by omega) HA2.out).mono ?_;rintro e W3 ⟨he,hb3⟩;obtain ⟨x,hx⟩:∃x,x=findI l k0:=⟨_,rfl⟩;rw [<-hx] at he;subst he;have HX:=hiD hx;have B3:=hiD (B2.out.trans (Below.mono hb3 B2.out.size));have HA3:=hiD (HA2.out.below hb3);clear hx hb3 x3 x4 x5 g0;have x3:=(B3.out.cell (p:=⟨p,3,none⟩) PP.out.1).trans (FF.out 3 _ rfl);have x4:=(B3.out.cell (p:=⟨p,4,none⟩) PP.out.1).trans (FF.out 4 _ rfl);have x5:=(B3.out.cell (p:=⟨p,5,none⟩) PP.out.1).trans (FF.out 5 _ rfl);have g0:=((XB.out.trans (Below.mono B3.out XB.out.size)).cell (p:=⟨kb,ko+0,none⟩) KLB.out).trans KC.out;rw [Nat.add_zero] at g0
 have x2:W3.cell? ⟨p,2,none⟩=some (.int .u8 8):=by
  have h:=(B3.out.cell (p:=⟨p,2,none⟩) PP.out.1).trans (FF.out 2 _ rfl);have e:(akd:Int)=8:=by have:=HKD.out;omega
  rw [<-e];exact h
 have q2:=(B3.out.block q PP.out.2.1).trans QQ.out;have HKS:=hiD (show KL=ks.length from HLEN.out)
 have hKL16:(KL:Int)<=16:=by
  have h1:ks.length<=mostK akd:=HMAY.out.len.2;have h2:=mostK_le akd;have h3:KL=ks.length:=HLEN.out;omega
 have HX2:=hiD x2;have HX3:=hiD x3;have HQ2:=hiD q2;have HAS:=hiD (HHAS.out.below (XB.out.trans (Below.mono B3.out XB.out.size)));have hPP:=hiD (show p<W3.heap.size/\q<W3.heap.size/\kb<W3.heap.size from ⟨nLl PP.out.1 B3.out.size,nLl PP.out.2.1 B3.out.size,nLl KLB.out (Below.size (XB.out.trans (Below.mono B3.out XB.out.size)))⟩);clear x3 x4 x5 g0 q2 hKL0 hKLn;go_upto_region 26 with (fail)
 clear x2 HX;go_wp2
 go_loopw [7,8,9] (fun t r i wr=>∃(j:Nat) (T:ByteArray) (A8:Option Addr) (n8 c8:Nat),j<=KL/\i=.int .i64 (j:Int)/\t=.string T/\r=.slice A8 n8 c8/\n8<=5000/\T.size<=j*1000001/\Hid (T=str (joinP l (ks.take j)))/\Hid (n8=(restP l (ks.take j)).length)/\Hid (HasP wr A8 (restP l (ks.take j)))/\Hid (A8=A/\restP l (ks.take j)=l\/∀b o m,A8=some ⟨b,o,m⟩->W3.heap.size<=b)/\Hid (Below W3.heap.size W3 wr)) (fun _ _ i _=>KL - (intOf i).toNat)
 case atStart=>
  exact ⟨0,⟨#[]⟩,A,L,c,Nat.zero_le _,rfl,rfl,rfl,hLm,nLr _,hiD rfl,hiD HL.out,hiD HA3.out,hiD (.inl ⟨rfl,rfl⟩),hiD (Below.refl _ _)⟩
 case round=>
  obtain ⟨j,T,A8,n8,c8,hj,rfl,rfl,rfl,hn8,hTs,HT,HN8,HP8,HAT,HB⟩:=hrel;have x3:=(HB.out.cell (p:=⟨p,3,none⟩) hPP.out.1).trans HX3.out
  by_cases hlt:j<KL
  ·have hji:(j:Int)<KL:=by omega
   have hj1:j<ks.length:=by have:=HKS.out;omega
   obtain ⟨kj,hkj⟩:∃kj,kj=ks[j]:=⟨_,rfl⟩;have gj:=((XB.out.trans (Below.mono B3.out XB.out.size)).trans (Below.mono HB.out (Below.size (XB.out.trans (Below.mono B3.out XB.out.size))))).cell (p:=⟨kb,ko+j,none⟩) KLB.out |>.trans (KF.out j hj1);rw [<-hkj] at gj;have HS1:=hiD (joinP_succ (l:=l) hj1);have HS2:=hiD (restP_succ (l:=l) hj1);have HKJ:=hiD hkj;clear hkj
   go_wp2_with fail
   refine (Find_any A L c l kj wr HL.out (by omega) (HA3.out.below HB.out)).mono ?_;rintro e W4 ⟨he,hb4⟩;obtain ⟨y,hy⟩:∃y,y=findI l kj:=⟨_,rfl⟩;rw [<-hy] at he;subst he;have HY:=hiD hy;have B4:=hiD (HB.out.trans (Below.mono hb4 HB.out.size));have HP84:=hiD (HP8.out.below hb4);clear hy hb4 x3 gj;go_upto_region 30 with (fail)
   go_cut [125] (fun s wx=>W4=wx/\s=.bool (decide (0<=y)))
   case first=>
    go_wp2;go_meet;exact ⟨rfl,rfl⟩
   obtain ⟨rfl,rfl⟩:=hcut
   apply_assumption
   go_cut [7] (fun s7 wx=>W4=wx/\∃T2:ByteArray,s7=.string T2/\T2.size<=j*1000001+1000000/\Hid (T2++str [44]=str (joinP l (ks.take (j+1)))))
   case first=>
    rcases find_cases l kj with ⟨hf,hl⟩|⟨i,hi,hf,hl⟩
    ·have ey:y= -1:=HY.out.trans hf;clear HY;subst ey
     have hT2:T++str [44]=str (joinP l (ks.take (j+1))):=by
      rw [HS1.out,<-HKJ.out,hl,HT.out,<-str_append];simp
     have HT2:=hiD hT2;clear hf hl hT2;go_wp2;go_meet;exact ⟨rfl,T,rfl,nLt hTs (Nat.le_add_right _ _),HT2⟩
    ·have ey:y=(i:Int):=HY.out.trans hf;clear HY;subst ey;obtain ⟨u,hu⟩:∃u,u=l[i].2:=⟨_,rfl⟩;have hus:u.size<=1000000:=by rw [hu];exact HV.out l[i] (List.getElem_mem hi)
     have hT2:T++u++str [44]=str (joinP l (ks.take (j+1))):=by
      rw [HS1.out,<-HKJ.out,hl,<-hu,HT.out];show _=str (joinP l (ks.take j)++u.data.toList++[44]);rw [str_append,str_append,str_data]
     obtain ⟨ab,ao,e1,l1,f1⟩:=HA.out (by rintro rfl;exact Nat.not_lt_zero _ hi);subst e1;have cu:=((XB.out.trans (Below.mono B3.out XB.out.size)).trans (Below.mono B4.out (Below.size (XB.out.trans (Below.mono B3.out XB.out.size))))).cell (p:=⟨ab,ao+i*2+1,none⟩) l1 |>.trans (f1 i hi).2;rw [<-hu] at cu;have hiL:(i:Int)<L:=by have:=HL.out;omega
     have hi0:(0:Int)<=(i:Int):=by omega
     have hj16:j<=16:=by omega
     have hsz:T.size+u.size<=9223372036854775807:=by omega
     have hsT:(T++u).size<=j*1000001+1000000:=by rw [ByteArray.size_append];omega
     have HT2:=hiD (aI hT2 hsT);clear hf hl hT2 hu hsT f1 l1;go_wp2;go_meet;exact ⟨rfl,T++u,rfl,HT2.out.2,hiD HT2.out.1⟩
   obtain ⟨rfl,T2,rfl,hT2s,HT2⟩:=hcut
   apply_assumption
   have x3:=(B4.out.cell (p:=⟨p,3,none⟩) hPP.out.1).trans HX3.out;have gj:=((XB.out.trans (Below.mono B3.out XB.out.size)).trans (Below.mono B4.out (Below.size (XB.out.trans (Below.mono B3.out XB.out.size))))).cell (p:=⟨kb,ko+j,none⟩) KLB.out |>.trans (KF.out j hj1);rw [<-HKJ.out] at gj
   go_wp2_with fail
   refine (Without_any A8 n8 c8 (restP l (ks.take j)) kj W4 HN8.out (nLt hn8 (by decide)) HP84.out).mono ?_;rintro e W5 ⟨v5,rfl,ho5,hb5⟩;rw [HKJ.out,<-HS2.out] at ho5;obtain ⟨A5,c5,rfl,_⟩:=ho5.form;obtain ⟨n5,hn5⟩:∃n5,n5=(restP l (ks.take (j+1))).length:=⟨_,rfl⟩
   have hn5l:n5<=5000:=by
    rw [hn5];exact nLt (restP_len l _) (by rw [<-HL.out];exact hLm)
   rw [<-hn5] at ho5 ⊢;have O5:=hiD ho5;have N5:=hiD hn5;have B5:=hiD (B4.out.trans (Below.mono hb5 B4.out.size))
   have hT3:(T2++str [44]).size<=(j+1)*1000001:=by
    rw [ByteArray.size_append];show T2.size+1<=_;rw [Nat.add_mul];omega
   have HT3:=hiD hT3;clear ho5 hn5 hb5 x3 gj hT3;go_wp2;exact ⟨⟨j+1,T2++str [44],A5,n5,c5,by omega,by congr 1,rfl,rfl,hn5l,HT3.out,HT2,N5,hiD O5.out.has,hiD (.inr (fun b o m e=>nLt B4.out.size (O5.out.lo e))),B5⟩,by simp only [intOf];omega⟩
  ·have hji:¬(j:Int)<KL:=by omega
   obtain rfl:j=KL:=by omega
   have hks:ks.take j=ks:=by rw [HKS.out];exact List.take_length
   rw [hks] at HT HN8 HP8 HAT;have x2:=(HB.out.cell (p:=⟨p,2,none⟩) hPP.out.1).trans HX2.out;have q2:=(HB.out.block q hPP.out.2.1).trans HQ2.out;have QS:=hiD q2;have BB:=hiD (B3.out.trans (Below.mono HB.out B3.out.size));have d0:wr.cell? ⟨q,0,none⟩=some (.int .u8 0):=by rw [blk_cell q2 0];rfl
   have d1:wr.cell? ⟨q,1,none⟩=some (.string {data:=#[]}):=by rw [blk_cell q2 1];rfl
   have z0:wr.frozen? ⟨q,0,none⟩=false:=blk_frozen q2 0;have z1:wr.frozen? ⟨q,1,none⟩=false:=blk_frozen q2 1;clear q2 hks;have HR:=hiD (doP_clear (l:=l) (m:=(CmdV.m ⟨acl,asq,akd,some ⟨kb,ko,none⟩,j,kc,ks,old,new,n⟩)) HM.out HKD.out);have hz1: -9223372036854775808<=(L:Int) - (n8:Int):=by omega
   have hz2:(L:Int) - (n8:Int)<=9223372036854775807:=by omega
   go_wp2_with fail
   refine (Decimal_any ((L:Int) - (n8:Int)) hz1 hz2 wr).mono ?_;rintro e W6 ⟨rfl,hb6⟩;have B6:=hiD (BB.out.trans (Below.mono hb6 BB.out.size));have HP86:=hiD (HP8.out.below hb6);obtain ⟨S,hS⟩:∃S,S=str (decI ((L:Int) - (n8:Int))):=⟨_,rfl⟩;rw [<-hS];have HS:=hiD hS;clear hS hb6 QS d0 d1 z0 z1 x2 x3;have q2:=(B6.out.block q PP.out.2.1).trans QQ.out;have d0:W6.cell? ⟨q,0,none⟩=some (.int .u8 0):=by rw [blk_cell q2 0];rfl
   have d1:W6.cell? ⟨q,1,none⟩=some (.string {data:=#[]}):=by rw [blk_cell q2 1];rfl
   have z0:W6.frozen? ⟨q,0,none⟩=false:=blk_frozen q2 0;have z1:W6.frozen? ⟨q,1,none⟩=false:=blk_frozen q2 1;have QS:=hiD q2;clear q2;go_wp2;obtain ⟨d0,d1,hbz,hbq⟩:=reply_set (.int .u8 0) (.string S) QS.out (XB.out.trans (Below.mono B6.out XB.out.size)) (by have:=PP.out.2.2;omega) (nLt XB.out.size B6.out.size);refine bodyPost_ret (v:=.tuple #[.slice A8 n8 c8,.agg #[.int .u8 0,.string S]]) (by simp [results,Tryz.results45,go_sem,d0,d1]) rfl ⟨A8,n8,c8,?_,by rw [HR.out];exact HN8.out,by rw [HR.out];exact hasP_set _ _ HA.out HP86.out HAT.out (by have:=PP.out.2.2;omega) (nLl PP.out.2.1 B3.out.size),?_,hbz⟩
   ·rw [HR.out,HS.out,HL.out,HN8.out];rfl
   ·rw [HR.out];exact HAT.out.imp (fun h=>h) (fun h b o m e=>nLt (nLt XB.out.size B3.out.size) (h b o m e))
theorem refDo_any (A:Option Addr) (L c:Nat) (l:List PV) (v:CmdV) (w:World) (hL:L=l.length) (hLm:L<=5000) (hA:HasP w A l) (hs:∀p∈l,p.2.size<=1000000) (hv:v.ok w):
 Calls Tryz.prog 45 #[.slice A L c,v.val] w (PR w A l (doP l v.m)):=by
 cases hm:v.m.may with
 |false=>exact Do_no A L c l v w hL hLm hA hs hv hm
 |true=>
  obtain ⟨h1,h2⟩:=(CM.may_iff.1 hm).kd;have h1':1<=v.kd:=h1;have h2':v.kd<=8:=h2;have hc:v.kd=1\/v.kd=2\/v.kd=3\/v.kd=4\/v.kd=5\/v.kd=6\/v.kd=7\/v.kd=8:=by omega
  rcases hc with h|h|h|h|h|h|h|h
  ·exact Do_put A L c l v w hL hLm hA hs hv hm h
  ·exact Do_get A L c l v w hL hLm hA hs hv hm h
  ·exact Do_del A L c l v w hL hLm hA hs hv hm h
  ·exact Do_add A L c l v w hL hLm hA hs hv hm h
  ·exact Do_cas A L c l v w hL hLm hA hs hv hm h
  ·exact Do_swap A L c l v w hL hLm hA hs hv hm h
  ·exact Do_join A L c l v w hL hLm hA hs hv hm h
  ·exact Do_clear A L c l v w hL hLm hA hs hv hm h
end Go.Proofs.YtfjmdkhemnmkpaaGreatDoor
