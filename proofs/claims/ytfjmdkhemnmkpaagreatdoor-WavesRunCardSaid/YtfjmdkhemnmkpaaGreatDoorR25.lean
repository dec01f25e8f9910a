/- Parts of the proof: RxOw, WvRuR. -/
import Derived.Test.YtfjmdkhemnmkpaaGreatDoorR24
import Derived.Test.YtfjmdkhemnmkpaaGreatDoorR02
import Derived.Test.YtfjmdkhemnmkpaaGreatDoorR23
set_option maxRecDepth 100000
set_option maxHeartbeats 8000000
namespace Go.Proofs.YtfjmdkhemnmkpaaGreatDoor
open Go.RowKit
theorem HasZ.belowX {w W:World} {A:Option Addr} {zs:List Int} (h:HasZ w A zs) (hb:Below w.heap.size w W):HasZ W A zs:=fun hl=>by
 obtain ⟨b,o,e,h1,h2⟩:=h hl;exact ⟨b,o,e,nLl h1 hb.size,fun j hj=>(hb.cell (p:=⟨b,o+j,none⟩) h1).trans (h2 j hj)⟩
theorem refOrder_any (A:Option Addr) (L c:Nat) (l:List CmdV) (P:Option Addr) (Lp cp:Nat) (zs:List Int) (w:World) (hl:L=l.length) (hL:L<=100) (hA:HasC w A l) (hng:∀v∈l,¬v.great) (hLp:Lp=zs.length) (hLp2:Lp<=200) (hZ:HasZ w P zs) (hz:∀z∈zs, -9223372036854775808<=z/\z<=9223372036854775807):
 Calls Tryz.prog 11 #[.slice A L c,.slice P Lp cp] w fun e W'=>∃x,e=.returned x/\OwnI w.heap.size W' x (orderM (picksM zs) (l.map (·.m)))/\Below w.heap.size w W':=by
 have HW:=hiD (refWaves_any A L c l w hl hL hA hng);obtain ⟨ms,hms⟩:∃ms,ms=l.map (·.m):=⟨_,rfl⟩;rw [<-hms] at HW ⊢;have hmsl:ms.length=L:=by rw [hms,List.length_map];exact hl.symm
 have HM:=hiD hmsl;have HP:=hiD (aI hLp (aI hLp2 (aI hZ hz)));have hLi:(L:Int)<=100:=by omega
 clear hms hl hA hng hLp hLp2 hZ hz hmsl;go_enter Tryz.func11,Tryz.ntmps11
 go_wp2_with fail
 refine HW.out.mono ?_;rintro e W1 ⟨x,rfl,ho,hb⟩;obtain ⟨A5,c5,rfl,_⟩:=ho.form;have hwl:(wavesI ms).length=L:=by rw [wavesI_len];exact HM.out
 rw [hwl];have HWV:=hiD ho.has;have BW:=hiD hb;clear ho hb hwl HW;go_wp2
 go_loopw [6,7] (fun s6 i wr=>∃(t M:Nat) (A6:Option Addr) (c6:Nat),t<=100/\i=.int .i64 (t:Int)/\s6=.slice A6 M c6/\M<=L/\Hid (M=(ordTo (picksM zs) ms t).length)/\Hid (OwnI W1.heap.size wr (.slice A6 M c6) (ordTo (picksM zs) ms t))/\Hid (Below W1.heap.size W1 wr)) (fun _ i _=>100 - (intOf i).toNat)
 case atStart=>exact ⟨0,0,none,0,Nat.zero_le _,rfl,rfl,Nat.zero_le _,hiD (by simp [ordTo,orderW]),hiD (by simpa [ordTo,orderW] using OwnI.nil _ _),hiD (Below.refl _ _)⟩
 case round=>
  obtain ⟨t,M,A6,c6,ht,rfl,rfl,hM,HO,HOW,HB⟩:=hrel
  by_cases hlt:M<L
  ·have hMi:(M:Int)<L:=by omega
   have htw:t<numW ms:=ordTo_lt (picksM zs) ms (by have:=HO.out;have:=HM.out;omega);have htl:t<L:=by have:=wave_few htw;have:=HM.out;omega
   have HTW:=hiD htw;obtain ⟨wo,hwo⟩:∃x,x=wr:=⟨_,rfl⟩;rw [<-hwo] at HOW HB ⊢;clear htw hwo;go_wp2
   go_loopw [8,9] (fun s8 i wx=>∃(j N:Nat) (A8:Option Addr) (c8:Nat),j<=L/\i=.int .i64 (j:Int)/\s8=.slice A8 N c8/\N<=100/\Hid (N=(waveTo ms t j).length)/\Hid (OwnI wo.heap.size wx (.slice A8 N c8) (waveTo ms t j))/\Hid (Below wo.heap.size wo wx)) (fun _ i _=>L - (intOf i).toNat)
   case atStart=>exact ⟨0,0,none,0,Nat.zero_le _,rfl,rfl,Nat.zero_le _,hiD (by simp [waveTo]),hiD (by simpa [waveTo] using OwnI.nil _ _),hiD (Below.refl _ _)⟩
   case round=>
    obtain ⟨j,N,A8,c8,hj,rfl,rfl,hN,HN,H8,HX⟩:=hrel
    by_cases hjl:j<L
    ·have hji:(j:Int)<L:=by omega
     have hjw:j<(wavesI ms).length:=by rw [wavesI_len];have:=HM.out;omega
     obtain ⟨g5,o5,e5,hg5,f5⟩:=HWV.out (by intro e;rw [e] at hjw;simp at hjw);subst e5;have hBX:Below W1.heap.size W1 wr:=HB.out.trans (Below.mono HX.out HB.out.size);have c0:=(hBX.cell (p:=⟨g5,o5+j,none⟩) hg5).trans (f5 j hjw);have hwj:(wavesI ms)[j]=waveI ms j:=wavesI_at hjw;rw [hwj] at c0;obtain ⟨wj,hwj2⟩:∃x,x=waveI ms j:=⟨_,rfl⟩;rw [<-hwj2] at c0;have HWJ:=hiD hwj2;clear hjw hg5 f5 hBX hwj hwj2
     by_cases he:wj=t
     ·have hei:(wj:Int)=(t:Int):=by omega
      have heb:((wj:Int)==(t:Int))=true:=by simpa using hei
      have HE:=hiD he;clear he
      go_wp2_with (first|(at_builtin;refine wpList_append_I rfl (.tmp 34) (.tmp 36) rfl wo.heap.size (.slice A8 N c8) (waveTo ms t j) rfl (H8.out.below ((Below.refl _ wr).alloc (nLr _) _)) wr.heap.size 1 j rfl (by have:=cell_one_new wr (.int .i64 (j:Int)) 3 0 _ rfl;exact this) (by have:=HN.out;omega) (by have:=HX.out.size;simp;omega) ?_;intro v4 W4 ho4 hg4;have H4:=hiD (aI ho4 hg4);obtain ⟨A4,c4,hv4,_⟩:=ho4.form;rw [List.length_append,<-HN.out] at hv4;replace hv4:v4=.slice A4 (N+1) c4:=hv4;subst hv4;clear ho4 hg4)|fail)
      have hbx:Below wo.heap.size wo W4:=(HX.out.alloc HX.out.size _).grown H4.out.2 (by have:=HX.out.size;simp;omega) (fun g e=>H8.out.ge g e);refine ⟨⟨j+1,N+1,A4,c4,by omega,by congr 1,rfl,by have:=HN.out;have:=waveTo_len ms t j;omega,hiD ?_,hiD ?_,hiD hbx⟩,by simp only [intOf];omega⟩
      ·rw [waveTo_succ,if_pos (by rw [<-HWJ.out];exact HE.out),List.length_append,<-HN.out];rfl
      ·rw [waveTo_succ,if_pos (by rw [<-HWJ.out];exact HE.out)];exact H4.out.1
     ·have hei:¬(wj:Int)=(t:Int):=by omega
      have heb:((wj:Int)==(t:Int))=false:=by simpa using hei
      have HE:=hiD he;go_wp2;refine ⟨⟨j+1,N,A8,c8,by omega,by congr 1,rfl,hN,hiD ?_,hiD ?_,HX⟩,by simp only [intOf];omega⟩
      ·rw [waveTo_succ,if_neg (by rw [<-HWJ.out];exact HE.out)];exact HN.out
      ·rw [waveTo_succ,if_neg (by rw [<-HWJ.out];exact HE.out)];exact H8.out
    ·have hji:¬(j:Int)<L:=by omega
     have hjL:j=L:=by omega
     have hN8:N=(waveTo ms t ms.length).length:=by rw [HM.out,<-hjL];exact HN.out
     have h8:OwnI wo.heap.size wr (.slice A8 N c8) (waveTo ms t ms.length):=by rw [HM.out,<-hjL];exact H8.out
     have hout:=HOW.out.below HX.out;have hBX:Below W1.heap.size W1 wr:=HB.out.trans (Below.mono HX.out HB.out.size);have hlt6:∀g,(Value.slice A6 M c6).ownBlock=some g->g<wo.heap.size:=fun g e=>(World.ownsRow.lt HOW.out g e).2
     have HTOT:=hiD (ordTo_succ (picksM zs) ms HTW.out);have H3:=hiD (aI hN8 (aI h8 (aI hout (aI hBX (aI hlt6 (aI HX.out.size HB.out.size))))));clear hjL hN8 h8 hout hBX hlt6;go_wp2
     go_loopw [6,8,10] (fun s6 s8 i wx=>∃(k N8:Nat) (A6':Option Addr) (c6':Nat) (A8':Option Addr) (c8':Nat) (D l8:List Nat),k<=100/\N8<=100/\N8+k<=N/\i=.int .i64 (k:Int)/\s6=.slice A6' (M+k) c6'/\s8=.slice A8' N8 c8'/\Hid (M+k=D.length/\N8=l8.length)/\Hid (D++orderG (picksM zs t) l8.length k l8=ordTo (picksM zs) ms (t+1))/\Hid (OwnI W1.heap.size wx (.slice A6' (M+k) c6') D)/\Hid (∃Bn,Bn<=wx.heap.size/\W1.heap.size<=Bn/\OwnI Bn wx (.slice A8' N8 c8') l8/\∀g,(Value.slice A6' (M+k) c6').ownBlock=some g->g<Bn)/\Hid (Below W1.heap.size W1 wx)) (fun _ _ i _=>N - (intOf i).toNat)
     case atStart=>exact ⟨0,N,A6,c6,A8,c8,_,_,Nat.zero_le _,hN,by omega,rfl,rfl,rfl,hiD ⟨HO.out,H3.out.1⟩,hiD HTOT.out.symm,hiD H3.out.2.2.1,hiD ⟨wo.heap.size,H3.out.2.2.2.2.2.1,H3.out.2.2.2.2.2.2,H3.out.2.1,H3.out.2.2.2.2.1⟩,hiD H3.out.2.2.2.1⟩
     case round=>
      obtain ⟨k,N8,A6',c6',A8',c8',D,l8,hk,hN8,hNk,rfl,rfl,rfl,HLN,HT,HO6,HO8,HBX⟩:=hrel
      by_cases hpos:0<N8
      ·have hNi:(0:Int)<N8:=by omega
       have hzw:=HP.out.2.2.1.belowX (BW.out.trans (Below.mono HBX.out BW.out.size));have hpk:=refPick_any P Lp cp zs t k N8 wr HP.out.1 HP.out.2.1 (by omega) (by omega) hpos (by omega) hzw HP.out.2.2.2;obtain ⟨at_,hat⟩:∃n:Nat,n=(picksM zs t k N8%(N8:Int)).toNat:=⟨_,rfl⟩;have hatI:picksM zs t k N8%(N8:Int)=(at_:Int):=by rw [hat];exact (Int.toNat_of_nonneg (Int.emod_nonneg _ (by omega))).symm
       have hatlt:at_<N8:=by rw [hat];exact pick_lt _ hpos
       rw [hatI] at hpk;have HPK:=hiD hpk;have HAT:=hiD hat;clear hzw hpk hat hatI
       go_wp2_with fail
       refine HPK.out.mono ?_;rintro e V ⟨rfl,hbV⟩;obtain ⟨Bn,b1,b2,o8,b3⟩:=HO8.out;have o8V:=o8.below hbV;have hl8:at_<l8.length:=by have:=HLN.out.2;omega
       obtain ⟨b8,p8,e8,_,f8⟩:=o8V.has (by rintro rfl;simp at hl8);subst e8;have c8v:=f8 at_ hl8;obtain ⟨y,hy⟩:∃y,y=l8[at_]:=⟨_,rfl⟩;rw [<-hy] at c8v
       have hc8:N8<=c8':=by
        obtain ⟨_,_,hv,hle⟩:=o8V.form
        cases hv
        exact hle
       have hup:=fun W=>run_uptoI W (some ⟨b8,p8,none⟩) N8 c8' at_ (by omega) (by omega)
       obtain ⟨A9,hfr,hA9⟩:=run_fromI (some ⟨b8,p8,none⟩) N8 c8' (at_+1) (by omega) hc8 (by omega);have hfr':∀W:World,(Instr.sliceAt 23 (.slice (some ⟨b8,p8,none⟩) N8 c8') (some (.int .i64 ((at_:Int)+1))) none none).run Tryz.prog W=.ok (.slice A9 (N8 - (at_+1)) (c8' - (at_+1))) W:=fun W=>hfr W
       have hai:(at_:Int)<N8:=by omega
       have hai2:(at_:Int)<=100:=by omega
       have HV:=hiD (aI (HO6.out.below hbV) (aI o8V (aI (HBX.out.trans (Below.mono hbV HBX.out.size)) (aI (nLt b1 hbV.size) (aI b2 b3)))));have HY:=hiD hy;have HA9:=hiD hA9;clear hbV b1 b2 o8 b3 o8V f8 hy hfr hA9 HPK HO8 HO6;go_upto_region 17 with (first|(at_builtin;refine wpList_append_I rfl (.tmp 49) (.tmp 54) rfl W1.heap.size (.slice A6' (M+k) c6') D rfl (HV.out.1.below ((Below.refl _ V).alloc (nLr _) _)) V.heap.size 1 y rfl (by have:=cell_one_new V (.int .i64 (y:Int)) 3 0 _ rfl;exact this) (by have:=HLN.out;omega) (by have:=HV.out.2.2.1.size;simp;omega) ?_;intro v1 U1 ho1 hg1;have H1:=hiD (aI ho1 hg1);obtain ⟨A1,c1,hv1,_⟩:=ho1.form;rw [List.length_append,<-HLN.out.1] at hv1;replace hv1:v1=.slice A1 (M+k+1) c1:=hv1;subst hv1;clear ho1 hg1)|fail)
       have hva:Below V.heap.size V (V.alloc (.cells #[.int .i64 (y:Int)] 3)):=(Below.refl _ V).alloc (nLr _) _;have hb1:Below W1.heap.size W1 U1:=(HV.out.2.2.1.trans (Below.mono hva HV.out.2.2.1.size)).grown H1.out.2 (nLt HV.out.2.2.1.size hva.size) (fun g e=>HV.out.1.ge g e)
       have o8U:OwnI Bn U1 (.slice (some ⟨b8,p8,none⟩) N8 c8') l8:=World.ownsRow.kept (HV.out.2.1.below hva) H1.out.2 (by
        cases h8:(Value.slice (some ⟨b8,p8,none⟩) N8 c8').ownBlock with
        |none=>exact .inl rfl
        |some g=>
         refine .inr (fun e=>?_);have h1:=HV.out.2.1.ge g h8;have h2:=HV.out.2.2.2.2.2 g e.symm;omega)
       have hUs:Bn<=U1.heap.size:=nLt HV.out.2.2.2.1 (nLt hva.size H1.out.2.size);have HU1:=hiD (aI hb1 (aI o8U (aI hUs HV.out.2.2.2.2.1)));clear hva hb1 o8U hUs c8v;go_upto_region 18 with (first|(at_builtin;refine wpList_append_Is rfl (.const (.slice none 0 0)) (.tmp 58) rfl U1.heap.size (.slice none 0 0) [] rfl (OwnI.nil _ _) (some ⟨b8,p8,none⟩) at_ c8' (l8.take at_) rfl (by rw [List.length_take];omega) (HU1.out.2.1.has.take at_) (by simp;omega) (nLr _) ?_;intro v2 U2 ho2 hg2;have H2:=hiD (aI ho2 hg2);obtain ⟨A2,c2,hv2,_⟩:=ho2.form;rw [List.nil_append,List.length_take,Nat.min_eq_left (Nat.le_of_lt hl8)] at hv2;subst hv2;clear ho2 hg2)|fail)
       have hb2:Below U1.heap.size U1 U2:=(Below.refl _ _).grown H2.out.2 (nLr _) (fun g e=>by cases e);have hdr:=(HU1.out.2.1.below hb2).has.drop (A':=A9) (n:=at_+1) (fun b o e h=>HA9.out b o e (by have:=HLN.out.2;omega));have HU2:=hiD (aI hb2 hdr);clear hb2 hdr hup
       go_wp2_with (first|(at_builtin;refine wpList_append_Is rfl (.tmp 60) (.tmp 64) rfl U1.heap.size (.slice A2 at_ c2) (l8.take at_) rfl H2.out.1 A9 (N8 - (at_+1)) (c8' - (at_+1)) (l8.drop (at_+1)) rfl (by rw [List.length_drop];have:=HLN.out.2;omega) HU2.out.2 (by have:=HLN.out.2;rw [List.length_take];omega) HU2.out.1.size ?_;intro v3 U3 ho3 hg3;have H3b:=hiD (aI ho3 hg3);obtain ⟨A3,c3,hv3,_⟩:=ho3.form;rw [List.length_append,List.length_take,List.length_drop,Nat.min_eq_left (Nat.le_of_lt hl8),<-HLN.out.2,show at_+(N8 - (at_+1))=N8 - 1 by omega] at hv3;subst hv3;clear ho3 hg3)|fail)
       have hb3:Below U1.heap.size U1 U3:=HU2.out.1.grown H3b.out.2 HU2.out.1.size (fun g e=>H2.out.1.ge g e);have her:l8.take at_++l8.drop (at_+1)=l8.eraseIdx at_:=(List.eraseIdx_eq_take_drop_succ l8 at_).symm;have ho3:=H3b.out.1;rw [her] at ho3;have hstep:=orderG_step (picksM zs t) k (l:=l8) (by omega);rw [<-HLN.out.2,<-HAT.out,List.getElem?_eq_getElem hl8,Option.getD_some,<-HY.out] at hstep;have hT:=HT.out;rw [<-HLN.out.2,hstep] at hT;refine ⟨⟨k+1,N8 - 1,A1,c1,A3,c3,D++[y],l8.eraseIdx at_,by omega,by omega,by omega,by congr 1,by rfl,rfl,hiD ⟨by rw [List.length_append,<-HLN.out.1];rfl,by rw [List.length_eraseIdx_of_lt hl8,<-HLN.out.2]⟩,hiD (by rw [List.append_assoc];exact hT),hiD (H1.out.1.below hb3),hiD ⟨U1.heap.size,hb3.size,HU1.out.1.size,ho3,fun g e=>(World.ownsRow.lt H1.out.1 g e).2⟩,hiD (HU1.out.1.trans (Below.mono hb3 HU1.out.1.size))⟩,by simp only [intOf];omega⟩
      ·have hNi:¬(0:Int)<N8:=by omega
       have hz8:l8.length=0:=by have:=HLN.out.2;omega
       have hT:=HT.out;rw [hz8,show orderG (picksM zs t) 0 k l8=[] from rfl,List.append_nil] at hT;have HTT:=hiD hT;have hti:(t:Int)<=100:=by omega
       clear hz8 hT;go_wp2
       have hlen:M+k<=L:=by
        obtain ⟨r,hr⟩:=ordTo_part (picksM zs) ms (t+1);have h1:=congrArg List.length hr;rw [orderM_len,List.length_append,HM.out,<-HTT.out,<-HLN.out.1] at h1;omega
       exact ⟨⟨t+1,M+k,A6',c6',by omega,by congr 1,rfl,hlen,hiD (by rw [<-HTT.out];exact HLN.out.1),hiD (by rw [<-HTT.out];exact HO6.out),HBX⟩,by simp only [intOf];omega⟩
  ·have hMi:¬(M:Int)<L:=by omega
   have hall:ordTo (picksM zs) ms t=orderM (picksM zs) ms:=ordTo_all _ _ (by have:=HO.out;have:=HM.out;omega);have HALL:=hiD hall;clear hall;go_wp2;go_ret;have h:=HOW.out;rw [HALL.out] at h;exact ⟨_,rfl,h.mono BW.out.size,BW.out.trans (Below.mono HB.out BW.out.size)⟩
theorem run_alA (w:World):(Instr.alloc 32 true (.tuple #[])).run Tryz.prog w=.ok (.pointer (some ⟨w.heap.size,0,none⟩)) (w.alloc (.cells #[.slice none 0 0,.slice none 0 0,.int .u64 0] 32)):=by
 simp [go_sem]
def GotR (w:World) (x:Value) (aE:AM) (T:Nat->(Nat × ByteArray) × Bool) (tt:Nat->Nat) (M:Nat):Prop:=∃v' rb fb tb,x=.tuple #[v',.slice (some ⟨rb,0,none⟩) M M,.slice (some ⟨fb,0,none⟩) M M,.slice (some ⟨tb,0,none⟩) M M]/\AppV w v' aE/\w.heap[rb]?=some (.cells (rowR T M) 45 (0,0))/\w.heap[fb]?=some (.cells (rowB T M) 4 (0,0))/\w.heap[tb]?=some (.cells (rowT tt M) 3 (0,0))
section
variable {w W:World} {x:Value} {aE:AM} {T:Nat->(Nat × ByteArray) × Bool} {tt:Nat->Nat} {M:Nat}
theorem GotR.below (h:GotR w x aE T tt M) (hb:Below w.heap.size w W):GotR W x aE T tt M:=by
 obtain ⟨v',rb,fb,tb,e,h1,h2,h3,h4⟩:=h;exact ⟨v',rb,fb,tb,e,h1.below hb,(hb.block rb (geS.1 h2).1).trans h2,(hb.block fb (geS.1 h3).1).trans h3,(hb.block tb (geS.1 h4).1).trans h4⟩
theorem cells_ne {k q:Nat} {cs ds:Array Value} {s t:TypeId} (hk:w.heap[k]?=some (.cells cs s (0,0))) (hq:w.heap[q]?=some (.cells ds t (0,0))) (h:s≠t):k≠q:=by
 intro e;rw [e,hq] at hk;exact h (Obj.cells.inj (osI hk)).2.1.symm
theorem GotR.apart (h:GotR w x aE T tt M) {q n0 c0 n1 c1 n:Nat} {A0 A1:Option Addr} (hr:AppC w q A0 n0 c0 A1 n1 c1 n) (hW:∀b,b<w.heap.size->b≠q->W.heap[b]?=w.heap[b]?):GotR W x aE T tt M:=by
 obtain ⟨v',rb,fb,tb,e,h1,h2,h3,h4⟩:=h;exact ⟨v',rb,fb,tb,e,h1.apart hr hW,(hW rb (geS.1 h2).1 (cells_ne h2 hr (by decide))).trans h2,(hW fb (geS.1 h3).1 (cells_ne h3 hr (by decide))).trans h3,(hW tb (geS.1 h4).1 (cells_ne h4 hr (by decide))).trans h4⟩
end
noncomputable def opsRA:List Oper:=opsOf Tryz.f3 6
def wsRA (_q9:Nat) (_A0:Option Addr) (_n0 _c0:Nat) (_E:Option Addr) (_nl _lc _n:Nat) (_A:Option Addr) (M _c:Nat) (_P:Option Addr) (_Lp _cp:Nat) (aE:AM) (T:Nat->(Nat × ByteArray) × Bool) (tt:Nat->Nat) (ord:List Nat) (W0:World) (L:Nat->Bool) (u:Value) (w:World):Prop:=Below W0.heap.size W0 w/\(L 4=true->L 5=false->∃A1 c1,tupAt u 0=.slice A1 M c1/\HasI w A1 ord)/\(L 5=true->GotR w (tupAt u 1) aE T tt M)/\(L 11=true->∃q,tupAt u 2=.pointer (some ⟨q,0,none⟩)/\W0.heap.size<=q/\(L 12=false->AppC w q none 0 0 none 0 0 0)/\(L 12=true->∃B1 d1 B2 d2,tupAt (tupAt u 1) 0=.agg #[.slice B1 aE.ps.length d1,.slice B2 aE.ss.length d2,.int .u64 (aE.n:Int)]/\AppC w q B1 aE.ps.length d1 B2 aE.ss.length d2 aE.n))
theorem wsRA_same (q9:Nat) (A0:Option Addr) (n0 c0:Nat) (E:Option Addr) (nl lc n:Nat) (A:Option Addr) (M c:Nat) (P:Option Addr) (Lp cp:Nat) (aE:AM) (T:Nat->(Nat × ByteArray) × Bool) (tt:Nat->Nat) (ord:List Nat) {W0:World} {L:Nat->Bool} {i:Nat} {u:Value} {w:World} (k4:((4:Nat)==i)=false) (k5:((5:Nat)==i)=false) (k11:((11:Nat)==i)=false) (k12:((12:Nat)==i)=false) (h:wsRA q9 A0 n0 c0 E nl lc n A M c P Lp cp aE T tt ord W0 L u w):wsRA q9 A0 n0 c0 E nl lc n A M c P Lp cp aE T tt ord W0 (fun j=>L j||j==i) u w:=by
 unfold wsRA at h ⊢;simp only [beq_noF k4,beq_noF k5,beq_noF k11,beq_noF k12];exact h
theorem wrrun (q9:Nat) (A0:Option Addr) (n0 c0:Nat) (E:Option Addr) (nl lc n:Nat) (A:Option Addr) (M c:Nat) (P:Option Addr) (Lp cp:Nat) (aE:AM) (T:Nat->(Nat × ByteArray) × Bool) (tt:Nat->Nat) (ord:List Nat) (a:Act) (w:World) (Q:Exit->Act->World->Prop) (hN:a.tmps.size=167) (h1:a.tmps.getD 1 undef=.slice A M c) (h2:a.tmps.getD 2 undef=.slice P Lp cp) (h9:a.tmps.getD 9 undef=.pointer (some ⟨q9,0,none⟩)) (hx9:AppC w q9 A0 n0 c0 E nl lc n) (hO:∀w',Below w.heap.size w.drew w'->Calls Tryz.prog 11 #[.slice A M c,.slice P Lp cp] w' fun e W'=>∃A1 c1,e=.returned (.slice A1 M c1)/\HasI W' A1 ord/\Below w'.heap.size w' W') (hRn:∀w' A1 c1,Below w.heap.size w.drew w'->HasI w' A1 ord->Calls Tryz.prog 10 #[.agg #[.slice A0 n0 c0,.slice E nl lc,.int .u64 (n:Int)],.slice A M c,.slice A1 M c1] w' fun e W'=>∃x,e=.returned x/\GotR W' x aE T tt M/\Below w'.heap.size w' W') (hW0:wsRA q9 A0 n0 c0 E nl lc n A M c P Lp cp aE T tt ord w.drew (fun _=>false) undef w.drew) (hQ:∀(u:Value) w',wsRA q9 A0 n0 c0 E nl lc n A M c P Lp cp aE T tt ord w.drew (fun _=>true) u w'->Q .normal (puts [(44,.agg #[.slice A0 n0 c0,.slice E nl lc,.int .u64 (n:Int)]),(45,.slice A M c),(46,.slice A M c),(47,.slice P Lp cp),(48,tupAt u 0),(49,tupAt u 1),(43,tupAt u 1),(50,tupAt (tupAt u 1) 0),(51,tupAt (tupAt u 1) 1),(52,tupAt (tupAt u 1) 2),(53,tupAt (tupAt u 1) 3),(11,tupAt u 2),(12,tupAt (tupAt u 1) 1),(13,tupAt (tupAt u 1) 2),(14,tupAt (tupAt u 1) 3)] a) w')
 :(Code.region 6 opsRA.toArray true).wp Tryz.prog Q a w:=by
 refine region_c (U:=Value) 167 opsRA [(1,.slice A M c),(2,.slice P Lp cp),(9,.pointer (some ⟨q9,0,none⟩))] [4,5,7,8,9,10,11,12] (fun u=>[.agg #[.slice A0 n0 c0,.slice E nl lc,.int .u64 (n:Int)],.slice A M c,.slice A M c,.slice P Lp cp,tupAt u 0,tupAt u 1,tupAt u 1,tupAt (tupAt u 1) 0,tupAt (tupAt u 1) 1,tupAt (tupAt u 1) 2,tupAt (tupAt u 1) 3,tupAt u 2,undef,tupAt (tupAt u 1) 1,tupAt (tupAt u 1) 2,tupAt (tupAt u 1) 3]) (wsRA q9 A0 n0 c0 E nl lc n A M c P Lp cp aE T tt ord w.drew) undef follows (by kernel_rfl) hN ⟨h1,h2,h9,trivial⟩ (fun _=>nBl rfl) hW0 (fun _ _ _ _ hi h=>wsRA_same _ _ _ _ _ _ _ _ _ _ _ _ _ _ _ _ _ _ (key_ne hi rfl) (key_ne hi rfl) (key_ne hi rfl) (key_ne hi rfl) h) ?_ ?_ ?_
 ·intro L u w' hW _;exact ⟨fun _=>ob_load (run_lxA _ _ _ _ _ _ _ _ _ ((hW.1.block q9 hx9.lt).trans hx9)),fun _=>rfl,fun _=>rfl,fun _=>rfl,trivial,trivial,fun _=>rfl,trivial,trivial,trivial,trivial,trivial,trivial,fun _=>rfl,fun _=>rfl,fun _=>rfl,trivial⟩
 ·refine ⟨?_,?_,?_,?_,?_,?_,?_,?_,trivial⟩
  ·rintro o ho L u a' w' hLi hpre hcl hR hW fin;have hio:=(nthO_eq _ _).symm.trans ho
   cases ho
   have q2:a'.tmps.getD 46 undef=.slice A M c:=hR.val 2 _ 46 rfl rfl (edge_ofF hpre 2 rfl);have q3:a'.tmps.getD 47 undef=.slice P Lp cp:=hR.val 3 _ 47 rfl rfl (edge_ofF hpre 3 rfl);obtain ⟨w1,w2,w3,w4⟩:=hW;have n5:L 5=false:=not_yetF hcl 30 (show reachB opsRA 30 5 4=true by kernel_rfl) hLi;have n12:L 12=false:=not_yetF hcl 30 (show reachB opsRA 30 12 4=true by kernel_rfl) hLi;refine step_callD hio rfl rfl (enters_of Tryz.func11 (by kernel_rfl) rfl) (show Array.map a'.eval #[.tmp 46,.tmp 47]=_ from by simp only [List.map_toArray,List.map_cons,List.map_nil,Act.eval,q2,q3]) ((hO w' w1).mono ?_);rintro e w'' ⟨A1,c1,rfl,hI,hb⟩
   have hW2:wsRA q9 A0 n0 c0 E nl lc n A M c P Lp cp aE T tt ord w.drew (fun j=>L j||j==4) (.tuple #[.slice A1 M c1,tupAt u 1,tupAt u 2]) w'':=by
    refine ⟨w1.trans (Below.mono hb w1.size),fun _ _=>⟨A1,c1,rfl,hI⟩,fun h=>(by
     have h':L 5=true:=by simpa using h
     rw [n5] at h'
     cases h'),fun h=>?_⟩
    obtain ⟨q,e1,e2,e3,_⟩:=w4 (by simpa using h)
    exact ⟨q,e1,e2,fun _=>(hb.block q (e3 n12).lt).trans (e3 n12),fun h=>(by
     have h':L 12=true:=by simpa using h
     rw [n12] at h'
     cases h')⟩
   exact ⟨_,rfl,(fin ((.tuple #[.slice A1 M c1,tupAt u 1,tupAt u 2])) _ _ (fun _=>rfl) (fun j hj=>by
    rcases j with _|_|_|_|_|_|_|_|_|_|_|_|_|_|_|_|j<;>first|rfl|exact Bool.noConfusion (hj.symm.trans hLi)|exact Bool.noConfusion (hj.symm.trans (not_yetF hcl 30 (by kernel_rfl) hLi))) (hW2))⟩
  ·rintro o ho L u a' w' hLi hpre hcl hR hW fin;have hio:=(nthO_eq _ _).symm.trans ho
   cases ho
   have q0:a'.tmps.getD 44 undef=.agg #[.slice A0 n0 c0,.slice E nl lc,.int .u64 (n:Int)]:=hR.val 0 _ 44 rfl rfl (edge_ofF hpre 0 rfl);have q1:a'.tmps.getD 45 undef=.slice A M c:=hR.val 1 _ 45 rfl rfl (edge_ofF hpre 1 rfl);have q4:a'.tmps.getD 48 undef=tupAt u 0:=hR.val 4 _ 48 rfl rfl (edge_ofF hpre 4 rfl);obtain ⟨w1,w2,w3,w4⟩:=hW;have n6:L 6=false:=not_yetF hcl 30 (show reachB opsRA 30 6 5=true by kernel_rfl) hLi;have n7:L 7=false:=not_yetF hcl 30 (show reachB opsRA 30 7 5=true by kernel_rfl) hLi;have n8:L 8=false:=not_yetF hcl 30 (show reachB opsRA 30 8 5=true by kernel_rfl) hLi;have n9:L 9=false:=not_yetF hcl 30 (show reachB opsRA 30 9 5=true by kernel_rfl) hLi;have n10:L 10=false:=not_yetF hcl 30 (show reachB opsRA 30 10 5=true by kernel_rfl) hLi;have n13:L 13=false:=not_yetF hcl 30 (show reachB opsRA 30 13 5=true by kernel_rfl) hLi;have n14:L 14=false:=not_yetF hcl 30 (show reachB opsRA 30 14 5=true by kernel_rfl) hLi;have n15:L 15=false:=not_yetF hcl 30 (show reachB opsRA 30 15 5=true by kernel_rfl) hLi;have n12:L 12=false:=not_yetF hcl 30 (show reachB opsRA 30 12 5=true by kernel_rfl) hLi;obtain ⟨A1,c1,e0,hI⟩:=w2 (edge_ofF hpre 4 rfl) hLi;have q4':=q4.trans e0;refine step_callD hio rfl rfl (enters_of Tryz.func10 (by kernel_rfl) rfl) (show Array.map a'.eval #[.tmp 44,.tmp 45,.tmp 48]=_ from by simp only [List.map_toArray,List.map_cons,List.map_nil,Act.eval,q0,q1,q4']) ((hRn w' A1 c1 w1 hI).mono ?_);rintro e w'' ⟨x,rfl,hG,hb⟩
   have hW2:wsRA q9 A0 n0 c0 E nl lc n A M c P Lp cp aE T tt ord w.drew (fun j=>L j||j==5) (.tuple #[tupAt u 0,x,tupAt u 2]) w'':=by
    refine ⟨w1.trans (Below.mono hb w1.size),fun _ h=>(by simp at h),fun _=>hG,fun h=>?_⟩;obtain ⟨q,e1,e2,e3,_⟩:=w4 (by simpa using h)
    exact ⟨q,e1,e2,fun _=>(hb.block q (e3 n12).lt).trans (e3 n12),fun h=>(by
     have h':L 12=true:=by simpa using h
     rw [n12] at h'
     cases h')⟩
   exact ⟨_,rfl,(fin ((.tuple #[tupAt u 0,x,tupAt u 2])) _ _ (fun _=>rfl) (fun j hj=>by
    rcases j with _|_|_|_|_|_|_|_|_|_|_|_|_|_|_|_|j<;>first|rfl|exact Bool.noConfusion (hj.symm.trans hLi)|exact Bool.noConfusion (hj.symm.trans (not_yetF hcl 30 (by kernel_rfl) hLi))) (hW2))⟩
  ·rintro o ho L u a' w' hLi hpre hcl hR hW fin;have hio:=(nthO_eq _ _).symm.trans ho
   cases ho
   have q6:a'.tmps.getD 43 undef=tupAt u 1:=hR.val 6 _ 43 rfl rfl (edge_ofF hpre 6 rfl);obtain ⟨v',rb,fb,tb,hv,_⟩:=hW.2.2.1 (reach_ofF hcl 30 6 5 (show reachB opsRA 30 6 5=true by kernel_rfl) (edge_ofF hpre 6 rfl));exact step_extractF hio rfl rfl (q6.trans hv) (by rw [hv];rfl) (fin (u) (tupAt (tupAt u 1) 0) _ (fun _=>rfl) (fun _ _=>rfl) (wsRA_same _ _ _ _ _ _ _ _ _ _ _ _ _ _ _ _ _ _ rfl rfl rfl rfl hW))
  ·rintro o ho L u a' w' hLi hpre hcl hR hW fin;have hio:=(nthO_eq _ _).symm.trans ho
   cases ho
   have q6:a'.tmps.getD 43 undef=tupAt u 1:=hR.val 6 _ 43 rfl rfl (edge_ofF hpre 6 rfl);obtain ⟨v',rb,fb,tb,hv,_⟩:=hW.2.2.1 (reach_ofF hcl 30 6 5 (show reachB opsRA 30 6 5=true by kernel_rfl) (edge_ofF hpre 6 rfl));exact step_extractF hio rfl rfl (q6.trans hv) (by rw [hv];rfl) (fin (u) (tupAt (tupAt u 1) 1) _ (fun _=>rfl) (fun _ _=>rfl) (wsRA_same _ _ _ _ _ _ _ _ _ _ _ _ _ _ _ _ _ _ rfl rfl rfl rfl hW))
  ·rintro o ho L u a' w' hLi hpre hcl hR hW fin;have hio:=(nthO_eq _ _).symm.trans ho
   cases ho
   have q6:a'.tmps.getD 43 undef=tupAt u 1:=hR.val 6 _ 43 rfl rfl (edge_ofF hpre 6 rfl);obtain ⟨v',rb,fb,tb,hv,_⟩:=hW.2.2.1 (reach_ofF hcl 30 6 5 (show reachB opsRA 30 6 5=true by kernel_rfl) (edge_ofF hpre 6 rfl));exact step_extractF hio rfl rfl (q6.trans hv) (by rw [hv];rfl) (fin (u) (tupAt (tupAt u 1) 2) _ (fun _=>rfl) (fun _ _=>rfl) (wsRA_same _ _ _ _ _ _ _ _ _ _ _ _ _ _ _ _ _ _ rfl rfl rfl rfl hW))
  ·rintro o ho L u a' w' hLi hpre hcl hR hW fin;have hio:=(nthO_eq _ _).symm.trans ho
   cases ho
   have q6:a'.tmps.getD 43 undef=tupAt u 1:=hR.val 6 _ 43 rfl rfl (edge_ofF hpre 6 rfl);obtain ⟨v',rb,fb,tb,hv,_⟩:=hW.2.2.1 (reach_ofF hcl 30 6 5 (show reachB opsRA 30 6 5=true by kernel_rfl) (edge_ofF hpre 6 rfl));exact step_extractF hio rfl rfl (q6.trans hv) (by rw [hv];rfl) (fin (u) (tupAt (tupAt u 1) 3) _ (fun _=>rfl) (fun _ _=>rfl) (wsRA_same _ _ _ _ _ _ _ _ _ _ _ _ _ _ _ _ _ _ rfl rfl rfl rfl hW))
  ·rintro o ho L u a' w' hLi hpre hcl hR hW fin;have hio:=(nthO_eq _ _).symm.trans ho
   cases ho
   obtain ⟨w1,w2,w3,w4⟩:=hW;have n12:L 12=false:=not_yetF hcl 30 (show reachB opsRA 30 12 11=true by kernel_rfl) hLi;refine step_run hio rfl (by intro c h;cases h) (by simp [Oper.about]) (v:=.pointer (some ⟨w'.heap.size,0,none⟩)) (w':=(w'.alloc (.cells #[.slice none 0 0,.slice none 0 0,.int .u64 0] 32))) (by simp [execOp,run_alA]) ?_
   have hW2:wsRA q9 A0 n0 c0 E nl lc n A M c P Lp cp aE T tt ord w.drew (fun j=>L j||j==11) (.tuple #[tupAt u 0,tupAt u 1,.pointer (some ⟨w'.heap.size,0,none⟩)]) (w'.alloc (.cells #[.slice none 0 0,.slice none 0 0,.int .u64 0] 32)):=by
    have hb:Below w'.heap.size w' (w'.alloc (.cells #[.slice none 0 0,.slice none 0 0,.int .u64 0] 32)):=(Below.refl _ w').alloc (nLr _) _
    refine ⟨w1.alloc w1.size _,fun h h2=>?_,fun h=>(w3 (by simpa using h)).below hb,fun _=>⟨_,rfl,w1.size,fun _=>wAh w' _,fun h=>(by
     have h':L 12=true:=by simpa using h
     rw [n12] at h'
     cases h')⟩⟩
    obtain ⟨A1,c1,e,hI⟩:=w2 (by simpa using h) (by simpa using h2);exact ⟨A1,c1,e,hI.below hb⟩
   exact (fin ((.tuple #[tupAt u 0,tupAt u 1,.pointer (some ⟨w'.heap.size,0,none⟩)])) _ _ (fun _=>rfl) (fun j hj=>by
    rcases j with _|_|_|_|_|_|_|_|_|_|_|_|_|_|_|_|j<;>first|rfl|exact Bool.noConfusion (hj.symm.trans hLi)|exact Bool.noConfusion (hj.symm.trans (not_yetF hcl 30 (by kernel_rfl) hLi))) (hW2))
  ·rintro o ho L u a' w' hLi hpre hcl hR hW fin;have hio:=(nthO_eq _ _).symm.trans ho
   cases ho
   have q11:a'.tmps.getD 11 undef=tupAt u 2:=hR.val 11 _ 11 rfl rfl (edge_ofF hpre 11 rfl);have q7:a'.tmps.getD 50 undef=tupAt (tupAt u 1) 0:=hR.val 7 _ 50 rfl rfl (edge_ofF hpre 7 rfl);obtain ⟨w1,w2,w3,w4⟩:=hW;have ha:=edge_ofF hpre 11 rfl;have hr5:=edge_ofF hpre 5 rfl;obtain ⟨q,e1,e2,e3,_⟩:=w4 ha;have hA0:=e3 hLi;have hG:=w3 hr5;have hG0:=hG;obtain ⟨v',rb,fb,tb,hx,hV,_⟩:=hG;obtain ⟨B1,d1,B2,d2,hv,_⟩:=hV;subst hv;have hx1:a'.eval (.tmp 11)=.pointer (some ⟨q,0,none⟩):=q11.trans e1;have hx2:a'.eval (.tmp 50)=.agg #[.slice B1 aE.ps.length d1,.slice B2 aE.ss.length d2,.int .u64 (aE.n:Int)]:=q7.trans (by rw [hx];rfl);have hst:=run_sxA (B0:=B1) (m0:=aE.ps.length) (d0:=d1) (B1:=B2) (m1:=aE.ss.length) (d1:=d2) (m:=aE.n) hA0
   refine step_skip hio rfl (by intro c h;cases h) (by simp [Oper.about]) (w':=setA w' q B1 aE.ps.length d1 B2 aE.ss.length d2 aE.n) (by
    unfold execOp;simp only [hx1,hx2,Sem.run_bind,hst,Result.andThen_ok]
    rfl) ?_
   have hW2:wsRA q9 A0 n0 c0 E nl lc n A M c P Lp cp aE T tt ord w.drew (fun j=>L j||j==12) u (setA w' q B1 aE.ps.length d1 B2 aE.ss.length d2 aE.n):=by
    refine ⟨((w1.setCell (p:=⟨q,0,none⟩) e2 _).setCell (p:=⟨q,1,none⟩) e2 _).setCell (p:=⟨q,2,none⟩) e2 _,fun _ h=>?_,fun _=>hG0.apart hA0 (fun g _ h2=>setA_heap _ _ h2),fun _=>⟨q,e1,e2,fun h=>(by simp at h),fun _=>⟨B1,d1,B2,d2,by rw [hx];rfl,hA0.set⟩⟩⟩;have h':L 5=false:=by simpa using h
    rw [hr5] at h'
    cases h'
   exact (fin (u) _ _ (fun h=>(by cases h)) (fun _ _=>rfl) (hW2))
 ·intro L u w' hl hW;refine hQ u w' ?_;unfold wsRA at hW ⊢;simp only [hl 4 (nBl rfl),hl 5 (nBl rfl),hl 11 (nBl rfl),hl 12 (nBl rfl)] at hW ⊢;exact hW
noncomputable def opsRB:List Oper:=opsOf Tryz.f3 16
def wsRB (_q9:Nat) (_A0:Option Addr) (_n0 _c0:Nat) (_E:Option Addr) (_nl _lc _n:Nat) (_A:Option Addr) (M _c:Nat) (aE:AM) (T:Nat->(Nat × ByteArray) × Bool) (tt:Nat->Nat) (ord:List Nat) (W0:World) (L:Nat->Bool) (u:Value) (w:World):Prop:=Below W0.heap.size W0 w/\(L 3=true->L 4=false->∃A1 c1,tupAt u 0=.slice A1 M c1/\HasI w A1 ord)/\(L 4=true->GotR w (tupAt u 1) aE T tt M)/\(L 10=true->∃q,tupAt u 2=.pointer (some ⟨q,0,none⟩)/\W0.heap.size<=q/\(L 11=false->AppC w q none 0 0 none 0 0 0)/\(L 11=true->∃B1 d1 B2 d2,tupAt (tupAt u 1) 0=.agg #[.slice B1 aE.ps.length d1,.slice B2 aE.ss.length d2,.int .u64 (aE.n:Int)]/\AppC w q B1 aE.ps.length d1 B2 aE.ss.length d2 aE.n))
theorem wsRB_same (q9:Nat) (A0:Option Addr) (n0 c0:Nat) (E:Option Addr) (nl lc n:Nat) (A:Option Addr) (M c:Nat) (aE:AM) (T:Nat->(Nat × ByteArray) × Bool) (tt:Nat->Nat) (ord:List Nat) {W0:World} {L:Nat->Bool} {i:Nat} {u:Value} {w:World} (k3:((3:Nat)==i)=false) (k4:((4:Nat)==i)=false) (k10:((10:Nat)==i)=false) (k11:((11:Nat)==i)=false) (h:wsRB q9 A0 n0 c0 E nl lc n A M c aE T tt ord W0 L u w):wsRB q9 A0 n0 c0 E nl lc n A M c aE T tt ord W0 (fun j=>L j||j==i) u w:=by
 unfold wsRB at h ⊢;simp only [beq_noF k3,beq_noF k4,beq_noF k10,beq_noF k11];exact h
theorem wrnone (q9:Nat) (A0:Option Addr) (n0 c0:Nat) (E:Option Addr) (nl lc n:Nat) (A:Option Addr) (M c:Nat) (aE:AM) (T:Nat->(Nat × ByteArray) × Bool) (tt:Nat->Nat) (ord:List Nat) (a:Act) (w:World) (Q:Exit->Act->World->Prop) (hN:a.tmps.size=167) (h1:a.tmps.getD 1 undef=.slice A M c) (h9:a.tmps.getD 9 undef=.pointer (some ⟨q9,0,none⟩)) (hx9:AppC w q9 A0 n0 c0 E nl lc n) (hO:∀w',Below w.heap.size w.drew w'->Calls Tryz.prog 11 #[.slice A M c,.slice none 0 0] w' fun e W'=>∃A1 c1,e=.returned (.slice A1 M c1)/\HasI W' A1 ord/\Below w'.heap.size w' W') (hRn:∀w' A1 c1,Below w.heap.size w.drew w'->HasI w' A1 ord->Calls Tryz.prog 10 #[.agg #[.slice A0 n0 c0,.slice E nl lc,.int .u64 (n:Int)],.slice A M c,.slice A1 M c1] w' fun e W'=>∃x,e=.returned x/\GotR W' x aE T tt M/\Below w'.heap.size w' W') (hW0:wsRB q9 A0 n0 c0 E nl lc n A M c aE T tt ord w.drew (fun _=>false) undef w.drew) (hQ:∀(u:Value) w',wsRB q9 A0 n0 c0 E nl lc n A M c aE T tt ord w.drew (fun _=>true) u w'->Q .normal (puts [(96,.agg #[.slice A0 n0 c0,.slice E nl lc,.int .u64 (n:Int)]),(97,.slice A M c),(98,.slice A M c),(99,tupAt u 0),(100,tupAt u 1),(95,tupAt u 1),(101,tupAt (tupAt u 1) 0),(102,tupAt (tupAt u 1) 1),(103,tupAt (tupAt u 1) 2),(104,tupAt (tupAt u 1) 3),(18,tupAt u 2),(19,tupAt (tupAt u 1) 1),(20,tupAt (tupAt u 1) 2),(21,tupAt (tupAt u 1) 3)] a) w')
 :(Code.region 16 opsRB.toArray true).wp Tryz.prog Q a w:=by
 refine region_c (U:=Value) 167 opsRB [(1,.slice A M c),(9,.pointer (some ⟨q9,0,none⟩))] [3,4,6,7,8,9,10,11] (fun u=>[.agg #[.slice A0 n0 c0,.slice E nl lc,.int .u64 (n:Int)],.slice A M c,.slice A M c,tupAt u 0,tupAt u 1,tupAt u 1,tupAt (tupAt u 1) 0,tupAt (tupAt u 1) 1,tupAt (tupAt u 1) 2,tupAt (tupAt u 1) 3,tupAt u 2,undef,tupAt (tupAt u 1) 1,tupAt (tupAt u 1) 2,tupAt (tupAt u 1) 3]) (wsRB q9 A0 n0 c0 E nl lc n A M c aE T tt ord w.drew) undef follows (by kernel_rfl) hN ⟨h1,h9,trivial⟩ (fun _=>nBl rfl) hW0 (fun _ _ _ _ hi h=>wsRB_same _ _ _ _ _ _ _ _ _ _ _ _ _ _ _ (key_ne hi rfl) (key_ne hi rfl) (key_ne hi rfl) (key_ne hi rfl) h) ?_ ?_ ?_
 ·intro L u w' hW _;exact ⟨fun _=>ob_load (run_lxA _ _ _ _ _ _ _ _ _ ((hW.1.block q9 hx9.lt).trans hx9)),fun _=>rfl,fun _=>rfl,trivial,trivial,fun _=>rfl,trivial,trivial,trivial,trivial,trivial,trivial,fun _=>rfl,fun _=>rfl,fun _=>rfl,trivial⟩
 ·refine ⟨?_,?_,?_,?_,?_,?_,?_,?_,trivial⟩
  ·rintro o ho L u a' w' hLi hpre hcl hR hW fin;have hio:=(nthO_eq _ _).symm.trans ho
   cases ho
   have q2:a'.tmps.getD 98 undef=.slice A M c:=hR.val 2 _ 98 rfl rfl (edge_ofF hpre 2 rfl);obtain ⟨w1,w2,w3,w4⟩:=hW;have n4:L 4=false:=not_yetF hcl 30 (show reachB opsRB 30 4 3=true by kernel_rfl) hLi;have n11:L 11=false:=not_yetF hcl 30 (show reachB opsRB 30 11 3=true by kernel_rfl) hLi;refine step_callD hio rfl rfl (enters_of Tryz.func11 (by kernel_rfl) rfl) (show Array.map a'.eval #[.tmp 98,.const (.slice none 0 0)]=_ from by simp only [List.map_toArray,List.map_cons,List.map_nil,Act.eval,q2]) ((hO w' w1).mono ?_);rintro e w'' ⟨A1,c1,rfl,hI,hb⟩
   have hW2:wsRB q9 A0 n0 c0 E nl lc n A M c aE T tt ord w.drew (fun j=>L j||j==3) (.tuple #[.slice A1 M c1,tupAt u 1,tupAt u 2]) w'':=by
    refine ⟨w1.trans (Below.mono hb w1.size),fun _ _=>⟨A1,c1,rfl,hI⟩,fun h=>(by
     have h':L 4=true:=by simpa using h
     rw [n4] at h'
     cases h'),fun h=>?_⟩
    obtain ⟨q,e1,e2,e3,_⟩:=w4 (by simpa using h)
    exact ⟨q,e1,e2,fun _=>(hb.block q (e3 n11).lt).trans (e3 n11),fun h=>(by
     have h':L 11=true:=by simpa using h
     rw [n11] at h'
     cases h')⟩
   exact ⟨_,rfl,(fin ((.tuple #[.slice A1 M c1,tupAt u 1,tupAt u 2])) _ _ (fun _=>rfl) (fun j hj=>by
    rcases j with _|_|_|_|_|_|_|_|_|_|_|_|_|_|_|j<;>first|rfl|exact Bool.noConfusion (hj.symm.trans hLi)|exact Bool.noConfusion (hj.symm.trans (not_yetF hcl 30 (by kernel_rfl) hLi))) (hW2))⟩
  ·rintro o ho L u a' w' hLi hpre hcl hR hW fin;have hio:=(nthO_eq _ _).symm.trans ho
   cases ho
   have q0:a'.tmps.getD 96 undef=.agg #[.slice A0 n0 c0,.slice E nl lc,.int .u64 (n:Int)]:=hR.val 0 _ 96 rfl rfl (edge_ofF hpre 0 rfl);have q1:a'.tmps.getD 97 undef=.slice A M c:=hR.val 1 _ 97 rfl rfl (edge_ofF hpre 1 rfl);have q3:a'.tmps.getD 99 undef=tupAt u 0:=hR.val 3 _ 99 rfl rfl (edge_ofF hpre 3 rfl);obtain ⟨w1,w2,w3,w4⟩:=hW;have n5:L 5=false:=not_yetF hcl 30 (show reachB opsRB 30 5 4=true by kernel_rfl) hLi;have n6:L 6=false:=not_yetF hcl 30 (show reachB opsRB 30 6 4=true by kernel_rfl) hLi;have n7:L 7=false:=not_yetF hcl 30 (show reachB opsRB 30 7 4=true by kernel_rfl) hLi;have n8:L 8=false:=not_yetF hcl 30 (show reachB opsRB 30 8 4=true by kernel_rfl) hLi;have n9:L 9=false:=not_yetF hcl 30 (show reachB opsRB 30 9 4=true by kernel_rfl) hLi;have n12:L 12=false:=not_yetF hcl 30 (show reachB opsRB 30 12 4=true by kernel_rfl) hLi;have n13:L 13=false:=not_yetF hcl 30 (show reachB opsRB 30 13 4=true by kernel_rfl) hLi;have n14:L 14=false:=not_yetF hcl 30 (show reachB opsRB 30 14 4=true by kernel_rfl) hLi;have n11:L 11=false:=not_yetF hcl 30 (show reachB opsRB 30 11 4=true by kernel_rfl) hLi;obtain ⟨A1,c1,e0,hI⟩:=w2 (edge_ofF hpre 3 rfl) hLi;have q3':=q3.trans e0;refine step_callD hio rfl rfl (enters_of Tryz.func10 (by kernel_rfl) rfl) (show Array.map a'.eval #[.tmp 96,.tmp 97,.tmp 99]=_ from by simp only [List.map_toArray,List.map_cons,List.map_nil,Act.eval,q0,q1,q3']) ((hRn w' A1 c1 w1 hI).mono ?_);rintro e w'' ⟨x,rfl,hG,hb⟩
   have hW2:wsRB q9 A0 n0 c0 E nl lc n A M c aE T tt ord w.drew (fun j=>L j||j==4) (.tuple #[tupAt u 0,x,tupAt u 2]) w'':=by
    refine ⟨w1.trans (Below.mono hb w1.size),fun _ h=>(by simp at h),fun _=>hG,fun h=>?_⟩;obtain ⟨q,e1,e2,e3,_⟩:=w4 (by simpa using h)
    exact ⟨q,e1,e2,fun _=>(hb.block q (e3 n11).lt).trans (e3 n11),fun h=>(by
     have h':L 11=true:=by simpa using h
     rw [n11] at h'
     cases h')⟩
   exact ⟨_,rfl,(fin ((.tuple #[tupAt u 0,x,tupAt u 2])) _ _ (fun _=>rfl) (fun j hj=>by
    rcases j with _|_|_|_|_|_|_|_|_|_|_|_|_|_|_|j<;>first|rfl|exact Bool.noConfusion (hj.symm.trans hLi)|exact Bool.noConfusion (hj.symm.trans (not_yetF hcl 30 (by kernel_rfl) hLi))) (hW2))⟩
  ·rintro o ho L u a' w' hLi hpre hcl hR hW fin;have hio:=(nthO_eq _ _).symm.trans ho
   cases ho
   have q5:a'.tmps.getD 95 undef=tupAt u 1:=hR.val 5 _ 95 rfl rfl (edge_ofF hpre 5 rfl);obtain ⟨v',rb,fb,tb,hv,_⟩:=hW.2.2.1 (reach_ofF hcl 30 5 4 (show reachB opsRB 30 5 4=true by kernel_rfl) (edge_ofF hpre 5 rfl));exact step_extractF hio rfl rfl (q5.trans hv) (by rw [hv];rfl) (fin (u) (tupAt (tupAt u 1) 0) _ (fun _=>rfl) (fun _ _=>rfl) (wsRB_same _ _ _ _ _ _ _ _ _ _ _ _ _ _ _ rfl rfl rfl rfl hW))
  ·rintro o ho L u a' w' hLi hpre hcl hR hW fin;have hio:=(nthO_eq _ _).symm.trans ho
   cases ho
   have q5:a'.tmps.getD 95 undef=tupAt u 1:=hR.val 5 _ 95 rfl rfl (edge_ofF hpre 5 rfl);obtain ⟨v',rb,fb,tb,hv,_⟩:=hW.2.2.1 (reach_ofF hcl 30 5 4 (show reachB opsRB 30 5 4=true by kernel_rfl) (edge_ofF hpre 5 rfl));exact step_extractF hio rfl rfl (q5.trans hv) (by rw [hv];rfl) (fin (u) (tupAt (tupAt u 1) 1) _ (fun _=>rfl) (fun _ _=>rfl) (wsRB_same _ _ _ _ _ _ _ _ _ _ _ _ _ _ _ rfl rfl rfl rfl hW))
  ·rintro o ho L u a' w' hLi hpre hcl hR hW fin;have hio:=(nthO_eq _ _).symm.trans ho
   cases ho
   have q5:a'.tmps.getD 95 undef=tupAt u 1:=hR.val 5 _ 95 rfl rfl (edge_ofF hpre 5 rfl);obtain ⟨v',rb,fb,tb,hv,_⟩:=hW.2.2.1 (reach_ofF hcl 30 5 4 (show reachB opsRB 30 5 4=true by kernel_rfl) (edge_ofF hpre 5 rfl));exact step_extractF hio rfl rfl (q5.trans hv) (by rw [hv];rfl) (fin (u) (tupAt (tupAt u 1) 2) _ (fun _=>rfl) (fun _ _=>rfl) (wsRB_same _ _ _ _ _ _ _ _ _ _ _ _ _ _ _ rfl rfl rfl rfl hW))
  ·rintro o ho L u a' w' hLi hpre hcl hR hW fin;have hio:=(nthO_eq _ _).symm.trans ho
   cases ho
   have q5:a'.tmps.getD 95 undef=tupAt u 1:=hR.val 5 _ 95 rfl rfl (edge_ofF hpre 5 rfl);obtain ⟨v',rb,fb,tb,hv,_⟩:=hW.2.2.1 (reach_ofF hcl 30 5 4 (show reachB opsRB 30 5 4=true by kernel_rfl) (edge_ofF hpre 5 rfl));exact step_extractF hio rfl rfl (q5.trans hv) (by rw [hv];rfl) (fin (u) (tupAt (tupAt u 1) 3) _ (fun _=>rfl) (fun _ _=>rfl) (wsRB_same _ _ _ _ _ _ _ _ _ _ _ _ _ _ _ rfl rfl rfl rfl hW))
  ·rintro o ho L u a' w' hLi hpre hcl hR hW fin;have hio:=(nthO_eq _ _).symm.trans ho
   cases ho
   obtain ⟨w1,w2,w3,w4⟩:=hW;have n11:L 11=false:=not_yetF hcl 30 (show reachB opsRB 30 11 10=true by kernel_rfl) hLi;refine step_run hio rfl (by intro c h;cases h) (by simp [Oper.about]) (v:=.pointer (some ⟨w'.heap.size,0,none⟩)) (w':=(w'.alloc (.cells #[.slice none 0 0,.slice none 0 0,.int .u64 0] 32))) (by simp [execOp,run_alA]) ?_
   have hW2:wsRB q9 A0 n0 c0 E nl lc n A M c aE T tt ord w.drew (fun j=>L j||j==10) (.tuple #[tupAt u 0,tupAt u 1,.pointer (some ⟨w'.heap.size,0,none⟩)]) (w'.alloc (.cells #[.slice none 0 0,.slice none 0 0,.int .u64 0] 32)):=by
    have hb:Below w'.heap.size w' (w'.alloc (.cells #[.slice none 0 0,.slice none 0 0,.int .u64 0] 32)):=(Below.refl _ w').alloc (nLr _) _
    refine ⟨w1.alloc w1.size _,fun h h2=>?_,fun h=>(w3 (by simpa using h)).below hb,fun _=>⟨_,rfl,w1.size,fun _=>wAh w' _,fun h=>(by
     have h':L 11=true:=by simpa using h
     rw [n11] at h'
     cases h')⟩⟩
    obtain ⟨A1,c1,e,hI⟩:=w2 (by simpa using h) (by simpa using h2);exact ⟨A1,c1,e,hI.below hb⟩
   exact (fin ((.tuple #[tupAt u 0,tupAt u 1,.pointer (some ⟨w'.heap.size,0,none⟩)])) _ _ (fun _=>rfl) (fun j hj=>by
    rcases j with _|_|_|_|_|_|_|_|_|_|_|_|_|_|_|j<;>first|rfl|exact Bool.noConfusion (hj.symm.trans hLi)|exact Bool.noConfusion (hj.symm.trans (not_yetF hcl 30 (by kernel_rfl) hLi))) (hW2))
  ·rintro o ho L u a' w' hLi hpre hcl hR hW fin;have hio:=(nthO_eq _ _).symm.trans ho
   cases ho
   have q10:a'.tmps.getD 18 undef=tupAt u 2:=hR.val 10 _ 18 rfl rfl (edge_ofF hpre 10 rfl);have q6:a'.tmps.getD 101 undef=tupAt (tupAt u 1) 0:=hR.val 6 _ 101 rfl rfl (edge_ofF hpre 6 rfl);obtain ⟨w1,w2,w3,w4⟩:=hW;have ha:=edge_ofF hpre 10 rfl;have hr5:=edge_ofF hpre 4 rfl;obtain ⟨q,e1,e2,e3,_⟩:=w4 ha;have hA0:=e3 hLi;have hG:=w3 hr5;have hG0:=hG;obtain ⟨v',rb,fb,tb,hx,hV,_⟩:=hG;obtain ⟨B1,d1,B2,d2,hv,_⟩:=hV;subst hv;have hx1:a'.eval (.tmp 18)=.pointer (some ⟨q,0,none⟩):=q10.trans e1;have hx2:a'.eval (.tmp 101)=.agg #[.slice B1 aE.ps.length d1,.slice B2 aE.ss.length d2,.int .u64 (aE.n:Int)]:=q6.trans (by rw [hx];rfl);have hst:=run_sxA (B0:=B1) (m0:=aE.ps.length) (d0:=d1) (B1:=B2) (m1:=aE.ss.length) (d1:=d2) (m:=aE.n) hA0
   refine step_skip hio rfl (by intro c h;cases h) (by simp [Oper.about]) (w':=setA w' q B1 aE.ps.length d1 B2 aE.ss.length d2 aE.n) (by
    unfold execOp;simp only [hx1,hx2,Sem.run_bind,hst,Result.andThen_ok]
    rfl) ?_
   have hW2:wsRB q9 A0 n0 c0 E nl lc n A M c aE T tt ord w.drew (fun j=>L j||j==11) u (setA w' q B1 aE.ps.length d1 B2 aE.ss.length d2 aE.n):=by
    refine ⟨((w1.setCell (p:=⟨q,0,none⟩) e2 _).setCell (p:=⟨q,1,none⟩) e2 _).setCell (p:=⟨q,2,none⟩) e2 _,fun _ h=>?_,fun _=>hG0.apart hA0 (fun g _ h2=>setA_heap _ _ h2),fun _=>⟨q,e1,e2,fun h=>(by simp at h),fun _=>⟨B1,d1,B2,d2,by rw [hx];rfl,hA0.set⟩⟩⟩;have h':L 4=false:=by simpa using h
    rw [hr5] at h'
    cases h'
   exact (fin (u) _ _ (fun h=>(by cases h)) (fun _ _=>rfl) (hW2))
 ·intro L u w' hl hW;refine hQ u w' ?_;unfold wsRB at hW ⊢;simp only [hl 3 (nBl rfl),hl 4 (nBl rfl),hl 10 (nBl rfl),hl 11 (nBl rfl)] at hW ⊢;exact hW
end Go.Proofs.YtfjmdkhemnmkpaaGreatDoor
