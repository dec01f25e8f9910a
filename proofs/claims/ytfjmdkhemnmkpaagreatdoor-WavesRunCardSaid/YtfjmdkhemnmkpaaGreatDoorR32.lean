/- Parts of the proof: WxGo, WxOne, WxX, WvRu. -/
import Derived.Test.YtfjmdkhemnmkpaaGreatDoorR31
import Derived.Test.YtfjmdkhemnmkpaaGreatDoorR27
import Derived.Test.YtfjmdkhemnmkpaaGreatDoorR28
import Derived.Test.YtfjmdkhemnmkpaaGreatDoorR29
import Derived.Test.YtfjmdkhemnmkpaaGreatDoorR26
set_option maxRecDepth 100000
set_option maxHeartbeats 8000000
namespace Go.Proofs.YtfjmdkhemnmkpaaGreatDoor
open Go.Maps Go.RowKit
attribute [local go_sem] Oper.semAt_some
theorem wrun_f {F:Nat->Prop} {w:World} {R:Nat} {a:AM} (A:Option Addr) (L c:Nat) (l:List CmdV) (fid:Nat) (fi ca:Array Value) (pk:Nat->Nat->Nat->Int) (h:AppQ F w R a) (hT:TabK w) (hlim:LimAn 1000 a) (hL:L=l.length) (hm:L<=100) (hA:HasCF F w A l) (hng:∀v∈l,¬v.great) (hf:PickF F w (.func (.func fid) fi ca) pk):
 CallsIn Fence.wide 5 Tryz.prog 12 #[.pointer (some ⟨R,0,none⟩),.slice A L c,(.func (.func fid) fi ca)] w fun e W'=>∃A' c',e=.returned (.slice A' L c')/\L<=c'/\HasD W' A' (runD pk (l.map (·.m)) a)/\∃F',AppQ F' W' R (endR pk (l.map (·.m)) a)/\Only F w W'/\(∀k,F' k->F k\/w.heap.size<=k)/\NotF w.heap.size F' A':=by
 have HBg:=hiD (begin_any A L c l fid fi ca h hL hm hA.has hng);have HS:=hiD h;have HG:=hiD (aI hT (aI hlim (aI hf hL)));obtain ⟨ms,hms⟩:∃ms,ms=List.map CmdV.m l:=⟨_,rfl⟩;have hmsL:ms.length=L:=by rw [hms,List.length_map];exact hL.symm
 change CallsIn Fence.wide 5 Tryz.prog 12 #[.pointer (some ⟨R,0,none⟩),.slice A L c,(.func (.func fid) fi ca)] w fun e W'=>∃A' c',e=.returned (.slice A' L c')/\L<=c'/\HasD W' A' (runD pk (List.map CmdV.m l) a)/\∃F',AppQ F' W' R (endR pk (List.map CmdV.m l) a)/\Only F w W'/\(∀k,F' k->F k\/w.heap.size<=k)/\NotF w.heap.size F' A'
 rw [<-hms] at HBg ⊢;have HM:=hiD hmsL;clear h hT hlim hL hA hng hf hms hmsL;have heq:=fun W=>eq_func W (.func fid) fi ca
 have hmf:∀(fn:Fn) (first cap:Array Value) (w:World),(Instr.makeFunc fn first cap).run Tryz.prog w=.ok (.func fn first cap) w:=fun _ _ _ _=>rfl
 refine callsIn_of_wp_marks Tryz.func12 rfl trivial ?_ rfl;simp only [Tryz.ntmps12,List.size_toArray,List.length_cons,List.length_nil,Nat.reduceAdd,Nat.reduceSub,Array.replicate_succ,Array.replicate_zero,List.push_toArray,List.append_toArray,List.nil_append,List.cons_append];refine wpIn_wide.2 ?_
 go_wp2_with fail
 refine HBg.out.mono ?_;rintro e W3 ⟨r,rfl,hb3,b,A1,c1,l1,g1,g2,hq,hrun⟩;obtain ⟨W4,hW4⟩:∃x,x=W3.alloc (.cells #[.pointer (some ⟨r,0,none⟩)] 68):=⟨_,rfl⟩;have hb4:Below W3.heap.size W3 W4:=by rw [hW4];exact (Below.refl _ _).alloc (nLr _) _
 have hv4:W4.heap[W3.heap.size]?=some (.cells #[.pointer (some ⟨r,0,none⟩)] 68 (0,0)):=by rw [hW4];exact wAh W3 _
 have hrun4:=hrun.grew hb4;have hq4:=hq.below hb4;have hw4:w.heap.size<=W4.heap.size:=hrun4.go.only.size;have hms1:ms=l1.map (·.m):=g1.symm;have hL1:L=l1.length:=by rw [<-List.length_map (f:=CmdV.m),g1];exact HM.out.symm
 obtain ⟨rv,hrv⟩:∃x,x=W3.heap.size:=⟨_,rfl⟩;rw [<-hrv] at hv4;have c40:=blk_cell hv4 0;simp at c40;have HI0:RunI F w R b r A1 L c1 (.func (.func fid) fi ca) pk ms a W4 rv 0 W4:=⟨⟨0,rfl,by unfold RunT;rw [rowW_zero];exact hrun4⟩,hv4,FarW.below (Below.refl _ W4)⟩;have HX:=hiD (aI HI0 (aI hq4 (aI hms1 (aI hL1 (aI g2 hw4)))));have HRB:=hiD (show r<W4.heap.size/\b<W4.heap.size from ⟨hrun4.lt,hrun4.go.lt⟩);clear HBg hb3 g1 g2 hq hrun hb4 hrun4 hq4 hw4 hms1 hL1 HI0 hv4;go_upto_region 6 with (fail)
 rw [<-hW4,<-hrv];clear hW4 hrv;obtain ⟨N,hN⟩:∃N,N=(groupsM ms).length:=⟨_,rfl⟩
 have hN1:N<=1000:=by
  rw [hN,groups_len]
  rcases Nat.eq_zero_or_pos (numW ms) with e|e
  ·omega
  ·have h1:=wave_few (ms:=ms) (t:=numW ms - 1) (by omega);have:=HM.out;omega
 have HNN:=hiD hN
 have hn100:∀(i:Nat) (h:i<(groupsM ms).length),(groupsM ms)[i].length<=100:=fun i h=>by
  rw [groups_get ms h];have h1:=List.length_filter_le (fun j=>decide (waveI ms j=i)) (List.range ms.length);rw [List.length_range] at h1;have:=HM.out;omega
 have HN100:=hiD hn100;clear hN hn100;go_wp2;refine (wpIn_wide (n:=5)).1 ?_
 refine wpIn_rangeFunc_tiedD rfl (by omega) (gf:=28) (fb:=#[.pointer (some ⟨r,0,none⟩)]) (lb:=#[]) rfl trivial (enters_of Tryz.func28 (by kernel_rfl) rfl) (encs:=GE.args) (fun _=>rfl)
  (RunI.abides HX.out.2.2.2.2.2) (AbidesD.ex fun gA=>RunJ.abides HX.out.2.2.2.2.2) (fun x=>(RunJ.abides HX.out.2.2.2.2.2).and (fun W W' row ⟨k1,k2,k3,k4,gb,go,k5,k6⟩ hg hr=>⟨k1,k2,k3,k4.turns hg hr,gb,go,k5,cell_turns hg hr k6⟩)) (fun x=>RunJ.abides HX.out.2.2.2.2.2) (fun _=>AbidesD.pure False) (fun _=>AbidesD.pure False)
  (waves_seq 4 (by omega) r N L c1 A1 (groupsM ms) (RunI F w R b r A1 L c1 (.func (.func fid) fi ca) pk ms a W4 rv 0) (fun gA i=>RunJ F w R b r A1 L c1 (.func (.func fid) fi ca) pk ms a W4 rv gA i) HNN.out hN1 (fun W hI=>⟨by
   obtain ⟨t,_,k2⟩:=hI.ex;exact k2.at.2.1,by
   have hcm:=(HX.out.2.1.far hI.far).has;have hgr:=groups_anyN A1 L c1 l1 W HX.out.2.2.2.1 hm hcm HX.out.2.2.2.2.1;rw [<-HX.out.2.2.1] at hgr;refine hgr.mono ?_;rintro e W' ⟨gA,N',gc,rfl,k1,k2,k3,k4,k5⟩;have hNe:N'=N:=by rw [k1,HNN.out,groups_len]
   subst hNe;exact ⟨gA,gc,rfl,k4,⟨hI.grew k4,k3,k5.mono hI.far.1⟩⟩⟩) (fun gA i W hj=>hj.rows) W4.heap.size) HX.out.1
  (fun x=>{tmps:=#[.pointer (some ⟨R,0,none⟩),.slice A L c,(.func (.func fid) fi ca),undef,undef,undef,.slice none 0 0,.pointer (some ⟨rv,0,none⟩),.int .i64 (x.i:Int),.slice x.E x.n x.c,.pointer (some ⟨R,0,none⟩),.bool false,(.func (.func fid) fi ca),.bool false,.pointer (some ⟨R,0,none⟩),.slice A L c,(.func (.func fid) fi ca),.pointer (some ⟨r,0,none⟩),.pointer (some ⟨r,0,none⟩),.func (.func 28) #[.pointer (some ⟨r,0,none⟩)] #[],.int .i64 (x.i:Int),.slice x.E x.n x.c,undef,undef,undef,undef,undef,undef,undef,undef],defers:=[]}) ?assign ?body ?done ?stop
 case assign=>
  intro l x W K hK;simp only [GE.args];gi_wp2;exact hK
 case body=>
  rintro l x W ⟨hJ,hx,e1,e2,e3,gb,go,e4,e5⟩ hlt;obtain ⟨t,k1,k2⟩:=hJ.run.ex
  have hoff:OffB r b x.E:=fun y o m e=>by
   obtain ⟨x',o',e',m1,m2⟩:=hJ.new (by intro h0;rw [h0] at hx;simp at hx);rw [e4] at e'
   cases e'
   obtain ⟨A',c',m3,m4⟩:=m2 x.i hx;rw [e5] at m3;have hE:=(Value.slice.inj (osI m3)).1;have:=m4 y o m (hE.symm.trans e);have:=HRB.out;exact ⟨by omega,by omega⟩
  have hl0:LeftW pk (orderM pk ms) t x.i 0 (groupsM ms)[x.i] ((groupsM ms).drop (x.i+1)):=LeftW.start (by rw [k1,List.drop_eq_getElem_cons hx]);have hxi:x.i<=1000:=by have:=HNN.out;omega
  have HWV:Hid (Calls Tryz.prog 29 #[.pointer (some ⟨r,0,none⟩),.int .i64 (x.i:Int),.slice x.E x.n x.c] W fun e W'=>e=.returned (.tuple #[])/\KeepsD W4.heap.size W W'/\RunJ F w R b r A1 L c1 (.func (.func fid) fi ca) pk ms a W4 rv x.gA (x.i+1) W'):=hiD (by
   rw [e1];refine (wwave_any k2 HG.out.1 HS.out HG.out.2.1 HX.out.2.2.1 HX.out.2.2.2.1 hm (HX.out.2.1.far hJ.run.far) HX.out.2.2.2.2.1 HG.out.2.2.1 x.i hxi (groupsM ms)[x.i] _ x.E x.c e3 hoff (by rw [<-e1];exact e2) (HN100.out x.i hx) hl0 (fun j hj=>by have:=groups_wave ms x.i _ (List.getElem?_eq_getElem hx) j hj;omega)).mono ?_;rintro e W' ⟨rfl,t1,m1,m2,m3⟩;exact ⟨rfl,k2.keepsD m3,hJ.next HRB.out.1 HRB.out.2 m1 m2 m3⟩)
  have hv:=blk_cell hJ.run.var 0;simp at hv;clear hJ hoff hl0 k1 k2 e1 e2 e3 e4 e5 hx hxi c40
  gi_wp2_with fail
  refine ⟨trivial,(CallsIn.inRound l (callsIn_wide.2 HWV.out)).mono ?_⟩;rintro e W' ⟨rfl,m1,m2⟩;have HM2:=hiD (aI m1 m2);clear m1 m2 hv;gi_wp2;exact HM2.out
 case done=>
  rintro D W hD ⟨gA,hId⟩ hK;obtain ⟨t,k1,k2⟩:=hId.run.ex;have hdn:(groupsM ms).drop N=[]:=List.drop_eq_nil_iff.2 (by have:=HNN.out;omega);rw [hdn] at k1;have htk:(orderM pk ms).take t=orderM pk ms:=List.take_of_length_le (List.drop_eq_nil_iff.1 k1);have hv:=blk_cell hId.run.var 0;simp at hv;have hf3:=k2.at.2.2.2.1;have HW:=hiD (aI k2 (aI htk hK));clear hId k1 k2 hdn htk hK c40;go_wp2;have hfin:=HW.out.1.turns (W':=W.putObj D (.deferred none)) (B:=W4.heap.size) HX.out.2.2.2.2.2 (grownBy_putObj' W D (.deferred none)) (fun k e=>by cases e;exact ⟨hD,_,HW.out.2.2,rfl⟩);refine ⟨by simp,.inl ⟨_,_,rfl,run_takeDeferred HW.out.2.2,?_⟩⟩;refine ⟨.slice (some ⟨b,0,none⟩) L L,(results_tmp (fn:=Tryz.f12) (t:=6) rfl _ _ _).trans rfl,some ⟨b,0,none⟩,L,rfl,nLr _,?_⟩;have hgo:=hfin.go;rw [HW.out.2.1] at hgo;refine hgo.fin (ds:=runD pk ms a) (by rw [runD_len,HM.out];exact nLr _) fun j hj=>?_
  have hjl:j<ms.length:=by rwa [runD_len] at hj
  have hjm:j∈orderM pk ms:=(orderM_perm pk ms).mem_iff.2 (List.mem_range.2 hjl);simp only [runD,List.getElem_map,List.getElem_range];rw [rowW,HW.out.2.1,if_pos hjm]
 case stop=>
  intro D cc W hD hf;exact hf.elim
theorem wrun_n {F:Nat->Prop} {w:World} {R:Nat} {a:AM} (A:Option Addr) (L c:Nat) (l:List CmdV) (pk:Nat->Nat->Nat->Int) (h:AppQ F w R a) (hT:TabK w) (hlim:LimAn 1000 a) (hL:L=l.length) (hm:L<=100) (hA:HasCF F w A l) (hng:∀v∈l,¬v.great) (hf:PickF F w (.func (.func 26) #[] #[]) pk):
 CallsIn Fence.wide 5 Tryz.prog 12 #[.pointer (some ⟨R,0,none⟩),.slice A L c,.nilFunc] w fun e W'=>∃A' c',e=.returned (.slice A' L c')/\L<=c'/\HasD W' A' (runD pk (l.map (·.m)) a)/\∃F',AppQ F' W' R (endR pk (l.map (·.m)) a)/\Only F w W'/\(∀k,F' k->F k\/w.heap.size<=k)/\NotF w.heap.size F' A':=by
 have HBg:=hiD (begin_any A L c l 26 #[] #[] h hL hm hA.has hng);have HS:=hiD h;have HG:=hiD (aI hT (aI hlim (aI hf hL)));obtain ⟨ms,hms⟩:∃ms,ms=List.map CmdV.m l:=⟨_,rfl⟩;have hmsL:ms.length=L:=by rw [hms,List.length_map];exact hL.symm
 change CallsIn Fence.wide 5 Tryz.prog 12 #[.pointer (some ⟨R,0,none⟩),.slice A L c,.nilFunc] w fun e W'=>∃A' c',e=.returned (.slice A' L c')/\L<=c'/\HasD W' A' (runD pk (List.map CmdV.m l) a)/\∃F',AppQ F' W' R (endR pk (List.map CmdV.m l) a)/\Only F w W'/\(∀k,F' k->F k\/w.heap.size<=k)/\NotF w.heap.size F' A'
 rw [<-hms] at HBg ⊢;have HM:=hiD hmsL;clear h hT hlim hL hA hng hf hms hmsL;have heq:=fun W=>eq_nilf W
 have hmf:∀(fn:Fn) (first cap:Array Value) (w:World),(Instr.makeFunc fn first cap).run Tryz.prog w=.ok (.func fn first cap) w:=fun _ _ _ _=>rfl
 refine callsIn_of_wp_marks Tryz.func12 rfl trivial ?_ rfl;simp only [Tryz.ntmps12,List.size_toArray,List.length_cons,List.length_nil,Nat.reduceAdd,Nat.reduceSub,Array.replicate_succ,Array.replicate_zero,List.push_toArray,List.append_toArray,List.nil_append,List.cons_append];refine wpIn_wide.2 ?_
 go_wp2_with fail
 refine HBg.out.mono ?_;rintro e W3 ⟨r,rfl,hb3,b,A1,c1,l1,g1,g2,hq,hrun⟩;obtain ⟨W4,hW4⟩:∃x,x=W3.alloc (.cells #[.pointer (some ⟨r,0,none⟩)] 68):=⟨_,rfl⟩;have hb4:Below W3.heap.size W3 W4:=by rw [hW4];exact (Below.refl _ _).alloc (nLr _) _
 have hv4:W4.heap[W3.heap.size]?=some (.cells #[.pointer (some ⟨r,0,none⟩)] 68 (0,0)):=by rw [hW4];exact wAh W3 _
 have hrun4:=hrun.grew hb4;have hq4:=hq.below hb4;have hw4:w.heap.size<=W4.heap.size:=hrun4.go.only.size;have hms1:ms=l1.map (·.m):=g1.symm;have hL1:L=l1.length:=by rw [<-List.length_map (f:=CmdV.m),g1];exact HM.out.symm
 obtain ⟨rv,hrv⟩:∃x,x=W3.heap.size:=⟨_,rfl⟩;rw [<-hrv] at hv4;have c40:=blk_cell hv4 0;simp at c40;have HI0:RunI F w R b r A1 L c1 (.func (.func 26) #[] #[]) pk ms a W4 rv 0 W4:=⟨⟨0,rfl,by unfold RunT;rw [rowW_zero];exact hrun4⟩,hv4,FarW.below (Below.refl _ W4)⟩;have HX:=hiD (aI HI0 (aI hq4 (aI hms1 (aI hL1 (aI g2 hw4)))));have HRB:=hiD (show r<W4.heap.size/\b<W4.heap.size from ⟨hrun4.lt,hrun4.go.lt⟩);clear HBg hb3 g1 g2 hq hrun hb4 hrun4 hq4 hw4 hms1 hL1 HI0 hv4;go_upto_region 6 with (fail)
 rw [<-hW4,<-hrv];clear hW4 hrv;obtain ⟨N,hN⟩:∃N,N=(groupsM ms).length:=⟨_,rfl⟩
 have hN1:N<=1000:=by
  rw [hN,groups_len]
  rcases Nat.eq_zero_or_pos (numW ms) with e|e
  ·omega
  ·have h1:=wave_few (ms:=ms) (t:=numW ms - 1) (by omega);have:=HM.out;omega
 have HNN:=hiD hN
 have hn100:∀(i:Nat) (h:i<(groupsM ms).length),(groupsM ms)[i].length<=100:=fun i h=>by
  rw [groups_get ms h];have h1:=List.length_filter_le (fun j=>decide (waveI ms j=i)) (List.range ms.length);rw [List.length_range] at h1;have:=HM.out;omega
 have HN100:=hiD hn100;clear hN hn100;go_wp2;refine (wpIn_wide (n:=5)).1 ?_
 refine wpIn_rangeFunc_tiedD rfl (by omega) (gf:=28) (fb:=#[.pointer (some ⟨r,0,none⟩)]) (lb:=#[]) rfl trivial (enters_of Tryz.func28 (by kernel_rfl) rfl) (encs:=GE.args) (fun _=>rfl)
  (RunI.abides HX.out.2.2.2.2.2) (AbidesD.ex fun gA=>RunJ.abides HX.out.2.2.2.2.2) (fun x=>(RunJ.abides HX.out.2.2.2.2.2).and (fun W W' row ⟨k1,k2,k3,k4,gb,go,k5,k6⟩ hg hr=>⟨k1,k2,k3,k4.turns hg hr,gb,go,k5,cell_turns hg hr k6⟩)) (fun x=>RunJ.abides HX.out.2.2.2.2.2) (fun _=>AbidesD.pure False) (fun _=>AbidesD.pure False)
  (waves_seq 4 (by omega) r N L c1 A1 (groupsM ms) (RunI F w R b r A1 L c1 (.func (.func 26) #[] #[]) pk ms a W4 rv 0) (fun gA i=>RunJ F w R b r A1 L c1 (.func (.func 26) #[] #[]) pk ms a W4 rv gA i) HNN.out hN1 (fun W hI=>⟨by
   obtain ⟨t,_,k2⟩:=hI.ex;exact k2.at.2.1,by
   have hcm:=(HX.out.2.1.far hI.far).has;have hgr:=groups_anyN A1 L c1 l1 W HX.out.2.2.2.1 hm hcm HX.out.2.2.2.2.1;rw [<-HX.out.2.2.1] at hgr;refine hgr.mono ?_;rintro e W' ⟨gA,N',gc,rfl,k1,k2,k3,k4,k5⟩;have hNe:N'=N:=by rw [k1,HNN.out,groups_len]
   subst hNe;exact ⟨gA,gc,rfl,k4,⟨hI.grew k4,k3,k5.mono hI.far.1⟩⟩⟩) (fun gA i W hj=>hj.rows) W4.heap.size) HX.out.1
  (fun x=>{tmps:=#[.pointer (some ⟨R,0,none⟩),.slice A L c,(.func (.func 26) #[] #[]),undef,undef,undef,.slice none 0 0,.pointer (some ⟨rv,0,none⟩),.int .i64 (x.i:Int),.slice x.E x.n x.c,.pointer (some ⟨R,0,none⟩),.bool false,.nilFunc,.bool true,.pointer (some ⟨R,0,none⟩),.slice A L c,(.func (.func 26) #[] #[]),.pointer (some ⟨r,0,none⟩),.pointer (some ⟨r,0,none⟩),.func (.func 28) #[.pointer (some ⟨r,0,none⟩)] #[],.int .i64 (x.i:Int),.slice x.E x.n x.c,undef,undef,undef,undef,undef,undef,undef,undef],defers:=[]}) ?assign ?body ?done ?stop
 case assign=>
  intro l x W K hK;simp only [GE.args];gi_wp2;exact hK
 case body=>
  rintro l x W ⟨hJ,hx,e1,e2,e3,gb,go,e4,e5⟩ hlt;obtain ⟨t,k1,k2⟩:=hJ.run.ex
  have hoff:OffB r b x.E:=fun y o m e=>by
   obtain ⟨x',o',e',m1,m2⟩:=hJ.new (by intro h0;rw [h0] at hx;simp at hx);rw [e4] at e'
   cases e'
   obtain ⟨A',c',m3,m4⟩:=m2 x.i hx;rw [e5] at m3;have hE:=(Value.slice.inj (osI m3)).1;have:=m4 y o m (hE.symm.trans e);have:=HRB.out;exact ⟨by omega,by omega⟩
  have hl0:LeftW pk (orderM pk ms) t x.i 0 (groupsM ms)[x.i] ((groupsM ms).drop (x.i+1)):=LeftW.start (by rw [k1,List.drop_eq_getElem_cons hx]);have hxi:x.i<=1000:=by have:=HNN.out;omega
  have HWV:Hid (Calls Tryz.prog 29 #[.pointer (some ⟨r,0,none⟩),.int .i64 (x.i:Int),.slice x.E x.n x.c] W fun e W'=>e=.returned (.tuple #[])/\KeepsD W4.heap.size W W'/\RunJ F w R b r A1 L c1 (.func (.func 26) #[] #[]) pk ms a W4 rv x.gA (x.i+1) W'):=hiD (by
   rw [e1];refine (wwave_any k2 HG.out.1 HS.out HG.out.2.1 HX.out.2.2.1 HX.out.2.2.2.1 hm (HX.out.2.1.far hJ.run.far) HX.out.2.2.2.2.1 HG.out.2.2.1 x.i hxi (groupsM ms)[x.i] _ x.E x.c e3 hoff (by rw [<-e1];exact e2) (HN100.out x.i hx) hl0 (fun j hj=>by have:=groups_wave ms x.i _ (List.getElem?_eq_getElem hx) j hj;omega)).mono ?_;rintro e W' ⟨rfl,t1,m1,m2,m3⟩;exact ⟨rfl,k2.keepsD m3,hJ.next HRB.out.1 HRB.out.2 m1 m2 m3⟩)
  have hv:=blk_cell hJ.run.var 0;simp at hv;clear hJ hoff hl0 k1 k2 e1 e2 e3 e4 e5 hx hxi c40
  gi_wp2_with fail
  refine ⟨trivial,(CallsIn.inRound l (callsIn_wide.2 HWV.out)).mono ?_⟩;rintro e W' ⟨rfl,m1,m2⟩;have HM2:=hiD (aI m1 m2);clear m1 m2 hv;gi_wp2;exact HM2.out
 case done=>
  rintro D W hD ⟨gA,hId⟩ hK;obtain ⟨t,k1,k2⟩:=hId.run.ex;have hdn:(groupsM ms).drop N=[]:=List.drop_eq_nil_iff.2 (by have:=HNN.out;omega);rw [hdn] at k1;have htk:(orderM pk ms).take t=orderM pk ms:=List.take_of_length_le (List.drop_eq_nil_iff.1 k1);have hv:=blk_cell hId.run.var 0;simp at hv;have hf3:=k2.at.2.2.2.1;have HW:=hiD (aI k2 (aI htk hK));clear hId k1 k2 hdn htk hK c40;go_wp2;have hfin:=HW.out.1.turns (W':=W.putObj D (.deferred none)) (B:=W4.heap.size) HX.out.2.2.2.2.2 (grownBy_putObj' W D (.deferred none)) (fun k e=>by cases e;exact ⟨hD,_,HW.out.2.2,rfl⟩);refine ⟨by simp,.inl ⟨_,_,rfl,run_takeDeferred HW.out.2.2,?_⟩⟩;refine ⟨.slice (some ⟨b,0,none⟩) L L,(results_tmp (fn:=Tryz.f12) (t:=6) rfl _ _ _).trans rfl,some ⟨b,0,none⟩,L,rfl,nLr _,?_⟩;have hgo:=hfin.go;rw [HW.out.2.1] at hgo;refine hgo.fin (ds:=runD pk ms a) (by rw [runD_len,HM.out];exact nLr _) fun j hj=>?_
  have hjl:j<ms.length:=by rwa [runD_len] at hj
  have hjm:j∈orderM pk ms:=(orderM_perm pk ms).mem_iff.2 (List.mem_range.2 hjl);simp only [runD,List.getElem_map,List.getElem_range];rw [rowW,HW.out.2.1,if_pos hjm]
 case stop=>
  intro D cc W hD hf;exact hf.elim
end Go.Proofs.YtfjmdkhemnmkpaaGreatDoor
namespace Go.Proofs.YtfjmdkhemnmkpaaGreatDoor
open Go.Maps Go.RowKit
noncomputable def oneT (ms:List CM) (a:AM) (t:Nat) (j:Nat):DV:=if j<t then ⟨(toldO (runO (atM ms) (List.range t) a).2 j).1.1,(toldO (runO (atM ms) (List.range t) a).2 j).1.2,(toldO (runO (atM ms) (List.range t) a).2 j).2,0,j⟩ else D0
theorem oneT_zero (ms:List CM) (a:AM):oneT ms a 0=fun _=>D0:=by
 funext j
 rw [oneT,if_neg (by omega)]
theorem oneT_succ (ms:List CM) (a:AM) (t:Nat):oneT ms a (t+1)=updT (oneT ms a t) t ⟨(doA (runO (atM ms) (List.range t) a).1 (atM ms t)).2.1.1,(doA (runO (atM ms) (List.range t) a).1 (atM ms t)).2.1.2,(doA (runO (atM ms) (List.range t) a).1 (atM ms t)).2.2,0,t⟩:=by
 have hs:=(runO_snoc (atM ms) t (List.range t) a (by simp)).2;rw [<-List.range_succ] at hs
 funext j
 unfold updT oneT
 by_cases hj:j=t
 ·subst hj;rw [if_pos (by omega),if_pos rfl,hs];simp [updT]
 ·rw [if_neg hj]
  by_cases hl:j<t
  ·rw [if_pos (by omega),if_pos hl,hs];simp [updT,hj]
  ·rw [if_neg (by omega),if_neg hl]
theorem wone_any {F:Nat->Prop} {w:World} {R:Nat} {a:AM} (A:Option Addr) (L c:Nat) (l:List CmdV) (h:AppQ F w R a) (hT:TabK w) (hlim:LimAn 1000 a) (hL:L=l.length) (hm:L<=100) (hA:HasCF F w A l) (hng:∀v∈l,¬v.great):
 Calls Tryz.prog 17 #[.pointer (some ⟨R,0,none⟩),.slice A L c] w fun e W'=>∃A' c',e=.returned (.slice A' L c')/\L<=c'/\HasD W' A' (oneD (l.map (·.m)) a)/\∃F',AppQ F' W' R (endO (l.map (·.m)) a)/\Only F w W'/\(∀k,F' k->F k\/w.heap.size<=k)/\NotF w.heap.size F' A':=by
 have HBg:=hiD (begin_any A L c l 26 #[] #[] h hL hm hA.has hng);have HS:=hiD h;have HG:=hiD (aI hT (aI hlim hL));have hLi:(L:Int)<=100:=by omega
 obtain ⟨ms,hms⟩:∃ms,ms=List.map CmdV.m l:=⟨_,rfl⟩;have hmsL:ms.length=L:=by rw [hms,List.length_map];exact hL.symm
 change Calls Tryz.prog 17 #[.pointer (some ⟨R,0,none⟩),.slice A L c] w fun e W'=>∃A' c',e=.returned (.slice A' L c')/\L<=c'/\HasD W' A' (oneD (List.map CmdV.m l) a)/\∃F',AppQ F' W' R (endO (List.map CmdV.m l) a)/\Only F w W'/\(∀k,F' k->F k\/w.heap.size<=k)/\NotF w.heap.size F' A'
 rw [<-hms] at HBg ⊢;have HM:=hiD hmsL;clear h hT hlim hL hA hng hms hmsL;go_enter Tryz.func17,Tryz.ntmps17
 go_wp2_with fail
 refine HBg.out.mono ?_;rintro e W3 ⟨r,rfl,hb3,b,A1,c1,l1,g1,g2,hq,hrun⟩;obtain ⟨x0,x1,x2,x3,x4⟩:=hrun.at;have hL1:L=l1.length:=by rw [<-List.length_map (f:=CmdV.m),g1];exact HM.out.symm
 have HX:=hiD (aI hrun (aI hq (aI (show ms=l1.map (·.m) from g1.symm) (aI hL1 g2))));clear HBg hb3 g1 g2 hq hrun hL1 x0 x2 x4;go_wp2
 go_loopw [17] (fun i wr=>∃t:Nat,t<=L/\i=.int .i64 (t:Int)/\Hid (RunQ F w R b r A1 L c1 (.func (.func 26) #[] #[]) (runO (atM ms) (List.range t) a).1 (oneT ms a t) t wr/\FarW r b W3 wr)) (fun i _=>L - (intOf i).toNat)
 case atStart=>exact ⟨0,Nat.zero_le _,rfl,hiD ⟨by rw [oneT_zero];exact HX.out.1,FarW.below (Below.refl _ W3)⟩⟩
 case round=>
  obtain ⟨t,ht,rfl,HK⟩:=hrel
  by_cases hlt:t<L
  ·have hti:(t:Int)<L:=by omega
   have hk1:t<l1.length:=by have:=HX.out.2.2.2.1;omega
   have hHC:=(HX.out.2.1.far HK.out.2).has;obtain ⟨cb,co,e1,hcb,f1⟩:=hHC (by rintro rfl;simp at hk1);obtain ⟨g1,g2⟩:=f1 t hk1;have hxm:atM ms t=(l1[t]).m:=by rw [atM_get (by have:=HM.out;omega)];simp [HX.out.2.2.1]
   have hlimt:LimA (runO (atM ms) (List.range t) a).1:=by
    rw [runO_one];refine (oneO_lim HG.out.2.1 _ (by simp;omega) fun m hm=>?_).lim (by simp;omega);obtain ⟨j,hj,rfl⟩:=List.mem_map.1 hm;have hjt:=List.mem_range.1 hj;have hjl:j<l1.length:=by omega
    rw [atM_get (by have:=HM.out;omega)];have hjm:(ms[j]'(by have:=HM.out;omega))=(l1[j]).m:=by simp [HX.out.2.2.1]
    rw [hjm];exact ⟨(f1 j hjl).2.cl,(f1 j hjl).2.sq⟩
   have hgy:(l1[t]).ks.length<=100:=by
    have hn:=HX.out.2.2.2.2 l1[t] (List.getElem_mem hk1);have:¬100<(l1[t]).ks.length:=fun hh=>hn (.inr (.inr (.inl hh)))
    omega
   have hT1:=oneT_succ ms a t;have hR1:=(runO_snoc (atM ms) t (List.range t) a (by simp)).1;rw [<-List.range_succ] at hR1;rw [hxm] at hT1 hR1
   have HD:=hiD (show Calls Tryz.prog 39 #[.pointer (some ⟨r,0,none⟩),.int .i64 (t:Int),.int .i64 0] wr fun e W'=>e=.returned (.tuple #[])/\RunQ F w R b r A1 L c1 (.func (.func 26) #[] #[]) (runO (atM ms) (List.range (t+1)) a).1 (oneT ms a (t+1)) (t+1) W'/\FarW r b wr W' from by
    subst e1;have:=wdo_any HK.out.1 HG.out.1 HS.out hlimt t 0 l1[t] hlt hcb (fun j u hu=>g1 j u hu) g2 hgy (by omega);refine this.mono ?_;rintro e W' ⟨rfl,k1,k2⟩;refine ⟨rfl,?_,k2⟩;rw [hT1,hR1];exact k1)
   clear hT1 hR1 hxm hlimt hgy hHC g1 g2 f1 e1 hcb hk1 x1 x3
   go_wp2_with fail
   refine HD.out.mono ?_;rintro e W2 ⟨rfl,k1,k2⟩;have H2:=hiD (aI k1 (HK.out.2.trans k2));clear k1 k2 HD;go_wp2;exact ⟨⟨t+1,by omega,by congr 1,H2⟩,by simp only [intOf];omega⟩
  ·have hti:¬(t:Int)<L:=by omega
   obtain rfl:t=L:=by omega
   have HE:=hiD HK.out;have hx3:=HK.out.1.at.2.2.2.1;clear HK x1 x3;go_wp2;go_ret;refine ⟨some ⟨b,0,none⟩,t,rfl,nLr _,?_⟩;have e:endO ms a=(runO (atM ms) (List.range t) a).1:=by rw [endO,HM.out]
   rw [e];refine HE.out.1.go.fin ?_ ?_
   ·simp [oneD,HM.out]
   ·intro j hj;have hjt:j<t:=by simpa [oneD,HM.out] using hj
    simp only [oneD,List.getElem_map,List.getElem_range,HM.out];rw [oneT,if_pos hjt]
theorem wrun_nil (A:Option Addr) (L c:Nat) (w:World):Calls Tryz.prog 12 #[.pointer none,.slice A L c,.nilFunc] w fun e W'=>∃A' c',e=.returned (.slice A' 0 c')/\Below w.heap.size w W':=by
 go_enter Tryz.func12,Tryz.ntmps12;go_wp2;go_ret;exact ⟨_,_,rfl,Below.refl _ _⟩
theorem wone_nil (A:Option Addr) (L c:Nat) (w:World):Calls Tryz.prog 17 #[.pointer none,.slice A L c] w fun e W'=>∃A' c',e=.returned (.slice A' 0 c')/\Below w.heap.size w W':=by
 go_enter Tryz.func17,Tryz.ntmps17;go_wp2;go_ret;exact ⟨_,_,rfl,Below.refl _ _⟩
theorem runW:RunW where
 run:=fun A L c l f pk h hT hlim hL hm hA hng hf=>by
  obtain ⟨fid,first,cap,rfl,_⟩:=hf.ex;exact callsIn_wide.1 (wrun_f A L c l fid first cap pk h hT hlim hL hm hA hng hf)
 none_:=fun {F w _ _} A L c l h hT hlim hL hm hA hng=>callsIn_wide.1 (wrun_n A L c l (picksM []) h hT hlim hL hm hA hng (firstF F w))
 one:=fun A L c l h hT hlim hL hm hA hng=>wone_any A L c l h hT hlim hL hm hA hng
 runNil:=fun A L c w _ _=>wrun_nil A L c w
 oneNil:=fun A L c w _ _=>wone_nil A L c w
end Go.Proofs.YtfjmdkhemnmkpaaGreatDoor
namespace Go.Proofs.YtfjmdkhemnmkpaaGreatDoor
open Go.RowKit
theorem AppC.below' {w W:World} {r n0 c0 n1 c1 n:Nat} {A0 A1:Option Addr} (h:AppC w r A0 n0 c0 A1 n1 c1 n) (hb:Below w.heap.size w W):AppC W r A0 n0 c0 A1 n1 c1 n:=(hb.block r h.lt).trans h
theorem WavesRun_any {T:World->Prop} (K:WvK T) (N:WvN K) (hWakes:∀w,T w->Calls Tryz.prog 6 #[] w fun e W'=>e=.returned (.bool true)/\Below w.heap.size w W')
 (A0:Option Addr) (L0 c0:Nat) (l0:List CmdV) (A:Option Addr) (L c:Nat) (l:List CmdV) (Ap:Option Addr) (Lp cp:Nat) (zs:List Int) (w:World) (hT:T w)
 (hl0:L0=l0.length) (hL0:L0<=140737488351232) (hA0:HasC w A0 l0) (hl:L=l.length) (hL:L<=140737488351232) (hA:HasC w A l) (hp:Lp=zs.length) (hLp:Lp<=140737488351232) (hAp:HasZ w Ap zs) (hz:∀z∈zs, -9223372036854775808<=z/\z<=9223372036854775807):
 Calls Tryz.prog 3 #[.slice A0 L0 c0,.slice A L c,.slice Ap Lp cp] w fun e W'=>e=.returned (.bool true)/\Below w.heap.size w W':=by
 have H0:=hiD (aI hl0 (aI hL0 hA0));have HL:=hiD (aI hl (aI hL hA));have HP:=hiD (aI hp (aI hLp (aI hAp hz)));have HT:=hiD hT;have HWK:=hiD hWakes;have hLpi:(Lp:Int)<=140737488351232:=by omega
 clear hl0 hL0 hA0 hl hL hA hp hLp hAp hz hT hWakes;go_enter Tryz.func3,Tryz.ntmps3
 go_wp2_with fail
 refine (GreatC_any A0 L0 c0 l0 H0.out.1 H0.out.2.1 w H0.out.2.2).mono ?_;rintro e V1 ⟨he,hb⟩;have B1:=hiD hb;clear hb
 cases hg0:GreatB l0 with
 |true=>
  rw [hg0] at he;subst he
  go_wp2_with fail
  refine (HWK.out V1 (K.grew HT.out B1.out)).mono ?_;rintro e V2 ⟨rfl,hb2⟩;have B2:=hiD (B1.out.trans (Below.mono hb2 B1.out.size));clear hb2;go_wp2;go_ret;exact ⟨rfl,B2.out⟩
 |false=>
  rw [hg0] at he;subst he
  go_wp2_with fail
  refine (GreatC_any A L c l HL.out.1 HL.out.2.1 V1 (HL.out.2.2.below B1.out)).mono ?_;rintro e V2 ⟨he,hb⟩;have B2:=hiD (B1.out.trans (Below.mono hb B1.out.size));clear hb
  cases hg1:GreatB l with
  |true=>
   rw [hg1] at he;subst he
   go_wp2_with fail
   refine (HWK.out V2 (K.grew HT.out B2.out)).mono ?_;rintro e V3 ⟨rfl,hb2⟩;have B3:=hiD (B2.out.trans (Below.mono hb2 B2.out.size));clear hb2;go_wp2;go_ret;exact ⟨rfl,B3.out⟩
  |false=>
   rw [hg1] at he;subst he
   by_cases h200:200<Lp
   ·have h200i:(200:Int)<Lp:=by omega
    clear h200
    go_wp2_with fail
    refine (HWK.out V2 (K.grew HT.out B2.out)).mono ?_;rintro e V3 ⟨rfl,hb2⟩;have B3:=hiD (B2.out.trans (Below.mono hb2 B2.out.size));clear hb2;go_wp2;go_ret;exact ⟨rfl,B3.out⟩
   ·have h200i:¬(200:Int)<Lp:=by omega
    obtain ⟨hlen0,hng0⟩:=great_noW hg0;obtain ⟨hlen1,hng1⟩:=great_noW hg1;have N0:=hiD (aI hlen0 hng0);have N1:=hiD (aI hlen1 hng1);have hL100:L<=100:=by have:=HL.out.1;omega
    have hLi:(L:Int)<=100:=by omega
    have HF1:=hiD (K.fold A0 L0 c0 l0 V2 (K.grew HT.out B2.out) H0.out.1 (by have:=H0.out.1;omega) (H0.out.2.2.below B2.out) hng0);clear hlen0 hng0 hlen1 hng1 hg0 hg1
    go_wp2_with fail
    refine HF1.out.mono ?_;rintro e V3 ⟨F,R,rfl,hp3,hf3,hb3⟩;have b3:=B2.out.trans (Below.mono hb3 B2.out.size);have B3:=hiD b3;have P3:=hiD (aI hp3 (aI hf3 hb3));have HF2:=hiD (K.fold A0 L0 c0 l0 V3 (K.grew HT.out b3) H0.out.1 (by have:=H0.out.1;have:=N0.out.1;omega) (H0.out.2.2.below b3) N0.out.2);clear hp3 hf3 hb3 b3 HF1
    go_wp2_with fail
    refine HF2.out.mono ?_;rintro e V4 ⟨G,S,rfl,hp4,hf4,hb4⟩;obtain ⟨a0,ha0⟩:∃a,a=oneO (l0.map (·.m)) ⟨[],[],0⟩:=⟨_,rfl⟩
    have hlim0:LimAn 100 a0:=by
     rw [ha0];refine (oneO_lim LimAn.nil _ (by rw [List.length_map];have:=N0.out.1;omega) fun m hm=>?_).more (by rw [List.length_map];have:=N0.out.1;omega);obtain ⟨v,hv,rfl⟩:=List.mem_map.1 hm;obtain ⟨j,hj,rfl⟩:=List.mem_iff_getElem.1 hv;obtain ⟨_,_,_,_,f⟩:=H0.out.2.2 (by rintro rfl;simp at hj);exact ⟨(f j hj).2.cl,(f j hj).2.sq⟩
    have hlim:LimAn 1000 a0:=hlim0.more (by omega);have hsrt:SortedA a0:=by rw [ha0];exact foldA_sorted _
    have P3':=P3.out;rw [<-ha0] at hp4 P3';have hw2:w.heap.size<=V2.heap.size:=B2.out.size;have T4:TwoA K w V4 F G R S a0 a0:=⟨K.keep P3'.1 (Only.of_grew (F:=fun _=>False) hb4) (fun _ _=>id),hp4,fun k hk hg=>by have:=K.lt P3'.1 k hk;have:=hf4 k hg;omega,fun k hk=>nLt hw2 (P3'.2.1 k hk),fun k hk=>nLt hw2 (nLt P3'.2.2.size (hf4 k hk)),B3.out.trans (Below.mono hb4 B3.out.size)⟩;have H4:=hiD (aI T4 (aI hlim hsrt));obtain ⟨ms,hms⟩:∃ms,ms=l.map (·.m):=⟨_,rfl⟩;have hmsl:ms.length=L:=by rw [hms,List.length_map];exact HL.out.1.symm
    have hmc:∀m∈ms,m.cl<4294967296/\m.sq<4294967296:=fun m hm=>by
     rw [hms] at hm;obtain ⟨v,hv,rfl⟩:=List.mem_map.1 hm;obtain ⟨j,hj,rfl⟩:=List.mem_iff_getElem.1 hv;obtain ⟨_,_,_,_,f⟩:=HL.out.2.2 (by rintro rfl;simp at hj);exact ⟨(f j hj).2.cl,(f j hj).2.sq⟩
    have HM:=hiD (aI hms (aI hmsl hmc));have HL0:=hiD hlim0;have HRF:=hiD (refFoldX_any A0 L0 c0 l0 V4 H0.out.1 (by have:=H0.out.1;have:=N0.out.1;omega) (H0.out.2.2.below T4.below));have HA0:=hiD ha0;have hmf:∀(fn:Fn) (first cap:Array Value) (w:World),(Instr.makeFunc fn first cap).run Tryz.prog w=.ok (.func fn first cap) w:=fun _ _ _ _=>rfl
    clear hp4 hf4 hb4 ha0 hlim hlim0 hsrt P3' hw2 T4 P3 HF2 B3 hms hmsl hmc
    go_wp2_with fail
    refine HRF.out.mono ?_;rintro e V5 ⟨v',rfl,hav,hb5⟩;rw [<-HA0.out] at hav;obtain ⟨B0,d0,B1,d1,rfl,hle5,hP5,hE5⟩:=hav;have T5:=H4.out.1.grew hb5;obtain ⟨n0,hn0⟩:∃n,n=a0.ps.length:=⟨_,rfl⟩;obtain ⟨nl,hnl⟩:∃n,n=a0.ss.length:=⟨_,rfl⟩;obtain ⟨n,hnn⟩:∃n,n=a0.n:=⟨_,rfl⟩;rw [<-hn0,<-hnl,<-hnn];have HNN:=hiD (aI hn0 (aI hnl hnn));obtain ⟨V6,hV6⟩:∃V,V=V5.alloc (Obj.cells #[.slice B0 n0 d0,.slice B1 nl d1,.int .u64 (n:Int)] 32):=⟨_,rfl⟩;have hb6:Below V5.heap.size V5 V6:=by rw [hV6];exact (Below.refl _ _).alloc (nLr _) _
    obtain ⟨q9,hq9⟩:∃q,q=V5.heap.size:=⟨_,rfl⟩;have hx9:AppC V6 q9 B0 n0 d0 B1 nl d1 n:=by rw [hV6,hq9];exact wAh V5 _
    have T6:=T5.grew hb6;have H6:=hiD (aI T6 (aI hx9 (aI (show AppV V6 (.agg #[.slice B0 a0.ps.length d0,.slice B1 a0.ss.length d1,.int .u64 (a0.n:Int)]) a0 from ⟨B0,d0,B1,d1,rfl,hle5,hP5.below hb6,hE5.below hb6⟩) hle5)));have HWV:=hiD (refWaves_any A L c l V6 HL.out.1 hL100 (HL.out.2.2.below T6.below) N1.out.2);have HV6:=hiD hV6;have HQ9:=hiD hq9;clear hn0 hnl hnn hP5 hE5 hle5 hb5 hb6 hx9 T5 T6 hV6 hq9 HRF;go_upto_region 5 with (fail)
    rw [<-HV6.out,<-HQ9.out]
    go_wp2_with fail
    refine HWV.out.mono ?_;rintro e V7 ⟨x,rfl,how,hb7⟩;obtain ⟨Aw,cw,rfl,_⟩:=how.form;rw [<-HM.out.1] at how ⊢;have hwl:(wavesI ms).length=L:=by rw [wavesI_len,HM.out.2.1]
    rw [hwl] at how ⊢;have T7:=H6.out.1.grew hb7;have hord:=ord_len (pk:=picksM zs) (ms:=ms);obtain ⟨ord,hor⟩:∃o,o=orderM (picksM zs) ms:=⟨_,rfl⟩;rw [<-hor] at hord;obtain ⟨Told,hTo⟩:∃t,t=toldO (runO (atM ms) (List.range ms.length) a0).2:=⟨_,rfl⟩;obtain ⟨aE,haE⟩:∃t,t=endO ms a0:=⟨_,rfl⟩;have HO:=hiD (aI hor (aI hTo (aI haE hord)));have H7:=hiD (aI T7 (aI how.has (aI (H6.out.2.1.below' hb7) (H6.out.2.2.1.below hb7))));clear how hb7 hwl T7 hord hor hTo haE HWV;go_upto_region 6 with (fail)
    refine wrrun q9 B0 n0 d0 B1 nl d1 n A L c Ap Lp cp aE Told (turnTo ord L) ord _ V7 _ rfl rfl rfl rfl H7.out.2.2.1 (fun w' hb=>?_) (fun w' A1 c1 hb hI=>?_) ⟨Below.refl _ _,fun h=>(by cases h),fun h=>(by cases h),fun h=>(by cases h)⟩ ?_
    ·have hw:=H7.out.1.below.trans (Below.mono (Grew.undraw hb) H7.out.1.below.size);have h1:=refOrder_any A L c l Ap Lp cp zs w' HL.out.1 hL100 (HL.out.2.2.below hw) N1.out.2 HP.out.1 (by omega) (HP.out.2.2.1.belowX hw) HP.out.2.2.2;rw [<-HM.out.1,<-HO.out.1] at h1;refine h1.mono ?_;rintro e W' ⟨x,rfl,ho,hb'⟩;obtain ⟨A1,c1,rfl,_⟩:=ho.form;rw [HO.out.2.2.2,HM.out.2.1] at ho ⊢;exact ⟨A1,c1,rfl,ho.has,hb'⟩
    ·have hbv:=Grew.undraw hb;have hw:=H7.out.1.below.trans (Below.mono hbv H7.out.1.below.size);obtain ⟨B0',d0',B1',d1',ev,hle,hP,hE⟩:=H7.out.2.2.2.below hbv;have ev1:=Value.agg.inj ev;simp only [Array.mk.injEq,List.cons.injEq,Value.slice.injEq,and_true,true_and] at ev1;obtain ⟨⟨rfl,rfl⟩,rfl,rfl⟩:=ev1;have hnd:ord.Nodup:=by rw [HO.out.1];exact (orderM_perm _ ms).nodup_iff.2 List.nodup_range
     have hoi:∀i∈ord,i<L:=fun i hi=>by rw [HO.out.1] at hi;rw [<-HM.out.2.1];exact List.mem_range.1 ((orderM_perm _ ms).mem_iff.1 hi)
     have h1:=refRun_any B0 B1 d0 d1 a0 A L c l A1 L c1 ord w' (HL0.out.more (by omega)) H4.out.2.2 hle hP hE HL.out.1 hL100 (HL.out.2.2.below hw) (by rw [HO.out.2.2.2,HM.out.2.1]) hI hL100 hoi hnd;rw [<-HM.out.1,HO.out.1,orderM_same (picksM zs) ms a0 H4.out.2.2,<-HO.out.1,<-HO.out.2.1,show (runO (atM ms) (List.range ms.length) a0).1=aE from HO.out.2.2.1.symm,<-HNN.out.1,<-HNN.out.2.1,<-HNN.out.2.2] at h1;refine h1.mono ?_;rintro e W' ⟨v',rb,fb,tb,rfl,k1,k2,k3,k4,k5⟩;exact ⟨_,rfl,⟨v',rb,fb,tb,rfl,k1,k2,k3,k4⟩,k5⟩
    intro u V8 hws;obtain ⟨b8',_,hG,hq⟩:=hws;have b8:Below V7.heap.size V7 V8:=Grew.undraw b8';obtain ⟨v8,rb,fb,tb,hu,hav8,hr,hf,ht⟩:=hG rfl;obtain ⟨q11,e11,_,_,hq12⟩:=hq rfl;obtain ⟨D1,f1,D2,f2,ev,hx11⟩:=hq12 rfl;have e12:tupAt (tupAt u 1) 1=.slice (some ⟨rb,0,none⟩) L L:=by rw [hu];rfl
    have e13:tupAt (tupAt u 1) 2=.slice (some ⟨fb,0,none⟩) L L:=by rw [hu];rfl
    have e14:tupAt (tupAt u 1) 3=.slice (some ⟨tb,0,none⟩) L L:=by rw [hu];rfl
    have hv8:v8=.agg #[.slice D1 aE.ps.length f1,.slice D2 aE.ss.length f2,.int .u64 (aE.n:Int)]:=by rw [<-ev,hu];rfl
    subst hv8;have T8:=H7.out.1.grew b8;obtain ⟨t6,ht6⟩:∃t,t=tupAt u 1:=⟨_,rfl⟩;have H8:=hiD (aI T8 (aI (RowsQ.of hr hf ht) (aI (H7.out.2.1.below b8) (aI (H7.out.2.2.1.below' b8) (aI (H7.out.2.2.2.below b8) (aI hx11 hav8))))));simp only [puts,List.foldl_cons,List.foldl_nil,Act.put,List.setIfInBounds_toArray,List.set_cons_succ,List.set_cons_zero,e11,e12,e13,e14];have hpk:=picks_fn (F:=F) (w0:=V8) Ap Lp cp zs HP.out.1 (by omega) (HP.out.2.2.1.out T8.below T8.f) HP.out.2.2.2;have HRUN:=hiD (K.run A L c l _ (picksM zs) T8.a (K.grew HT.out T8.below) H4.out.2.1 HL.out.1 hL100 (HL.out.2.2.out T8.below T8.f) N1.out.2 hpk);clear b8' b8 hG hq hq12 hu hav8 hr hf ht e11 e12 e13 e14 ev hx11 T8 ht6 hpk
    go_wp2_with fail
    refine HRUN.out.mono ?_;rintro e V9 ⟨Ax,xc,rfl,hxc,hdx,F9,hp9,ho9,hs9,hn9⟩;have kF:=N.kinds H8.out.1.a;have T9:=H8.out.1.one hp9 ho9 hs9;rw [<-HM.out.1] at hdx T9;have H9:=hiD (aI T9 (aI hdx (aI (H8.out.2.1.only ho9 kF) (aI (H8.out.2.2.1.only ho9 kF) (aI (H8.out.2.2.2.1.only ho9 kF) (aI (H8.out.2.2.2.2.1.only ho9 kF) (aI (H8.out.2.2.2.2.2.1.only ho9 kF) (H8.out.2.2.2.2.2.2.only ho9 kF))))))));clear hdx hp9 ho9 hs9 hn9 hxc T9 kF HRUN;go_wp2
    go_loopw [16] (fun i wx=>∃q:Nat,q<=L/\i=.int .i64 (q:Int)/\Hid (Below V9.heap.size V9 wx)) (fun i _=>L - (intOf i).toNat)
    case atStart=>exact ⟨0,Nat.zero_le _,rfl,hiD (Below.refl _ _)⟩
    case round=>
     obtain ⟨q,hq,rfl,HS⟩:=hrel
     by_cases hlt:q<L
     ·have hqi:(q:Int)<L:=by omega
      have hqm:q<ms.length:=by have:=HM.out.2.1;omega
      obtain ⟨r1,e1⟩:=runD_at (picksM zs) ms H4.out.2.2 hqm;obtain ⟨x,xo,ex,hxl,fx⟩:=H9.out.2.1 (by intro e;rw [e] at r1;simp at r1);subst ex;have fxq:=fx q r1;rw [e1,<-HO.out.2.1] at fxq;have hqw:q<(wavesI ms).length:=by rw [wavesI_len];exact hqm
      obtain ⟨g,go,eg,hgl,fg⟩:=H9.out.2.2.2.1 (by intro e;rw [e] at hqw;simp at hqw);subst eg;have fgq:=fg q hqw;rw [wavesI_at hqw] at fgq;have hR:=H9.out.2.2.1.below HS.out;obtain ⟨hr0,hr1⟩:=hR.r0 q hlt;have hf0:=hR.f0 q hlt;have ht0:=hR.t0 q hlt;rw [turnTo_all (by rw [HO.out.2.2.2,HM.out.2.1]) (by rw [HO.out.1];exact ord_mem hqm),HO.out.1] at ht0;obtain ⟨r,hrr⟩:∃r,r=Told q:=⟨_,rfl⟩;rw [<-hrr] at fxq hr0 hr1 hf0;obtain ⟨t,htt⟩:∃t,t=(orderM (picksM zs) ms).idxOf q:=⟨_,rfl⟩;rw [<-htt] at fxq ht0;obtain ⟨v,hvv⟩:∃v,v=waveI ms q:=⟨_,rfl⟩;rw [<-hvv] at fxq fgq;have hxc:∀i u,(⟨r.1.1,r.1.2,r.2,v,t⟩:DV).cells[i]?=some u->wr.cell? ⟨x,xo+q*5+i,none⟩=some u:=fun i u hu=>(HS.out.cell (p:=⟨x,xo+q*5+i,none⟩) hxl).trans (fxq i u hu)
      have hg0:=(HS.out.cell (p:=⟨g,go+q,none⟩) hgl).trans fgq;have HX:=hiD (aI (nLl hxl HS.out.size) (aI hxc (aI (aI hr0 hr1) (aI hf0 (aI (aI (nLl hgl HS.out.size) hg0) ht0)))));clear hqm r1 e1 hxl fx fxq hqw hgl fg fgq hR hr0 hr1 hf0 ht0 hrr htt hvv hxc hg0;go_upto_region 13 with (fail)
      refine wrhold x xo xc rb fb g go cw tb L q r.1.1 v t r.1.2 r.2 hlt _ wr _ rfl rfl rfl rfl rfl rfl rfl HX.out.1 HX.out.2.1 (cell_lt HX.out.2.2.1.1) HX.out.2.2.1.1 HX.out.2.2.1.2 (cell_lt HX.out.2.2.2.1) HX.out.2.2.2.1 HX.out.2.2.2.2.1.1 HX.out.2.2.2.2.1.2 (cell_lt HX.out.2.2.2.2.2) HX.out.2.2.2.2.2 ?_;intro w7 hg7;have S7:=hiD (HS.out.trans (Below.mono hg7 HS.out.size));clear hg7 HX;simp only [puts,List.foldl_cons,List.foldl_nil,Act.put,List.setIfInBounds_toArray,List.set_cons_succ,List.set_cons_zero];go_wp2;exact ⟨⟨q+1,by omega,by congr 1,S7⟩,by simp only [intOf];omega⟩
     ·have hqi:¬(q:Int)<L:=by omega
      obtain rfl:q=L:=by omega
      have T10:=H9.out.1.grew HS.out;have H10:=hiD (aI T10 (aI (H9.out.2.2.1.below HS.out) (aI (H9.out.2.2.2.2.1.below' HS.out) (aI (H9.out.2.2.2.2.2.1.below HS.out) (aI (H9.out.2.2.2.2.2.2.1.below' HS.out) (H9.out.2.2.2.2.2.2.2.below HS.out))))));have HNONE:=hiD (N.none_ A q c l T10.b (K.grew HT.out T10.below) H4.out.2.1 HL.out.1 hL100 (HL.out.2.2.out T10.below T10.g) N1.out.2);clear T10 HS hlt
      go_wp2_with fail
      refine HNONE.out.mono ?_;rintro e V11 ⟨Ay,yc,rfl,hyc,hdy,G11,hp11,ho11,hs11,hn11⟩;have kG:=N.kinds H10.out.1.b;have T11:=H10.out.1.two hp11 ho11 hs11;rw [<-HM.out.1] at hdy T11;have hord2:=ord_len (pk:=picksM []) (ms:=ms);obtain ⟨ord2,hor2⟩:∃o,o=orderM (picksM []) ms:=⟨_,rfl⟩;rw [<-hor2] at hord2;have HO2:=hiD (aI hor2 hord2);have H11:=hiD (aI T11 (aI hdy (aI (H10.out.2.1.only ho11 kG) (aI (H10.out.2.2.1.only ho11 kG) (aI (H10.out.2.2.2.1.only ho11 kG) (aI (H10.out.2.2.2.2.1.only ho11 kG) (H10.out.2.2.2.2.2.only ho11 kG)))))));clear hyc hdy hp11 ho11 hs11 hn11 kG T11 hor2 hord2 HNONE;go_upto_region 16 with (fail)
      refine wrnone q9 B0 n0 d0 B1 nl d1 n A q c aE Told (turnTo ord2 q) ord2 _ V11 _ rfl rfl rfl H11.out.2.2.2.1 (fun w' hb=>?_) (fun w' A1 c1 hb hI=>?_) ⟨Below.refl _ _,fun h=>(by cases h),fun h=>(by cases h),fun h=>(by cases h)⟩ ?_
      ·have hw:=H11.out.1.below.trans (Below.mono (Grew.undraw hb) H11.out.1.below.size);have h1:=refOrder_any A q c l none 0 0 [] w' HL.out.1 hL100 (HL.out.2.2.below hw) N1.out.2 rfl (by omega) (fun h=>absurd rfl h) (fun z hz=>by cases hz);rw [<-HM.out.1,<-HO2.out.1] at h1;refine h1.mono ?_;rintro e W' ⟨x,rfl,ho,hb'⟩;obtain ⟨A1,c1,rfl,_⟩:=ho.form;rw [HO2.out.2,HM.out.2.1] at ho ⊢;exact ⟨A1,c1,rfl,ho.has,hb'⟩
      ·have hbv:=Grew.undraw hb;have hw:=H11.out.1.below.trans (Below.mono hbv H11.out.1.below.size);obtain ⟨B0',d0',B1',d1',ev,hle,hP,hE⟩:=H11.out.2.2.2.2.1.below hbv;have ev1:=Value.agg.inj ev;simp only [Array.mk.injEq,List.cons.injEq,Value.slice.injEq,and_true,true_and] at ev1;obtain ⟨⟨rfl,rfl⟩,rfl,rfl⟩:=ev1;have hnd:ord2.Nodup:=by rw [HO2.out.1];exact (orderM_perm _ ms).nodup_iff.2 List.nodup_range
       have hoi:∀i∈ord2,i<q:=fun i hi=>by rw [HO2.out.1] at hi;rw [<-HM.out.2.1];exact List.mem_range.1 ((orderM_perm _ ms).mem_iff.1 hi)
       have h1:=refRun_any B0 B1 d0 d1 a0 A q c l A1 q c1 ord2 w' (HL0.out.more (by omega)) H4.out.2.2 hle hP hE HL.out.1 hL100 (HL.out.2.2.below hw) (by rw [HO2.out.2,HM.out.2.1]) hI hL100 hoi hnd;rw [<-HM.out.1,HO2.out.1,orderM_same (picksM []) ms a0 H4.out.2.2,<-HO2.out.1,<-HO.out.2.1,show (runO (atM ms) (List.range ms.length) a0).1=aE from HO.out.2.2.1.symm,<-HNN.out.1,<-HNN.out.2.1,<-HNN.out.2.2] at h1;refine h1.mono ?_;rintro e W' ⟨v',rb,fb,tb,rfl,k1,k2,k3,k4,k5⟩;exact ⟨_,rfl,⟨v',rb,fb,tb,rfl,k1,k2,k3,k4⟩,k5⟩
      intro u2 V12 hws;obtain ⟨b12',_,hG,hq2⟩:=hws;have b12:Below V11.heap.size V11 V12:=Grew.undraw b12';obtain ⟨v12,rb2,fb2,tb2,hu,_,hr,hf,ht⟩:=hG rfl;obtain ⟨q18,e18,_,_,_⟩:=hq2 rfl;have e19:tupAt (tupAt u2 1) 1=.slice (some ⟨rb2,0,none⟩) q q:=by rw [hu];rfl
      have e20:tupAt (tupAt u2 1) 2=.slice (some ⟨fb2,0,none⟩) q q:=by rw [hu];rfl
      have e21:tupAt (tupAt u2 1) 3=.slice (some ⟨tb2,0,none⟩) q q:=by rw [hu];rfl
      have T12:=H11.out.1.grew b12;have H12:=hiD (aI T12 (aI (H11.out.2.1.below b12) (aI (H11.out.2.2.1.below b12) (aI (RowsQ.of hr hf ht) (aI (H11.out.2.2.2.2.2.1.below' b12) (H11.out.2.2.2.2.2.2.below b12))))));simp only [puts,List.foldl_cons,List.foldl_nil,Act.put,List.setIfInBounds_toArray,List.set_cons_succ,List.set_cons_zero,e18,e19,e20,e21];clear b12' b12 hG hq2 hu hr hf ht e18 e19 e20 e21 T12;go_wp2
      go_loopw [22] (fun i wx=>∃j:Nat,j<=q/\i=.int .i64 (j:Int)/\Hid (Below V12.heap.size V12 wx)) (fun i _=>q - (intOf i).toNat)
      case atStart=>exact ⟨0,Nat.zero_le _,rfl,hiD (Below.refl _ _)⟩
      case round=>
       obtain ⟨j,hj,rfl,HS⟩:=hrel
       by_cases hlt:j<q
       ·have hji:(j:Int)<q:=by omega
        have hjm:j<ms.length:=by have:=HM.out.2.1;omega
        obtain ⟨r1,e1⟩:=runD_at (picksM []) ms H4.out.2.2 hjm;obtain ⟨y,yo,ey,hyl,fy⟩:=H12.out.2.1 (by intro e;rw [e] at r1;simp at r1);subst ey;have fyj:=fy j r1;rw [e1,<-HO.out.2.1] at fyj;have hR:=H12.out.2.2.1.below HS.out;have hR2:=H12.out.2.2.2.1.below HS.out;obtain ⟨hr0,hr1⟩:=hR.r0 j hlt;have ht0:=hR2.t0 j hlt;rw [turnTo_all (by rw [HO2.out.2,HM.out.2.1]) (by rw [HO2.out.1];exact ord_mem hjm),HO2.out.1] at ht0;obtain ⟨r,hrr⟩:∃r,r=Told j:=⟨_,rfl⟩;rw [<-hrr] at fyj hr0 hr1;obtain ⟨t,htt⟩:∃t,t=(orderM (picksM []) ms).idxOf j:=⟨_,rfl⟩;rw [<-htt] at fyj ht0;obtain ⟨v,hvv⟩:∃v,v=waveI ms j:=⟨_,rfl⟩;rw [<-hvv] at fyj;have hyc:∀i u,(⟨r.1.1,r.1.2,r.2,v,t⟩:DV).cells[i]?=some u->wr.cell? ⟨y,yo+j*5+i,none⟩=some u:=fun i u hu=>(HS.out.cell (p:=⟨y,yo+j*5+i,none⟩) hyl).trans (fyj i u hu)
        have HX:=hiD (aI (nLl hyl HS.out.size) (aI hyc (aI (aI hr0 hr1) ht0)));clear hjm r1 e1 hyl fy fyj hR hR2 hr0 hr1 ht0 hrr htt hvv hyc;go_upto_region 20 with (fail)
        refine wrfirst y yo yc rb tb2 q j r.1.1 v t r.1.2 r.2 hlt _ wr _ rfl rfl rfl rfl rfl HX.out.1 HX.out.2.1 (cell_lt HX.out.2.2.1.1) HX.out.2.2.1.1 HX.out.2.2.1.2 (cell_lt HX.out.2.2.2) HX.out.2.2.2 ?_;intro w7 hg7;have S7:=hiD (HS.out.trans (Below.mono hg7 HS.out.size));clear hg7 HX;simp only [puts,List.foldl_cons,List.foldl_nil,Act.put,List.setIfInBounds_toArray,List.set_cons_succ,List.set_cons_zero];go_wp2;exact ⟨⟨j+1,by omega,by congr 1,S7⟩,by simp only [intOf];omega⟩
       ·have hji:¬(j:Int)<q:=by omega
        obtain rfl:j=q:=by omega
        have T13:=H12.out.1.grew HS.out;have hta:=T13.a;have htb:=T13.b;rw [endR_same _ _ H4.out.2.2,<-HO.out.2.2.1] at hta htb
        have hlim:LimAn 300 aE:=by
         have h1:=endR_lim (pk:=picksM zs) HL0.out HM.out.2.2 (by rw [HM.out.2.1];omega);rw [endR_same _ _ H4.out.2.2,<-HO.out.2.2.1] at h1;exact h1.more (by rw [HM.out.2.1];omega)
        have hx11:=H12.out.2.2.2.2.1.below' HS.out;have hav:=H12.out.2.2.2.2.2.below HS.out;have hkeep:∀{F:Nat->Prop} {R:Nat} {w':World},K.Pl F wr R aE->Below wr.heap.size wr w'->K.Pl F w' R aE:=fun h hb=>K.keep h (Only.of_grew (F:=fun _=>False) hb) (fun _ _=>id)
        have hT':∀{w':World},Below wr.heap.size wr w'->T w':=fun hb=>K.grew HT.out (T13.below.trans (Below.mono hb T13.below.size))
        have HZ:=hiD (aI T13.below (aI hx11 (aI (fun w' (hb:Below wr.heap.size wr w')=>N.bytes (hT' hb) (hkeep hta hb) hlim) (aI (fun w' (hb:Below wr.heap.size wr w')=>K.same (hT' hb) (hkeep hta hb) (hkeep htb hb)) (aI (fun w' (hb:Below wr.heap.size wr w')=>N.runNil A j c w' (hT' hb) HL.out.2.1) (aI (fun w' (hb:Below wr.heap.size wr w')=>N.oneNil A j c w' (hT' hb) HL.out.2.1) (aI (fun w' (hb:Below wr.heap.size wr w')=>HWK.out w' (hT' hb)) (aI hav hlim))))))));clear T13 hta htb hlim hx11 hav hkeep hT' HS hlt;go_upto_region 22 with (fail)
        refine wrlast R S q11 D1 aE.ps.length f1 D2 aE.ss.length f2 aE.n A j c Ay yc (bytesA aE) _ wr _ rfl rfl rfl rfl rfl rfl HZ.out.2.1 HZ.out.2.2.1 (fun w' hb=>?_) HZ.out.2.2.2.1 HZ.out.2.2.2.2.1 HZ.out.2.2.2.2.2.1 HZ.out.2.2.2.2.2.2.1 ?_
        ·obtain ⟨B0',d0',B1',d1',ev,hle,hP,hE⟩:=HZ.out.2.2.2.2.2.2.2.1.below hb;have ev1:=Value.agg.inj ev;simp only [Array.mk.injEq,List.cons.injEq,Value.slice.injEq,and_true,true_and] at ev1;obtain ⟨⟨rfl,rfl⟩,rfl,rfl⟩:=ev1;exact refBytesX_any D1 D2 f1 f2 aE w' (HZ.out.2.2.2.2.2.2.2.2.more (by omega)) hP hE
        intro v134 v137 v154 v160 w7 _ _ _ _ hg7;have H7':=hiD (HZ.out.1.trans (Below.mono hg7 HZ.out.1.size));clear hg7;simp only [puts,List.foldl_cons,List.foldl_nil,Act.put,List.setIfInBounds_toArray,List.set_cons_succ,List.set_cons_zero];go_wp2;go_ret;exact ⟨rfl,H7'.out⟩
end Go.Proofs.YtfjmdkhemnmkpaaGreatDoor
