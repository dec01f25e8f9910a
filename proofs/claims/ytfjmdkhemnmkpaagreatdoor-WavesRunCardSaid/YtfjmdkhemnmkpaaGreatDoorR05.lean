/- Parts of the proof: VarU, VarTxt, Concat, MKqR. -/
import Derived.Test.YtfjmdkhemnmkpaaGreatDoorR02
import Derived.Test.YtfjmdkhemnmkpaaGreatDoorProg
import Derived.RangeFuncBox
import Derived.Shelf.Abstract
import Derived.Shelf.RegionOpen
import Derived.WalkKit
import Derived.OwnWalkIn
import Derived.TacticsInMore
import Derived.LoopNIn
import Derived.LoopIn
import Derived.Maps.AppendAt
import Derived.Lib.Hide
import Derived.Deep.RegionHeld3
import Derived.Lib.SliceRun
import Derived.Deep.DeepFit
import Derived.Lib.AppendZerosOnto
import Derived.Test.YtfjmdkhemnmkpaaGreatDoorR04
import Derived.Test.YtfjmdkhemnmkpaaGreatDoorR03
import Derived.WalkMore
set_option maxRecDepth 100000
set_option maxHeartbeats 8000000
namespace Go.Proofs.YtfjmdkhemnmkpaaGreatDoor
open Go.RowKit Go.Shelf
attribute [local go_sem] Oper.semAt_some
theorem form1_in (F:Fence) (n:Nat) (h6:F.fn 80) (hro:F.round=none) (hn:1<=n) (l Bn:Nat) (m:Nat) (hm:m<18446744073709551616) (J Jx:List UInt8->World->Prop)
 (hY:∀pre x W,J pre W->pre.length<(vb m).length->YieldAt F (n - 1) Tryz.prog l #[enc x] W fun e W'=>
  (e=.returned (.bool true)/\J (pre++[x]) W'/\True)\/(e=.returned (.bool false)/\Jx (pre++[x]) W'))
 (W:World) (hBn:W.cell? ⟨Bn,0,none⟩=some (.int .u64 (m:Int))) (h0:J [] W):
 CallsIn F n Tryz.prog 80 #[.func (.yield l) #[] #[],.pointer (some ⟨Bn,0,none⟩)] W fun e W'=>(∃v,e=.returned v)/\
  ((∃ys,ys=vb m/\J ys W')\/(∃pre,pre<+:vb m/\Jx pre W')):=by
 refine callsIn_of_wp Tryz.func80 rfl h6 ?_ hro;simp only [Tryz.ntmps80,List.size_toArray,List.length_cons,List.length_nil,Nat.reduceAdd,Nat.reduceSub,Array.replicate_succ,Array.replicate_zero,List.push_toArray,List.append_toArray,List.nil_append,List.cons_append];gi_wp2
 gi_loopw [3] (fun p wr=>∃(pre:List UInt8) (r:Nat),p=.int .u64 (r:Int)/\r<18446744073709551616/\Hid (vb m=pre++vb r)/\J pre wr)
  (fun p _=>(intOf p).toNat)
 case atStart=>
  exact ⟨[],m,rfl,hm,rfl,h0⟩
 case round=>
  obtain ⟨pre,r,rfl,hr,hx,hJs⟩:=hrel
  by_cases hlt:r<128
  ·have hlt':(r:Int)<128:=by omega
   obtain ⟨fn,tmps,assign,body,hy,hR⟩:=hY pre (UInt8.ofNat r) wr hJs (by rw [hx.out,vb_lt hlt];simp);rw [enc_ofNat (by omega)] at hy;gi_wp2;refine hR.mono ?_;have hx':vb m=pre++[UInt8.ofNat r]:=by rw [hx.out,vb_lt hlt]
   rintro e W3 (⟨rfl,hJ3,_⟩|⟨rfl,hJx3⟩)
   ·gi_wp2;go_end0;exact ⟨⟨_,rfl⟩,.inl ⟨pre++[UInt8.ofNat r],hx'.symm,hJ3⟩⟩
   ·gi_wp2;go_end0;exact ⟨⟨_,rfl⟩,.inr ⟨pre++[UInt8.ofNat r],⟨[],by simp [hx']⟩,hJx3⟩⟩
  ·have hlt':¬(r:Int)<128:=by omega
   obtain ⟨fn,tmps,assign,body,hy,hR⟩:=hY pre (UInt8.ofNat (r%128+128)) wr hJs (by rw [hx.out,vb_ge (by omega)];simp);rw [<-enc_hi r] at hy;gi_wp2;refine hR.mono ?_;rintro e W3 (⟨rfl,hJ3,_⟩|⟨rfl,hJx3⟩)
   ·gi_wp2;have hd:(r:Int)/128=((r/128:Nat):Int):=by omega
    refine ⟨⟨pre++[UInt8.ofNat (r%128+128)],r/128,by rw [hd],by omega,?_,hJ3⟩,by simp only [intOf];omega⟩;show vb m=_;rw [hx.out,vb_ge (n:=r) (by omega)];simp
   ·gi_wp2;refine bodyPost_ret (results_none rfl _ _ _) rfl ?_;exact ⟨⟨_,rfl⟩,.inr ⟨pre++[UInt8.ofNat (r%128+128)],⟨vb (r/128),by rw [hx.out,vb_ge (n:=r) (by omega)];simp⟩,hJx3⟩⟩
theorem form1_stops (F:Fence) (n:Nat) (h6:F.fn 80) (hro:F.round=none) (hn:1<=n) (Bn:Nat) (m:Nat) (hm:m<18446744073709551616) (w:World) (hBn:Bn<w.heap.size)
 (hc:w.cell? ⟨Bn,0,none⟩=some (.int .u64 (m:Int))):
 SeqStopsK F n Tryz.prog 80 #[.pointer (some ⟨Bn,0,none⟩)] (fun x:UInt8=>#[enc x]) (fun _ _=>True) (fun ys=>ys=vb m) (fun pre=>pre<+:vb m) (vb m).length w:=fun l J Jx W hW _ _ hY h0=>
 form1_in F n h6 hro hn l Bn m hm J Jx hY W ((hW.cell (p:=⟨Bn,0,none⟩) hBn).trans hc) h0
theorem form_in (F:Fence) (n:Nat) (h5:F.fn 52) (hro:F.round=none) (m:Int) (w:World):
 CallsIn F n Tryz.prog 52 #[.int .u64 m] w fun e w'=>e=.returned (.func (.func 80) #[] #[.pointer (some ⟨w.heap.size,0,none⟩)])/\w'=w.alloc (.cells #[.int .u64 m] 30):=by
 refine callsIn_of_wp Tryz.func52 rfl h5 ?_ hro;simp only [Tryz.ntmps52,List.size_toArray,List.length_cons,List.length_nil,Nat.reduceAdd,Nat.reduceSub,Array.replicate_succ,Array.replicate_zero,List.push_toArray,List.append_toArray,List.nil_append,List.cons_append];gi_wp2;go_ret;exact ⟨rfl,rfl⟩
theorem Uint_in (F:Fence) (n:Nat) (h3:F.fn 31) (h4:F.fn 52) (h5:F.fn 80) (hro:F.round=none) (hn:3<=n) (A:Option Addr) (bs:List UInt8) (c m:Nat) (hm:m<18446744073709551616) (hlen:bs.length<=1000000) (w:World) (hA:HasA w w.heap.size A bs):
 CallsIn F n Tryz.prog 31 #[.slice A bs.length c,.int .u64 (m:Int)] w fun e W'=>∃g c',e=.returned (.slice (some ⟨g,0,none⟩) (bs++vb m).length c')/\W'.ownsRow w.heap.size 5 1 (.slice (some ⟨g,0,none⟩) (bs++vb m).length c') (bs++vb m).length ((bs++vb m).map enc)/\Below w.heap.size w W':=by
 have h1:1<=n:=by omega
 have hlen':(bs.length:Int)<=1000000:=by omega
 obtain ⟨i0,hi,hz0,hz1,hz2⟩:=info_parts info5;refine callsIn_of_wp_marks Tryz.func31 rfl h3 ?_ hro;simp only [Tryz.ntmps31,List.size_toArray,List.length_cons,List.length_nil,Nat.reduceAdd,Nat.reduceSub,Array.replicate_succ,Array.replicate_zero,List.push_toArray,List.append_toArray,List.nil_append,List.cons_append]
 gi_wp2_with (first
  |(gi_at_make;refine wpListIn_make_bytes rfl (.tmp 8) (.tmp 11) 48 rfl w.heap.size 5 i0 Tryz.underlying48 hi hz0 hz1 hz2 bs.length (bs.length+10) _ rfl rfl (by omega) (by omega) (by omega) (nLr _) ?_;intro w1 hown1 hg1;have hB1:Below w.heap.size w w1:=(Below.refl _ _).grown hg1 (nLr _) (fun k e=>by cases e))
  |((with_reducible refine wpListIn_copy_bytes rfl (.tmp 13) (.tmp 14) 48 rfl w.heap.size 5 Tryz.underlying48 size5 w.heap.size bs.length (bs.length+10) (List.replicate bs.length 0) w.heap.size A c bs rfl rfl rfl (hown1.alloc _) ((hA.below hB1).alloc hB1.size _) ?_);intro w2 hown2 hg2)
  |(gi_at_call 52;refine (form_in F (n - 1) h4 hro _ _).mono ?_;rintro e w' ⟨rfl,rfl⟩))
 have hlt1:w.heap.size<w1.heap.size:=(hown1.lt w.heap.size rfl).2;have bO:Boxed w2 w1.heap.size 48 (.slice (some ⟨w.heap.size,0,none⟩) bs.length (bs.length+10)):=(Boxed.new w1 48 _).kept hg2 (by simp;omega);have bN:=Boxed.new w2 30 (.int .u64 (m:Int));have hB2:Below w.heap.size w w2:=(hB1.alloc hB1.size _).grown hg2 (by simp;omega) (fun k e=>by cases e;exact nLr _);have hB3:Below w.heap.size w (w2.alloc (.cells #[.int .u64 (m:Int)] 30)):=hB2.alloc hB2.size _;have hs12:w1.heap.size<w2.heap.size:=bO.lt;have hv10:=vb_len10 hm;have H3:=hiD hB3;clear hg1 hg2 hown1
 refine wpIn_rangeFunc_ownG hro h1 (gf:=80) (lb:=#[.pointer (some ⟨w2.heap.size,0,none⟩)]) rfl h5 (enters_of Tryz.func80 (by kernel_rfl) rfl)
  (form1_stops F (n - 1) h5 hro (by omega) w2.heap.size m hm _ (by simp) bN.cell) (fun _ _=>trivial) (fun _ _ _ _ _ _ _ _=>trivial) (Below.refl _ _) (fun _=>rfl)
  (fun pre W=>(∃v,Boxed W w1.heap.size 48 v/\W.ownsRow w.heap.size 5 1 v (bs++pre).length ((bs++pre).map enc)/\True)/\Below w.heap.size w W)
  (fun _ _ _=>False)
  (OwnFrom.and (Own.from (holdsRow_own w.heap.size w1.heap.size 48 5 1 (fun pre=>(bs++pre).length) (fun pre=>(bs++pre).map enc) (fun _ _=>True)) _) (ownFrom_below (nLr _) (by simp;omega)))
  (fun _ _ _ _ _ hs _ _=>hs)
  ⟨⟨_,bO.alloc _,by simpa using hown2.alloc _,trivial⟩,hB3⟩
  (fun x=>{tmps:=#[.slice A bs.length c,.int .u64 (m:Int),undef,undef,.slice none 0 0,.pointer (some ⟨w1.heap.size,0,none⟩),.int .u8 (x.toNat:Int),.slice A bs.length c,.int .i64 (bs.length:Int),.slice A bs.length c,.int .i64 (bs.length:Int),.int .i64 ((bs.length:Int)+10),.slice (some ⟨w.heap.size,0,none⟩) bs.length (bs.length+10),.slice (some ⟨w.heap.size,0,none⟩) bs.length (bs.length+10),.slice A bs.length c,.int .i64 (bs.length:Int),.int .u64 (m:Int),.func (.func 80) #[] #[.pointer (some ⟨w2.heap.size,0,none⟩)],.int .u8 (x.toNat:Int),undef,undef,undef,undef,undef],defers:=[]}) ?assign ?body ?done ?stop
 case assign=>
  intro l x W K hK;gi_wp2;exact hK
 case body=>
  rintro l pre x W ⟨⟨v,hv,hrow,_⟩,hB⟩ hlt;have hc:=hv.cell;have hle:(bs++pre).length+1<=2000000:=by simp;omega
  gi_wp2_with (gi_at_builtin;refine wpListIn_append_own _ rfl _ _ 48 rfl w.heap.size 5 i0 (.int .u8 0) 1 1 Tryz.underlying48 hi hz0 hz1 hz2 rfl (by decide) _ _ _ rfl (hrow.alloc _) ⟨W.heap.size,0,none⟩ 1 1 [.int .u8 (x.toNat:Int)] rfl rfl (cell_one_new _ _ _) (by simp [Value.oneCell']) (by simp only [maxLen];omega) (by omega) (by have:=hB.size;simp;omega) ?_;intro v' w3 hown' hgrow _;obtain ⟨g',cap',rfl⟩:=ownsRow_succ hown';obtain ⟨hv1,hv2,hr2,hk2,hb2⟩:=hv.appended (by decide) hrow hB.size (by omega) hown' hgrow;have hc1:=hv1.cell;have hf1:=hv1.frozen)
  simp only [List.length_append] at hv2 hr2 hk2 hb2;have e1:(bs++(pre++[x])).length=bs.length+pre.length+1:=by simp;omega
  exact ⟨hk2.from _,trivial,⟨_,hv2,by rw [e1];simpa [enc] using hr2,trivial⟩,hB.trans hb2⟩
 case done=>
  rintro D ys W hD rfl ⟨⟨v,hv,hrow,_⟩,hB⟩ hK;have hc:=hv.cell;gi_wp2;refine ⟨by simp,.inl ⟨_,_,rfl,run_takeDeferred hK,?_⟩⟩;have hpos:0<(bs++vb m).length:=by have:=List.length_pos_iff.2 (vb_ne m);simp only [List.length_append];omega
  obtain ⟨g,cap,rfl,_⟩:=hrow.form hpos;exact ⟨_,results_tmp rfl _ _ _,g,cap,rfl,ownsRow_putObj hrow _ hK rfl,hB.trans (belowK_b (w:=w) (nLr _) W D _ _ (by simp at hD;omega) hK rfl rfl)⟩
 case stop=>
  rintro D c pre W _ _ h _;exact h.elim
theorem Uint_any (A:Option Addr) (bs:List UInt8) (L c m:Nat) (hL:L=bs.length) (hm:m<18446744073709551616) (hlen:bs.length<=1000000) (w:World) (hA:HasA w w.heap.size A bs):
 Calls Tryz.prog 31 #[.slice A L c,.int .u64 (m:Int)] w (Gives w (bs++vb m)):=by
 subst hL;exact ((callsIn_wide (n:=3)).1 (Uint_in Fence.wide 3 trivial trivial trivial rfl (by omega) A bs c m hm hlen w hA)).mono fun _ _ ⟨g,c',h⟩=>⟨g,_,c',h⟩
end Go.Proofs.YtfjmdkhemnmkpaaGreatDoor
namespace Go.Proofs.YtfjmdkhemnmkpaaGreatDoor
open Go.RowKit
theorem Text_any (A:Option Addr) (bs:List UInt8) (L c:Nat) (hL:L=bs.length) (s:ByteArray) (hs:s.size<=1000000) (hlen:bs.length<=1000000) (w:World) (hA:HasA w w.heap.size A bs):
 Calls Tryz.prog 55 #[.slice A L c,.string s] w (Gives w (bs++vb s.size++s.data.toList)):=by
 obtain ⟨i0,hi,hz0,hz1,hz2⟩:=info_parts info5;have hs':(s.size:Int)<=1000000:=by omega
 have hv:=vb_len10 (n:=s.size) (by omega);have hp:0<(vb s.size).length:=List.length_pos_iff.2 (vb_ne _);have HL:=hiD hL;clear hL;go_enter Tryz.func55,Tryz.ntmps55
 go_wp2_with fail
 refine (Uint_any A bs L c s.size HL.out (by omega) hlen w hA).mono ?_;rintro e W1 ⟨g,L1,c1,rfl,hown1,hb1⟩;have hl1:L1<=1000010/\0<L1:=by have:=own_len hown1;simp at this;omega
 have hl2:=hl1.1;have hl3:=hl1.2;have H1:=hiD hown1;have H3:=hiD hb1;clear hown1 hb1 hl1
 go_wp2_with (at_builtin;refine wpList_append_str rfl (.tmp 9) (.tmp 10) 48 9 rfl w.heap.size 5 i0 Tryz.underlying48 Tryz.underlying9 hi hz0 hz1 hz2 _ L1 _ rfl H1.out s rfl (by omega) H3.out.size ?_;intro v' W2 hown2 hg2)
 go_ret;obtain ⟨g2,c2,rfl,_⟩:=hown2.form (by omega);exact ⟨g2,_,c2,rfl,hown2,H3.out.grown hg2 H3.out.size (fun k e=>by cases e;exact (H1.out.lt g rfl).1)⟩
theorem Grow_nilB (n:Nat) (h1:1<=n) (h2:n<=20000000) (w:World):
 Calls Tryz.prog 83 #[.slice none 0 0,.int .i64 (n:Int)] w fun e w'=>∃g c,e=.returned (.slice (some ⟨g,0,none⟩) 0 c)/\w'.ownsRow w.heap.size 5 1 (.slice (some ⟨g,0,none⟩) 0 c) 0 (([]:List UInt8).map enc)/\Below w.heap.size w w':=by
 obtain ⟨i0,hi,hz0,hz1,hz2⟩:=info_parts info5
 have hold:(Builtin.firstCells i0.size 0 (.slice none 0 0)).run Tryz.prog w.drew=.ok ([]:List Value).toArray w.drew:=by
  rw [hz1];simp [Builtin.firstCells]
 have hrz:=fun ty=>Lib.run_append_grow_zeros (P:=Tryz.prog) w 48 3 ty 5 i0 (.int .u8 0) .i64 .i64 Tryz.underlying48 Tryz.underlying3 hi hz0 none 0 0 [] hold n (by omega) (by omega) (by omega) (by omega) (by rw [hz2];omega) (by rw [hz2,Builtin.nextslicecap,if_pos (by omega)];omega)
 rw [Nat.zero_add] at hrz;have hGn:n<=grownCap w n 0 5:=grownCap_ge w _ _ _;have hGm:grownCap w n 0 5<=maxLen:=grownCap_le_maxLen w n 0 5 (by unfold maxLen;omega);obtain ⟨G,hG⟩:∃G,G=grownCap w n 0 5:=⟨_,rfl⟩;rw [<-hG] at hrz hGn hGm;have hm:maxLen=9223372036854775807:=rfl;rw [hm] at hGm;have hGi:(G:Int)<=9223372036854775807:=by omega
 have hGn':(n:Int)<=G:=by omega
 have hn1:(1:Int)<=n:=by omega
 have hn2:(n:Int)<=20000000:=by omega
 clear hG hold;go_enter Tryz.func83,Tryz.ntmps83
 go_wp2_with (at_builtin;refine Lib.wpList_append_run _ rfl _ _ _ _ rfl _ _ rfl rfl _ _ (hrz _) ?_)
 go_ret;refine ⟨w.heap.size,G,rfl,⟨rfl,.inr ⟨w.heap.size,G,_,rfl,nLr _,wAh w _,Nat.zero_le _,by rw [hm];omega,?_,by simp⟩⟩,((Below.refl _ _).alloc (nLr _) _).drew⟩;simp [Builtin.zeroCells];omega
theorem flat_take_succ (Xs:List (List UInt8)) (k:Nat) (h:k<Xs.length):(Xs.take (k+1)).flatten=(Xs.take k).flatten++Xs[k]:=by
 rw [List.take_succ_eq_append_getElem h,List.flatten_append,List.flatten_cons,List.flatten_nil,List.append_nil]
theorem flat_take_le (Xs:List (List UInt8)) (k:Nat):(Xs.take k).flatten.length<=Xs.flatten.length:=by
 have h:=congrArg (fun l=>(List.flatten l).length) (List.take_append_drop k Xs);simp only [List.flatten_append,List.length_append] at h;omega
def CK (w:World) (Xs:List (List UInt8)) (k:Nat) (v:Value) (W:World):Prop:=
 W.ownsRow w.heap.size 5 1 v (Xs.take k).flatten.length ((Xs.take k).flatten.map enc)/\Below w.heap.size w W
theorem Concat_anyB (p N c:Nat) (Xs:List (List UInt8)) (hN:N=Xs.length) (hN2:N<=100) (hc:N<=c) (h1:1<=Xs.flatten.length) (h2:Xs.flatten.length<=20000000) (w:World) (hp:p<w.heap.size)
 (hcell:∀i (h:i<Xs.length),∃A L c,w.cell? ⟨p,i,none⟩=some (.slice A L c)/\L=Xs[i].length/\HasA w w.heap.size A Xs[i]):
 Calls Tryz.prog 56 #[.slice (some ⟨p,0,none⟩) N c] w fun e w'=>∃g L c,e=.returned (.slice (some ⟨g,0,none⟩) L c)/\w'.ownsRow w.heap.size 5 1 (.slice (some ⟨g,0,none⟩) L c) L (Xs.flatten.map enc)/\Below w.heap.size w w':=by
 obtain ⟨i0,hi,hz0,hz1,hz2⟩:=info_parts info5;have HN:=hiD hN;have HC:=hiD hcell;have H1:=hiD h1;have H2:=hiD h2;have hNi:(N:Int)<=100:=by omega
 have hci:(N:Int)<=c:=by omega
 clear hN hcell h1 h2;go_enter Tryz.func56,Tryz.ntmps56;go_wp2
 go_loopw [3,11] (fun s i wr=>∃k m:Nat,k<=N/\i=.int .i64 k/\s=.int .i64 m/\Hid (m=(Xs.take k).flatten.length)/\Hid (w=wr)) (fun _ i _=>N - (intOf i).toNat)
 case atStart=>
  exact ⟨0,0,Nat.zero_le _,rfl,rfl,by simp [Hid],rfl⟩
 case round=>
  obtain ⟨k,m,hk,rfl,rfl,hm,hw⟩:=hrel;obtain rfl:=hw.out
  by_cases hlt:k<N
  ·have hki:(k:Int)<N:=by omega
   have hkx:k<Xs.length:=by rw [<-HN.out];exact hlt
   obtain ⟨A,L,cc,hx,hL, -⟩:=HC.out k hkx;have hs:=flat_take_succ Xs k hkx;have hs':m+L=(Xs.take (k+1)).flatten.length:=by rw [hs,List.length_append,<-hL,hm.out]
   have hle:m+L<=20000000:=by have:=flat_take_le Xs (k+1);have:=H2.out;omega
   have HS:=hiD hs';clear hs hs' hL;have hlei:(m:Int)+L<=20000000:=by omega
   go_wp2;refine ⟨⟨k+1,m+L,by omega,by congr 1,by congr 1,HS.out,trivial⟩,by simp only [intOf];omega⟩
  ·obtain rfl:k=N:=by omega
   have hT:m=Xs.flatten.length:=by rw [hm.out,List.take_of_length_le (by rw [HN.out];exact nLr _)]
   have HT:=hiD hT;have hm1:1<=m:=by rw [hT];exact H1.out
   have hm2:m<=20000000:=by rw [hT];exact H2.out
   clear hT
   go_wp2_with fail
   refine (Grow_nilB m hm1 hm2 w).mono ?_;rintro e W1 ⟨g,cg,rfl,hown,hB⟩;have HO:=hiD hown;have B0:=hiD hB;clear hown hB;go_wp2
   go_loopw [6,27] (fun v i wr=>∃j:Nat,j<=k/\i=.int .i64 j/\Hid (CK w Xs j v wr)) (fun _ i _=>k - (intOf i).toNat)
   case atStart=>
    exact ⟨0,Nat.zero_le _,rfl,HO.out,B0.out⟩
   case round=>
    obtain ⟨j,hj,rfl,hck⟩:=hrel
    by_cases hlt2:j<k
    ·have hji:(j:Int)<k:=by omega
     have hjx:j<Xs.length:=by rw [<-HN.out];exact hlt2
     obtain ⟨A,L,cc,hx,hL,hA⟩:=HC.out j hjx;have hx':wr.cell? ⟨p,j,none⟩=some (.slice A L cc):=(hck.out.2.cell (p:=⟨p,j,none⟩) hp).trans hx;have HA:=hiD (hA.below hck.out.2);have HL:=hiD hL
     have hle:(Xs.take j).flatten.length+L<=20000000:=by
      have h:=flat_take_le Xs (j+1);rw [flat_take_succ Xs j hjx,List.length_append,<-hL] at h;have:=H2.out;omega
     have HLE:=hiD hle;clear hx hL hA hle
     go_wp2_with (at_builtin;refine wpList_append_has rfl (.tmp 31) (.tmp 32) 48 rfl w.heap.size 5 i0 Tryz.underlying48 hi hz0 hz1 hz2 _ (Xs.take j).flatten.length (Xs.take j).flatten rfl hck.out.1 _ _ L cc Xs[j] rfl HL.out HA.out (by have:=HLE.out;omega) hck.out.2.size ?_;intro v' W2 hown2 hg2)
     refine ⟨⟨j+1,by omega,by congr 1,?_,hck.out.2.grown hg2 hck.out.2.size (fun q e=>(hck.out.1.lt q e).1)⟩,by simp only [intOf];omega⟩;rw [flat_take_succ Xs j hjx,List.length_append,<-HL.out];exact hown2
    ·obtain rfl:j=k:=by omega
     have hall:Xs.take j=Xs:=List.take_of_length_le (by rw [HN.out];exact nLr _);have hck':=hck.out;rw [CK,hall] at hck';obtain ⟨g,cap,rfl, -⟩:=hck'.1.form H1.out;have HCK:=hiD hck';clear hck';go_wp2;go_ret;exact ⟨g,_,cap,rfl,HCK.out.1,HCK.out.2⟩
end Go.Proofs.YtfjmdkhemnmkpaaGreatDoor
namespace Go.Proofs.YtfjmdkhemnmkpaaGreatDoor
open Go.Maps Go.RowKit Go.Shelf Go.Sort
attribute [local go_sem] Oper.semAt_some
def keysV (g:Nat):Value:=.func (.func 106) #[] #[.pointer (some ⟨g,0,none⟩)]
theorem keys_any (p:Option Nat) (w:World):Calls Tryz.prog 85 #[.map p] w fun e W'=>e=.returned (keysV w.heap.size)/\W'=w.alloc (.cells #[.map p] 118):=
 (callsIn_wide (n:=5)).1 (lay_maps_Keys_85 p w)
theorem sorted_any {w:World} {p:Option Nat} {l:List PV} (h:MapO w p l) (hs:SortedP l) (hl:l.length<=1000000):
 Calls Tryz.prog 84 #[keysV w.heap.size] (w.alloc (.cells #[.map p] 118)) fun e W'=>∃v,e=.returned v/\OwnS w.heap.size W' v (l.map (·.1))/\Below w.heap.size w W':=by
 have h0:Below w.heap.size w (w.alloc (.cells #[.map p] 118)):=(Below.refl _ w).alloc (nLr _) _
 cases p with
 |none=>
  obtain rfl:l=[]:=h;have hk:=lay_slices_Sorted_keys_nil_84_85 w;refine ((callsIn_wide (n:=5)).1 hk).mono ?_;rintro e W' ⟨v,ss,rfl,rfl,_,hv,hb⟩;exact ⟨v,rfl,by rw [hv.2 rfl];exact OwnS.nil _ _,h0.trans (Below.mono hb h0.size)⟩
 |some b=>
  have hk:=lay_slices_Sorted_keys_84_85 b l.length (mapD l) _ w (show w.ownsMap _ _ _ b _ _ from h) (by rw [mapD_size];simp only [maxLen];omega) (by rw [mapD_size];omega);refine ((callsIn_wide (n:=5)).1 hk).mono ?_;rintro e W' ⟨v,ss,rfl,hp,hrow,_,hb⟩
  have hlen:ss.length=(l.map (·.1)).length:=by
   rw [hp.length_eq,mapD_keys,List.length_map,List.length_map]
  have hcells:=sorted_keys hs hp;refine ⟨v,rfl,?_,h0.trans (Below.mono hb h0.size)⟩;rw [hlen] at hrow
  have hrow2:OwnS (w.alloc (.cells #[.map (some b)] 118)).heap.size W' v (l.map (·.1)):=by
   unfold OwnS
   have e1:cellsS (l.map (·.1))=(ss.mergeSort fun x y=>decide (x<=y)).map encStr:=by
    rw [show (fun x y=>decide (x<=y))=Go.leB from rfl,hcells,cellsS,List.map_map]
    rfl
   rw [e1];exact hrow
  exact hrow2.mono h0.size
def pk (l:List PV) (i:Nat):ByteArray:=(l[i]?.getD (⟨#[]⟩,⟨#[]⟩)).1
def pv (l:List PV) (i:Nat):ByteArray:=(l[i]?.getD (⟨#[]⟩,⟨#[]⟩)).2
theorem pk_at {l:List PV} {i:Nat} (h:i<l.length):pk l i=l[i].1:=by simp [pk,h]
theorem pv_at {l:List PV} {i:Nat} (h:i<l.length):pv l i=l[i].2:=by simp [pv,h]
def pairV (l:List PV) (x:Nat × Value):Array Value:=#[.string (pk l x.1),.string (pv l x.1)]
def KeysW (l:List PV) (v:Value) (W:World):Prop:=OwnS 0 W v (l.map (·.1))
theorem look_at {l:List PV} (hs:SortedP l) {j:Nat} (hj:j<l.length):lookP l l[j].1=some l[j].2:=by
 have h1:=lookP_of_mem (l:=l) (k:=l[j].1) (v:=l[j].2) (List.getElem_mem hj)
 cases hc:lookP l l[j].1 with
 |none=>rw [hc] at h1;cases h1
 |some u=>
  obtain ⟨i,hi,e1⟩:=List.mem_iff_getElem.1 (lookP_mem hc)
  rcases Nat.lt_trichotomy i j with h|h|h
  ·have:=List.pairwise_iff_getElem.1 hs i j hi hj h;rw [e1,ltB_irr] at this
   cases this
  ·subst h;rw [e1]
  ·have:=List.pairwise_iff_getElem.1 hs j i hj hi h;rw [e1,ltB_irr] at this
   cases this
theorem run_fdHeld (w:World) (t:ByteArray):(Instr.field 120 (heldV t) 0).run Tryz.prog w=.ok (.string t) w:=by
 first
  |(simp [go_sem,Instr.field];done)
  |(simp [Instr.field,go_sem];rfl)
  |kernel_rfl
theorem order_seq (n:Nat) (hn:1<=n) (w0:World) (a:Value) (p:Option Nat) (l:List PV) (h:MapO w0 p l) (hall:∀W,Below w0.heap.size w0 W->Calls Tryz.prog 60 #[a] W fun e W'=>e=.returned (.map p)/\W'=W) (hs:SortedP l) (hl:l.length<=1000000) (hkz:∀q∈l,q.1.size<=1000000) (B:Nat) (J:Nat->World->Prop)
 (hJb:∀i W,J i W->Below w0.heap.size w0 W) (hJ0:∀W W',J 0 W->Below W.heap.size W W'->J 0 W'):
 TiedSeq Fence.wide n Tryz.prog 58 #[a] #[] (pairV l) B
  (J 0) (J l.length) (fun x W=>J x.1 W/\KeysW l x.2 W/\x.1<l.length) (fun x W=>J (x.1+1) W/\KeysW l x.2 W) (fun _ _=>False) (fun _ _=>False):=by
 intro y G Gx hG hGx hY W h0 hGW;refine callsIn_of_wp Tryz.func58 rfl trivial ?_ rfl;simp only [Tryz.ntmps58,List.size_toArray,List.length_cons,List.length_nil,Nat.reduceAdd,Nat.reduceSub,Array.replicate_succ,Array.replicate_zero,List.push_toArray,List.append_toArray,List.nil_append,List.cons_append];have HY:=hiD hY;have H0:=hiD h0;have HG:=hiD hG;have HGW:=hiD hGW;have HST:=hiD h;have HJB:=hiD hJb;have HJ0:=hiD hJ0;have HSL:=hiD (aI hs (aI hl hkz));have HA:=hiD (hall W (hJb 0 W h0));have HK:=hiD (keys_any p W);have HSO:=hiD (sorted_any (h.below (hJb 0 W h0)) hs hl);clear hY h0 hG hGx hGW h hall hJb hJ0 hs hl hkz
 gi_wp2_with fail
 refine ⟨trivial,?_⟩;refine (callsIn_wide.2 HA.out).mono ?_;rintro e W1 ⟨rfl,rfl⟩
 gi_wp2_with fail
 refine ⟨trivial,?_⟩;refine (callsIn_wide.2 HK.out).mono ?_;rintro e W2 ⟨rfl,rfl⟩
 gi_wp2_with fail
 refine ⟨trivial,?_⟩;refine (callsIn_wide.2 HSO.out).mono ?_;rintro e W3 ⟨v,rfl,ho,hb3⟩;obtain ⟨A3,c3,rfl,hc3⟩:=ho.form;obtain ⟨N,hN⟩:∃N,N=(l.map (·.1)).length:=⟨_,rfl⟩;have hNl:N=l.length:=by rw [hN,List.length_map]
 rw [<-hN] at hc3 ⊢;have HO:=hiD (show KeysW l (.slice A3 N c3) W3 by rw [hN];exact ho.mono (Nat.zero_le _));have HJ3:=hiD (HJ0.out _ _ H0.out hb3);have HG3:=hiD (HG.out _ _ HGW.out (KeepsFrom.of_grownBy (grownBy_of_below (r:=none) hb3) (fun j e=>by cases e)));have HNL:=hiD (aI hNl hc3);have hNi:(N:Int)<=1000000:=by have:=HSL.out.2.1;omega
 clear ho hb3 hN hNl hc3 HA HK HSO H0 HGW;gi_wp2
 gi_loopw [13] (fun i wr=>∃j:Nat,i=.int .i64 (j:Int)/\j<=N/\Hid (J j wr)/\Hid (KeysW l (.slice A3 N c3) wr)/\Hid (G wr)) (fun i _=>N - (intOf i).toNat)
 case atStart=>exact ⟨0,rfl,Nat.zero_le _,HJ3.out,HO.out,HG3.out⟩
 case round=>
  obtain ⟨j,rfl,hj,hJ,hK,hg⟩:=hrel
  by_cases hlt:j<N
  ·have hji:(j:Int)<(N:Int):=by omega
   have hjl:j<l.length:=by have:=HNL.out.1;omega
   have hOj:=hK.out;obtain ⟨kb,ko,e1,l1,f1⟩:=OwnS.has hOj (by intro e;rw [List.map_eq_nil_iff] at e;subst e;simp at hjl);subst e1;have g1:=f1 j (by simpa using hjl);rw [List.getElem_map] at g1;obtain ⟨k,hk⟩:∃k,k=l[j].1:=⟨_,rfl⟩;obtain ⟨v,hv⟩:∃v,v=l[j].2:=⟨_,rfl⟩;rw [<-hk] at g1
   have hget:=(HST.out.below (HJB.out j wr hJ.out)).get (k:=k) (by
    have:=HSL.out.2.2 l[j] (List.getElem_mem hjl);rw [hk];simp only [maxLen];omega)
   rw [hk,look_at HSL.out.1 hjl,Option.getD_some,<-hk,<-hv] at hget;obtain ⟨fn,tmps,assign,body,hy,hRR⟩:=HY.out (j,.slice (some ⟨kb,ko,none⟩) N c3) wr ⟨hJ.out,hK.out,hjl⟩ hg.out
   have hpv:pairV l (j,.slice (some ⟨kb,ko,none⟩) N c3)=#[.string k,.string v]:=by
    simp only [pairV,pk_at hjl,pv_at hjl,<-hk,<-hv]
   rw [hpv] at hy;have hfd:=run_fdHeld wr v;clear hOj f1 l1 hk hv hpv;gi_wp2;refine hRR.mono ?_;rintro e W4 (⟨rfl,hIo,hG4⟩|⟨rfl,cc,hf,_⟩)
   ·have HIo:=hiD hIo;have HG4:=hiD hG4;clear hIo hG4 hy;gi_wp2;refine ⟨⟨j+1,by congr 1,by omega,HIo.out.1,HIo.out.2,HG4.out⟩,by simp only [intOf];omega⟩
   ·exact hf.elim
  ·have hji:¬(j:Int)<(N:Int):=by omega
   obtain rfl:j=N:=by omega
   gi_wp2;go_end0;exact ⟨⟨_,rfl⟩,by rw [<-HNL.out.1];exact hJ.out,hg.out⟩
end Go.Proofs.YtfjmdkhemnmkpaaGreatDoor
namespace Go.Proofs.YtfjmdkhemnmkpaaGreatDoor
open Go.RowKit
noncomputable def opsRa:List Oper:=opsOf Tryz.f33 5
theorem put_regionRa (l n:Nat) (hn:1<=n) (B g:Nat) (v:Value) (x:ByteArray) (xs:List UInt8) (hx:xs.length<=100000000) (hy:x.size<=1000000) (a:Act) (w:World) (Q:Exit->Act->World->Prop) (hN:a.tmps.size=28)
 (h0:a.tmps.getD 6 undef=.string x) (h1:a.tmps.getD 5 undef=.pointer (some ⟨g,0,none⟩)) (hg:w.heap[g]?=some (.cells #[v] 48 (0,0))) (hown:w.ownsRow B 5 1 v xs.length (xs.map enc)) (hB:B<=w.heap.size)
 (hQ:∀(u v':Value) (W1 W2:World),Grew w W1->W2.ownsRow B 5 1 v' (xs.length+(txt x).length) ((xs++txt x).map enc)->W1.grownBy W2 v.ownBlock->W2.heap[g]?=some (.cells #[v] 48 (0,0))->Q .normal (puts [(16,v),(17,.string x),(18,u),(19,v')] a) (W2.setCell ⟨g,0,none⟩ v')):
 (Code.region 5 opsRa.toArray true).wpIn (Fence.wide.inRound l) n Tryz.prog Q a w:=by
 have hyl:(txt x).length<=2000000:=by have:=txt_len hy;omega
 have hgw:g<w.heap.size:=(geS.1 hg).1;have hc:w.cell? ⟨g,0,none⟩=some v:=by simpa using blk_cell hg 0
 refine region_app 28 2 18 19 16 opsRa [(5,.pointer (some ⟨g,0,none⟩)),(6,.string x)] [.eq (v),.eq (.string x),.pr fun u w=>IsB w u (txt x)] B g v xs (txt x) _ _ _ _ _ _ (by kernel_rfl) (by kernel_rfl) rfl rfl hN ⟨h1,h0,trivial⟩ h1 (by kernel_rfl) hg hown hB (by omega) rfl rfl (by kernel_rfl) (fun _=>rfl) (fun _=>rfl) (fun _=>rfl) (fun _=>rfl) ?_ ?_ ?_
 ·intro _ w' hR _;exact ⟨fun _=>ob_load (run_ldBy w' _ v ((Below.cell hR (p:=⟨g,0,none⟩) hgw).trans hc)),fun _=>rfl,trivial,trivial,trivial,trivial⟩
 ·intro o ho;have hio:=(nthO_eq _ _).symm.trans ho
  cases ho
  refine ⟨18,rfl,fun a' w' hF hR hp=>?_⟩;have hx:a'.tmps.getD 17 undef=.string x:=hp 1 _ 17 (fun _=>undef) rfl rfl rfl (by decide);refine step_call hio rfl (xs:=#[.const (.slice none 0 0),.tmp 17]) (ts:=#[48,9]) rfl trivial (fun _=>by omega) (enters_of Tryz.func55 (by kernel_rfl) rfl) ?_;rw [show Array.map a'.eval #[.const (.slice none 0 0),.tmp 17]=#[.slice none 0 0,.string x] from by simp only [List.map_toArray,List.map_cons,List.map_nil,Act.eval,hx]];refine (CallsIn.inRound l (callsIn_wide.2 (Text_any none [] 0 0 rfl x hy (by simp) w' (HasA.nil _ _ _)))).mono ?_;rintro e w'' ⟨gg,L,c,rfl,ho,hb⟩;exact ⟨_,rfl,_,rfl,IsB.own ho,hb⟩
 ·exact fun u W1 W2 q1 q2 q3 q4=>hQ _ _ W1 W2 q1 q2 q3 q4
noncomputable def opsRb:List Oper:=opsOf Tryz.f33 6
theorem put_regionRb (l n:Nat) (hn:1<=n) (B g:Nat) (v:Value) (x:ByteArray) (xs:List UInt8) (hx:xs.length<=100000000) (hy:x.size<=1000000) (a:Act) (w:World) (Q:Exit->Act->World->Prop) (hN:a.tmps.size=28)
 (h0:a.tmps.getD 7 undef=.string x) (h1:a.tmps.getD 5 undef=.pointer (some ⟨g,0,none⟩)) (hg:w.heap[g]?=some (.cells #[v] 48 (0,0))) (hown:w.ownsRow B 5 1 v xs.length (xs.map enc)) (hB:B<=w.heap.size)
 (hQ:∀(u v':Value) (W1 W2:World),Grew w W1->W2.ownsRow B 5 1 v' (xs.length+(txt x).length) ((xs++txt x).map enc)->W1.grownBy W2 v.ownBlock->W2.heap[g]?=some (.cells #[v] 48 (0,0))->Q .normal (puts [(20,v),(21,.string x),(22,u),(23,v')] a) (W2.setCell ⟨g,0,none⟩ v')):
 (Code.region 6 opsRb.toArray true).wpIn (Fence.wide.inRound l) n Tryz.prog Q a w:=by
 have hyl:(txt x).length<=2000000:=by have:=txt_len hy;omega
 have hgw:g<w.heap.size:=(geS.1 hg).1;have hc:w.cell? ⟨g,0,none⟩=some v:=by simpa using blk_cell hg 0
 refine region_app 28 2 22 23 20 opsRb [(5,.pointer (some ⟨g,0,none⟩)),(7,.string x)] [.eq (v),.eq (.string x),.pr fun u w=>IsB w u (txt x)] B g v xs (txt x) _ _ _ _ _ _ (by kernel_rfl) (by kernel_rfl) rfl rfl hN ⟨h1,h0,trivial⟩ h1 (by kernel_rfl) hg hown hB (by omega) rfl rfl (by kernel_rfl) (fun _=>rfl) (fun _=>rfl) (fun _=>rfl) (fun _=>rfl) ?_ ?_ ?_
 ·intro _ w' hR _;exact ⟨fun _=>ob_load (run_ldBy w' _ v ((Below.cell hR (p:=⟨g,0,none⟩) hgw).trans hc)),fun _=>rfl,trivial,trivial,trivial,trivial⟩
 ·intro o ho;have hio:=(nthO_eq _ _).symm.trans ho
  cases ho
  refine ⟨22,rfl,fun a' w' hF hR hp=>?_⟩;have hx:a'.tmps.getD 21 undef=.string x:=hp 1 _ 21 (fun _=>undef) rfl rfl rfl (by decide);refine step_call hio rfl (xs:=#[.const (.slice none 0 0),.tmp 21]) (ts:=#[48,9]) rfl trivial (fun _=>by omega) (enters_of Tryz.func55 (by kernel_rfl) rfl) ?_;rw [show Array.map a'.eval #[.const (.slice none 0 0),.tmp 21]=#[.slice none 0 0,.string x] from by simp only [List.map_toArray,List.map_cons,List.map_nil,Act.eval,hx]];refine (CallsIn.inRound l (callsIn_wide.2 (Text_any none [] 0 0 rfl x hy (by simp) w' (HasA.nil _ _ _)))).mono ?_;rintro e w'' ⟨gg,L,c,rfl,ho,hb⟩;exact ⟨_,rfl,_,rfl,IsB.own ho,hb⟩
 ·exact fun u W1 W2 q1 q2 q3 q4=>hQ _ _ W1 W2 q1 q2 q3 q4
end Go.Proofs.YtfjmdkhemnmkpaaGreatDoor
namespace Go.Proofs.YtfjmdkhemnmkpaaGreatDoor
open Go.Maps Go.RowKit Go.Shelf
attribute [local go_sem] Oper.semAt_some
def PutJ (w:World) (_B0 g:Nat) (l:List PV) (i:Nat) (W:World):Prop:=Below w.heap.size w W/\(w.heap.size<=g/\∃v,W.heap[g]?=some (.cells #[v] 48 (0,0))/\W.ownsRow w.heap.size 5 1 v (vb l.length++pairsTo l i).length ((vb l.length++pairsTo l i).map enc))
theorem PutJ.abides {w:World} {B B0 g:Nat} {l:List PV} {i:Nat} (hB:w.heap.size<=B):Abides B (PutJ w B0 g l i):=(Abides.below (nLr _) hB).and ((Abides.pure _).and (Abides.ex fun _=>Abides.block.and Abides.own))
theorem PutJ.below {w W W':World} {B0 g:Nat} {l:List PV} {i:Nat} (h:PutJ w B0 g l i W) (hb:Below W.heap.size W W'):PutJ w B0 g l i W':=by
 obtain ⟨h1,hg,v,h2,h3⟩:=h;exact ⟨h1.trans (Below.mono hb h1.size),hg,v,(hb.block g (geS.1 h2).1).trans h2,own_below h3 hb⟩
theorem pairsTo_all (l:List PV):vb l.length++pairsTo l l.length=bytesP l:=by
 unfold pairsTo bytesP;rw [List.take_length]
theorem pairsTo_le (l:List PV) (i:Nat):(pairsTo l i).length<=(l.flatMap pairB).length:=by
 unfold pairsTo
 conv=>rhs;rw [<-List.take_append_drop i l,List.flatMap_append,List.length_append]
 omega
theorem put_step {w W W1 W2:World} {g:Nat} {xs t:List UInt8} {v v1:Value} (hb:Below w.heap.size w W) (hg:w.heap.size<=g)
 (ho:W.ownsRow w.heap.size 5 1 v xs.length (xs.map enc)) (g1:Grew W W1) (o1:W2.ownsRow w.heap.size 5 1 v1 (xs.length+t.length) ((xs++t).map enc)) (r1:W1.grownBy W2 v.ownBlock) (c1:W2.heap[g]?=some (.cells #[v] 48 (0,0))):
 Below w.heap.size w (W2.setCell ⟨g,0,none⟩ v1)/\(W2.setCell ⟨g,0,none⟩ v1).heap[g]?=some (.cells #[v1] 48 (0,0))/\(W2.setCell ⟨g,0,none⟩ v1).ownsRow w.heap.size 5 1 v1 (xs++t).length ((xs++t).map enc)/\
  KeepsOthers W (W2.setCell ⟨g,0,none⟩ v1)/\∀{u:Value} {m:List PV},KeysW m u W->KeysW m u (W2.setCell ⟨g,0,none⟩ v1):=by
 have hty:∀r,v.ownBlock=some r->∃cs,W1.heap[r]?=some (.cells cs 5 (0,0)):=own_typed (own_below ho g1);have hs:=((SameT.grew (T:=[]) g1).trans (SameT.grown r1 hty)).trans (SameT.set (i:=0) c1 v1);refine ⟨((hb.trans (Below.mono g1 hb.size)).grown r1 (nLt hb.size (Below.size g1)) (fun k e=>(ho.lt k e).1)).setCell (p:=⟨g,0,none⟩) hg _,by simpa using blk_set c1 0 v1,?_,?_,fun {u m} hk=>hs.own hk (by decide)⟩
 ·have:=(SameT.set (i:=0) c1 v1).own o1 (by decide)
  rwa [List.length_append]
 ·exact ((KeepsOthers.of_grownBy (grownBy_of_below (r:=none) g1) (fun j o e=>by cases e)).trans (KeepsOthers.of_grownBy r1 (fun j o e ho'=>by
   obtain ⟨cs,hc⟩:=hty j e;rw [hc] at ho'
   cases ho'
   rfl))).trans (KeepsOthers.setCell _ _ _)
theorem put_in (a:Value) (p:Option Nat) (l:List PV) (hs:SortedP l) (hl:LimP l) (hbl:(bytesP l).length<=5000000) (w:World) (hm:MapO w p l) (hall:∀W,Below w.heap.size w W->Calls Tryz.prog 60 #[a] W fun e W'=>e=.returned (.map p)/\W'=W)
 (hlen:Calls Tryz.prog 57 #[a] w fun e W'=>e=.returned (.int .i64 (l.length:Int))/\W'=w) (A:Option Addr) (L c:Nat) (bs:List UInt8) (hL:L=bs.length) (hL1:L<=6000000) (hA:HasA w w.heap.size A bs):
 CallsIn Fence.wide 5 Tryz.prog 33 #[a,.slice A L c] w fun e W'=>∃v n,e=.returned v/\W'.ownsRow w.heap.size 5 1 v n ((bs++bytesP l).map enc)/\Below w.heap.size w W':=by
 have HSL:=hiD (aI hs (aI hl hbl));have HM:=hiD hm;have HALL:=hiD hall;have HLEN:=hiD hlen;have HA:=hiD (aI hL (aI hL1 hA));obtain ⟨N,hN⟩:∃N,N=l.length:=⟨_,rfl⟩;rw [<-hN] at HLEN;have hN5:N<=5000:=by rw [hN];exact hl.len
 have hNi:(N:Int)<18446744073709551616:=by omega
 have HN:=hiD (aI hN hN5);clear hs hl hbl hm hall hlen hL hL1 hA hN hN5;refine callsIn_of_wp_marks Tryz.func33 rfl trivial ?_ rfl;simp only [Tryz.ntmps33,List.size_toArray,List.length_cons,List.length_nil,Nat.reduceAdd,Nat.reduceSub,Array.replicate_succ,Array.replicate_zero,List.push_toArray,List.append_toArray,List.nil_append,List.cons_append]
 gi_wp2_with fail
 refine ⟨trivial,?_⟩;refine (callsIn_wide.2 HLEN.out).mono ?_;rintro e W1 ⟨rfl,rfl⟩
 gi_wp2_with fail
 refine ⟨trivial,?_⟩;refine (callsIn_wide.2 (Uint_any none [] 0 0 N rfl (by have:=HN.out.2;omega) (by simp) W1 (HasA.nil _ _ _))).mono ?_;rintro e W2 ⟨g2,L2,c2,rfl,hown,hb⟩;have H2:=hiD (aI hown hb);clear hown hb;gi_wp2;obtain ⟨W3,hW3⟩:∃W3,W3=W2.alloc (Obj.cells #[.slice (some ⟨g2,0,none⟩) L2 c2] 48):=⟨_,rfl⟩;rw [<-hW3];have hB3:Below W2.heap.size W2 W3:=by rw [hW3];exact (Below.refl _ W2).alloc (nLr _) _
 have k3:W3.heap[W2.heap.size]?=some (.cells #[.slice (some ⟨g2,0,none⟩) L2 c2] 48 (0,0)):=by rw [hW3];exact wAh W2 _
 have hG2:=H2.out.2.size;obtain ⟨G,hG⟩:∃G,G=W2.heap.size:=⟨_,rfl⟩;rw [<-hG] at k3 hG2 ⊢;have o3:=own_below H2.out.1 hB3;rw [List.nil_append,HN.out.1] at o3;have hL2:=own_len o3
 have hJ0:PutJ W1 0 G l 0 W3:=⟨H2.out.2.trans (Below.mono hB3 H2.out.2.size),hG2,_,k3,by
  have e:vb l.length++pairsTo l 0=vb l.length:=by unfold pairsTo;simp
  rw [e,<-hL2];exact o3⟩
 have HJ0:=hiD hJ0;have hW13:W1.heap.size<=W3.heap.size:=hJ0.1.size;have hkz:∀q∈l,q.1.size<=1000000:=fun q hq=>by have:=(HSL.out.2.1.each q hq).1;omega
 have hll:l.length<=1000000:=by have:=HSL.out.2.1.len;omega
 clear hW3 hB3 k3 hG o3 hL2 hJ0
 refine wpIn_rangeFunc_tied rfl (by omega) (gf:=58) (fb:=#[a]) (lb:=#[]) rfl trivial (enters_of Tryz.func58 (by kernel_rfl) rfl) (encs:=pairV l) (fun _=>rfl)
  (PutJ.abides hW13) (PutJ.abides hW13) (fun x=>(PutJ.abides hW13).and (Abides.own.and (Abides.pure _))) (fun x=>(PutJ.abides hW13).and Abides.own) (fun _=>Abides.pure _) (fun _=>Abides.pure _)
  (order_seq 4 (by omega) W1 a p l HM.out HALL.out HSL.out.1 hll hkz W3.heap.size (PutJ W1 0 G l) (fun i W h=>h.1) (fun W W' h hb=>h.below hb)) HJ0.out
  (fun x=>{tmps:=#[a,.slice A L c,undef,undef,.slice none 0 0,.pointer (some ⟨G,0,none⟩),.string (pk l x.1),.string (pv l x.1),a,.int .i64 (N:Int),.int .u64 (N:Int),.slice (some ⟨g2,0,none⟩) L2 c2,a,.func (.func 58) #[a] #[],.string (pk l x.1),.string (pv l x.1),undef,undef,undef,undef,undef,undef,undef,undef,undef,undef,undef,undef],defers:=[]}) ?assign ?body ?done ?stop
 case assign=>
  intro y x W K hK;simp only [pairV];gi_wp2;exact hK
 case body=>
  rintro y ⟨i,u⟩ W ⟨hJ,hK,hi⟩ hlt;dsimp only at hJ hK hi ⊢;rw [pk_at hi,pv_at hi];obtain ⟨hb,hg,v,hv,ho⟩:=hJ;have hsz:∀q∈l,q.1.size<=1000/\q.2.size<=1000:=HSL.out.2.1.each;have hz:=hsz l[i] (List.getElem_mem hi)
  have hpl:(vb l.length++pairsTo l i).length<=5000000:=by
   have h1:=pairsTo_le l i;have h2:=HSL.out.2.2;unfold bytesP at h2;rw [List.length_append] at h2 ⊢;omega
  have hps:=pairsTo_succ hi;obtain ⟨k,hk⟩:∃k,k=l[i].1:=⟨_,rfl⟩;obtain ⟨z,hz'⟩:∃z,z=l[i].2:=⟨_,rfl⟩;rw [<-hk,<-hz'] at hz hps;obtain ⟨xs,hxs⟩:∃xs,xs=vb l.length++pairsTo l i:=⟨_,rfl⟩;rw [<-hxs] at ho hpl;have HPS:=hiD (show vb l.length++pairsTo l (i+1)=xs++txt k++txt z by rw [hps,hxs];simp only [List.append_assoc]);rw [<-hk,<-hz'];clear hsz hps hk hz' hxs;gi_wp2;have hWb:=hb.size;refine put_regionRa y (5 - 1 - 1) (by decide) W1.heap.size G v k xs (by omega) (by omega) _ W _ rfl rfl rfl hv ho hWb ?_;intro u1 v1 V1 V2 g1 o1 r1 c1;obtain ⟨s1,s2,s3,s4,s5⟩:=put_step hb hg ho g1 o1 r1 c1;obtain ⟨W4,hW4⟩:∃W4,W4=V2.setCell ⟨G,0,none⟩ v1:=⟨_,rfl⟩;rw [<-hW4] at s1 s2 s3 s4 s5 ⊢;have K4:=hiD (aI s4 (s5 hK));clear g1 o1 r1 c1 s4 s5 hW4 hv ho hK;simp only [puts,List.foldl_cons,List.foldl_nil,Act.put,List.setIfInBounds_toArray,List.set_cons_succ,List.set_cons_zero];gi_wp2;have hxl:(xs++txt k).length<=5000000+2000000:=by have:=txt_len (s:=k) (by omega);rw [List.length_append];omega
  refine put_regionRb y (5 - 1 - 1) (by decide) W1.heap.size G v1 z (xs++txt k) (by omega) (by omega) _ W4 _ rfl rfl rfl s2 s3 s1.size ?_;intro u2 v2 V3 V4 g3 o3 r3 c3;obtain ⟨t1,t2,t3,t4,t5⟩:=put_step s1 hg s3 g3 o3 r3 c3;simp only [puts,List.foldl_cons,List.foldl_nil,Act.put,List.setIfInBounds_toArray,List.set_cons_succ,List.set_cons_zero];refine ⟨(K4.out.1.trans t4).from _,⟨t1,hg,v2,t2,?_⟩,t5 K4.out.2⟩;rw [HPS.out];exact t3
 case done=>
  intro D W hD hId hK;obtain ⟨hb,hg,v,hv,ho⟩:=hId;rw [pairsTo_all] at ho;obtain ⟨A9,c9,rfl⟩:=own_form ho;have hc:=blk_cell hv 0;simp at hc;obtain ⟨M,hM⟩:∃M,M=(bytesP l).length:=⟨_,rfl⟩;rw [<-hM] at ho hc;have hd:W.heap[D]?=some (.deferred (some [])):=hK;have HD:=hiD (aI hb (aI ho (aI hM hK)));clear hb hg hv ho hM hK hd
  gi_wp2_with fail
  refine ⟨trivial,?_⟩;obtain ⟨W5,hW5⟩:∃W5,W5=W.alloc (Obj.cells #[.slice A L c,.slice A9 M c9] 48):=⟨_,rfl⟩;rw [<-hW5];have hB5:Below W.heap.size W W5:=by rw [hW5];exact (Below.refl _ W).alloc (nLr _) _
  have k5:W5.heap[W.heap.size]?=some (.cells #[.slice A L c,.slice A9 M c9] 48 (0,0)):=by rw [hW5];exact wAh W _
  have hw5:Below W1.heap.size W1 W5:=HD.out.1.trans (Below.mono hB5 HD.out.1.size);have d5:W5.heap[D]?=some (.deferred (some [])):=(hB5.block D (geS.1 HD.out.2.2.2).1).trans HD.out.2.2.2
  have hfl:(List.flatten [bs,bytesP l]).length<=20000000/\1<=(List.flatten [bs,bytesP l]).length:=by
   have h1:=HSL.out.2.2;have h2:=HA.out.1;have h3:=HA.out.2.1;have h4:0<(vb l.length).length:=List.length_pos_iff.2 (vb_ne _);have h5:0<(bytesP l).length:=by unfold bytesP;rw [List.length_append];omega
   simp only [List.flatten_cons,List.flatten_nil,List.length_append,List.length_nil];omega
  refine (callsIn_wide.2 (Concat_anyB W.heap.size 2 2 [bs,bytesP l] rfl (by omega) (by omega) hfl.2 hfl.1 W5 (geS.1 k5).1 ?_)).mono ?_
  ·intro i hi;have hi2:i=0\/i=1:=by simp at hi;omega
   rcases hi2 with rfl|rfl
   ·exact ⟨A,L,c,by rw [blk_cell k5];rfl,HA.out.1,HA.out.2.2.below' hw5⟩
   ·exact ⟨A9,M,c9,by rw [blk_cell k5];rfl,HD.out.2.2.1,HasA.of_own (own_below HD.out.2.1 hB5)⟩
  rintro e W6 ⟨g6,L6,c6,rfl,hown,hb6⟩;have h6:Below W1.heap.size W1 W6:=hw5.trans (Below.mono hb6 hw5.size);have d6:W6.heap[D]?=some (.deferred (some [])):=(hb6.block D (geS.1 d5).1).trans d5;have HF:=hiD (aI (own_base hown (base':=W1.heap.size) hw5.size) (aI h6 d6));have hDw:W1.heap.size<=D:=nLt hW13 hD;clear hown hb6 h6 d6 hW5 hB5 k5 hw5 d5 hfl;gi_wp2
  have hr:∀r,some D=some r->W1.heap.size<=r/\∃o,W6.heap[r]?=some o/\o.isCells=false:=fun r e=>by
   cases e
   exact ⟨hDw,_,HF.out.2.2,rfl⟩
  have hown6:W6.ownsRow W1.heap.size 5 1 (.slice (some ⟨g6,0,none⟩) L6 c6) L6 ((bs++bytesP l).map enc):=by
   have h:=HF.out.1
   simpa using h
  have e1:=Abides.own (B:=W1.heap.size) W6 _ (some D) hown6 (grownBy_putObj' W6 D (.deferred none)) hr;have e2:=Abides.below (nLr W1.heap.size) (nLr W1.heap.size) W6 _ (some D) HF.out.2.1 (grownBy_putObj' W6 D (.deferred none)) hr;refine ⟨by simp,.inl ⟨_,_,rfl,run_takeDeferred HF.out.2.2,?_⟩⟩;refine ⟨.slice (some ⟨g6,0,none⟩) L6 c6,(results_tmp (fn:=Tryz.f33) (t:=4) rfl _ _ _).trans rfl,.slice (some ⟨g6,0,none⟩) L6 c6,L6,rfl,e1,e2⟩
 case stop=>
  intro D cc W hD hf;exact hf.elim
theorem put_anyB {w:World} {R:Nat} {p:Option Nat} {l:List PV} (A:Option Addr) (L c:Nat) (bs:List UInt8) (h:StQ w R p l) (hs:SortedP l) (hl:LimP l) (hbl:(bytesP l).length<=5000000) (hL:L=bs.length) (hL1:L<=6000000) (hA:HasA w w.heap.size A bs):
 Calls Tryz.prog 33 #[.pointer (some ⟨R,0,none⟩),.slice A L c] w fun e W'=>∃v n,e=.returned v/\W'.ownsRow w.heap.size 5 1 v n ((bs++bytesP l).map enc)/\Below w.heap.size w W':=
 callsIn_wide.1 (put_in _ p l hs hl hbl w h.map (fun _W hb=>all_any (h.below hb)) (len_any h) A L c bs hL hL1 hA)
end Go.Proofs.YtfjmdkhemnmkpaaGreatDoor
