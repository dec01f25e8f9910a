/- Parts of the proof: SqC, SqP, Loop3, SqK, SoA, SoB. -/
import Derived.Test.YtfjmdkhemnmkpaaGreatDoorR08
import Derived.Shelf.SlMaps.Clone
import Derived.Test.YtfjmdkhemnmkpaaGreatDoorR01
import Derived.RangeFuncSeq
import Derived.Shelf.AbstractIn
import Derived.Sort.MapsRangeIn
import Derived.OwnWalkIn
import Derived.TacticsInMore
import Derived.RegionIn
import Derived.LoopNIn
import Derived.LoopIn
import Derived.WalkKit
import Derived.Shelf.SlIter.Nil
import Derived.Sort.AssemblyPlain
import Derived.CellFam
import Derived.Deep.Draws
import Derived.Deep.QuietTactic
import Derived.Deep.DeepCutAuto
import Derived.BigQuiet
import Derived.BigGuard
import Derived.BigCall
import Derived.Deep.CutBlock
import Derived.Handy
set_option maxRecDepth 100000
set_option maxHeartbeats 8000000
namespace Go.Proofs.YtfjmdkhemnmkpaaGreatDoor
open Go.Maps Go.RowKit Go.WideMaps
theorem look_any {w:World} {R:Nat} {p:Option Nat} {l:List SE} (h:StQS w R p l) (c s:Nat) (hc:c<4294967296) (hs:s<4294967296):
 Calls Tryz.prog 42 #[.pointer (some ⟨R,0,none⟩),.int .u32 (c:Int),.int .u32 (s:Int)] w fun e W'=>e=.returned (.tuple #[replyV (tellS l c s).1,.int .u8 ((tellS l c s).2:Int)])/\Below w.heap.size w W':=by
 obtain ⟨W0,hW0⟩:∃W0,W0=w.alloc (Obj.cells #[.int .u8 0,.string ⟨#[]⟩] 45):=⟨_,rfl⟩;obtain ⟨hb0,k0,s0⟩:=box_new hW0;have h0:=h.below hb0;have hm:=h0.mp;have HF:=hiD (find_any h0.map c s hc hs);obtain ⟨⟨⟨cd,tx⟩,r⟩,hr⟩:∃x,x=tellS l c s:=⟨_,rfl⟩;rw [<-hr] at HF ⊢;obtain ⟨g,hg⟩:∃g,g=w.heap.size:=⟨_,rfl⟩;rw [<-hg] at k0;have HB:=hiD (aI hb0 (aI k0 hg));dsimp only [replyV] at HF ⊢;clear h h0 hb0 k0 s0 hr;go_enter Tryz.func42,Tryz.ntmps42;go_upto_region 1 with (fail)
 rw [<-hW0,<-hg];clear hW0 hg
 go_wp2_with fail
 refine HF.out.mono ?_;rintro e W1 ⟨rfl,hb1⟩;have k1:=(hb1.block g (geS.1 HB.out.2.1).1).trans HB.out.2.1;have y0:W1.cell? ⟨g,0,none⟩=some (.int .u8 0):=by simpa using blk_cell k1 0
 have y1:W1.cell? ⟨g,1,none⟩=some (.string ⟨#[]⟩):=by simpa using blk_cell k1 1
 have u0:=blk_frozen k1 0;have u1:=blk_frozen k1 1;obtain ⟨W3,hW3⟩:∃W3,W3=(W1.setCell ⟨g,0,none⟩ (.int .u8 (cd:Int))).setCell ⟨g,1,none⟩ (.string tx):=⟨_,rfl⟩;obtain ⟨f1,f2,f3⟩:=find_fin (HB.out.1.trans (Below.mono hb1 HB.out.1.size)) k1 (by rw [HB.out.2.2];exact nLr _) cd tx rfl W3 hW3;clear k1 hb1;go_wp2;rw [<-hW3];exact bodyPost_ret (v:=.tuple #[.agg #[.int .u8 (cd:Int),.string tx],.int .u8 (r:Int)]) (by simp [results,Tryz.results42,go_sem,f2,f3]) rfl ⟨rfl,f1⟩
theorem set_anyS {w:World} {R:Nat} {p:Option Nat} {l:List SE} (h:StQS w R p l) (hso:SortedE l) (hl:l.length<=1000000) (e:SE) (hc:e.cl<4294967296) (ht:e.tx.size<=maxLen):
 Calls Tryz.prog 66 #[.pointer (some ⟨R,0,none⟩),.int .u32 (e.cl:Int),sessV e] w fun x W'=>x=.returned (.tuple #[])/\ChgS w W' R p (setS l e):=by
 obtain ⟨W0,hW0⟩:∃W0,W0=w.alloc (Obj.cells #[.int .u32 (e.sq:Int),.int .u8 (e.cd:Int),.string e.tx] 111):=⟨_,rfl⟩;obtain ⟨hb0,k0,s0⟩:=box_new hW0;have h0:=h.below hb0;have hm:=h0.mp;have hz:=h0.fz;have hq:=fun w=>run_eql_map_nil_sl (P:=Tryz.prog) w 123 _ _ p Tryz.underlying123
 obtain ⟨g,hg⟩:∃g,g=w.heap.size:=⟨_,rfl⟩;rw [<-hg] at k0 s0;have hbl:=h.blt;have hRlt:=h.lt
 cases p with
 |none=>
  obtain rfl:l=[]:=h.map;obtain ⟨W1,hW1⟩:∃W1,W1=(W0.alloc (.map #[] 0)).setCell ⟨R,0,none⟩ (.map (some W0.heap.size)):=⟨_,rfl⟩;have hB:Below W0.heap.size W0 (W0.alloc (.map #[] 0)):=(Below.refl _ W0).alloc (nLr _) _
  have hm1:MapQS W1 W0.heap.size []:=by
   rw [hW1];exact (MapQS.new W0).keep (Below.heap_setCell _ _ _ _ (fun e=>absurd (show W0.heap.size=R by simpa using e) (by have:=h0.lt;omega)))
  have hc1:W1.heap[R]?=some (.cells #[.map (some W0.heap.size)] 130 (0,0)):=by
   rw [hW1];exact blk_set ((hB.block R h0.lt).trans h0.cell) 0 _
  have hg1:W1.heap[g]?=some (.cells #[.int .u32 (e.sq:Int),.int .u8 (e.cd:Int),.string e.tx] 111 (0,0)):=by
   rw [hW1];exact (Below.heap_setCell _ _ _ _ (fun e=>absurd (show g=R by simpa using e) (by omega))).trans ((hB.block g (by omega)).trans k0)
  have ho1:Only (fun x=>x=R\/(none:Option Nat)=some x) w W1:=by
   rw [hW1];exact ((Only.of_grew hb0).grew hB).setCell (p:=⟨R,0,none⟩) (.inl (.inl rfl)) _
  obtain ⟨W2,hrun,hm2,hg2'⟩:=(show MapQS W1.drew W0.heap.size [] from hm1.keep rfl).put SortedE.nil (by decide) hc ht;have hg2:W1.grownBy W2 (some W0.heap.size):=⟨hg2'.os,hg2'.tape,hg2'.output,hg2'.size,hg2'.block⟩;have hc1':W1.cell? ⟨R,0,none⟩=some (.map (some W0.heap.size)):=by simpa using blk_cell hc1 0
  have x0:W1.cell? ⟨g,0,none⟩=some (.int .u32 (e.sq:Int)):=by simpa using blk_cell hg1 0
  have x1:W1.cell? ⟨g,1,none⟩=some (.int .u8 (e.cd:Int)):=by simpa using blk_cell hg1 1
  have x2:W1.cell? ⟨g,2,none⟩=some (.string e.tx):=by simpa using blk_cell hg1 2
  have hz1:(W0.alloc (.map #[] 0)).frozen? ⟨R,0,none⟩=false:=blk_frozen ((hB.block R h0.lt).trans h0.cell) 0;have hc0:(W0.alloc (.map #[] 0)).cell? ⟨R,0,none⟩=some (.map none):=by simpa using blk_cell ((hB.block R h0.lt).trans h0.cell) 0
  have hfin:ChgS w W2 R none (setS [] e):=by
   refine ⟨⟨some W0.heap.size,⟨(hg2.block R (geS.1 hc1).1 (fun e=>by have:=osI e;have:=h0.lt;omega)).trans hc1,hm2⟩,fun b e=>.inr (by cases e;exact hb0.size)⟩,ho1.grown hg2 (fun j e=>.inr (by cases e;exact hb0.size))⟩
  have HF:=hiD hfin;have hmk:=run_makeMap (P:=Tryz.prog) 123 W0;clear hm1 hm2 hg2 hg2' hc1 ho1 hB hfin hg1 k0 h0 hb0 h hbl hRlt;obtain ⟨N,hN⟩:∃N,N=W0.heap.size:=⟨_,rfl⟩;have HN2:=hiD (show w.heap.size+1=N by omega);rw [<-hN] at hrun hc1' hW1 hmk;unfold sessV at hrun ⊢;obtain ⟨cl,sq,cd,tx⟩:=e;dsimp only at hrun x0 x1 x2 hW0 ⊢;go_enter Tryz.func66,Tryz.ntmps66;go_upto_region 1 with (fail)
  rw [<-hW0,<-hg];clear hW0;go_upto_region 3 with (fail)
  rw [HN2.out,<-hW1];clear hg s0 hW1 hz hz1 hc0 hmk hN hm
  go_region
  go_end0;exact ⟨rfl,HF.out⟩
 |some b=>
  have hblt:=hbl b rfl;obtain ⟨W2,hrun,hm2,hg2'⟩:=MapQS.put (show MapQS W0.drew b l from MapQS.keep (show MapQS W0 b l from h0.map) rfl) hso (by simp only [maxLen];omega) hc ht;have hg2:W0.grownBy W2 (some b):=⟨hg2'.os,hg2'.tape,hg2'.output,hg2'.size,hg2'.block⟩;have hne:=h.ne b rfl;have HF:Hid (ChgS w W2 R (some b) (setS l e)):=hiD ⟨⟨some b,⟨(hg2.block R h0.lt (fun e=>hne (osI e))).trans h0.cell,hm2⟩,fun _ e=>.inl e⟩,(Only.of_grew hb0).grown hg2 (fun j e=>.inl (.inr e))⟩;have x0:W0.cell? ⟨g,0,none⟩=some (.int .u32 (e.sq:Int)):=by simpa using blk_cell k0 0
  have x1:W0.cell? ⟨g,1,none⟩=some (.int .u8 (e.cd:Int)):=by simpa using blk_cell k0 1
  have x2:W0.cell? ⟨g,2,none⟩=some (.string e.tx):=by simpa using blk_cell k0 2
  clear hm2 hg2 hg2' h h0 hb0 k0 hbl hRlt hblt hne hso;unfold sessV at hrun ⊢;obtain ⟨cl,sq,cd,tx⟩:=e;dsimp only at hrun x0 x1 x2 hW0 ⊢;go_enter Tryz.func66,Tryz.ntmps66;go_upto_region 1 with (fail)
  rw [<-hW0,<-hg];clear hW0 hg s0;go_upto_region 3 with (fail)
  go_region
  go_end0;exact ⟨rfl,HF.out⟩
theorem keepS_no {l:List SE} {c s cd:Nat} {tx:ByteArray} (h:c=0\/(tellS l c s).2≠0):keepS l c s cd tx=l:=if_neg (fun h'=>by
 rcases h with h|h
 ·exact h'.1 h
 ·exact h h'.2)
theorem keep_any {w:World} {R:Nat} {p:Option Nat} {l:List SE} (h:StQS w R p l) (hso:SortedE l) (hl:l.length<=1000000) (c s cd:Nat) (tx:ByteArray) (hc:c<4294967296) (hs:s<4294967296) (ht:tx.size<=maxLen):
 Calls Tryz.prog 44 #[.pointer (some ⟨R,0,none⟩),.int .u32 (c:Int),.int .u32 (s:Int),replyV (cd,tx)] w fun x W'=>x=.returned (.tuple #[])/\ChgS w W' R p (keepS l c s cd tx):=by
 obtain ⟨W0,hW0⟩:∃W0,W0=w.alloc (Obj.cells #[.int .u8 (cd:Int),.string tx] 45):=⟨_,rfl⟩;obtain ⟨hb0,k0,s0⟩:=box_new hW0;have h0:=h.below hb0;have hm:=h0.mp;have HF:=hiD (find_any h0.map c s hc hs);obtain ⟨⟨⟨cd1,tx1⟩,r⟩,hr⟩:∃x,x=tellS l c s:=⟨_,rfl⟩;rw [<-hr] at HF;obtain ⟨g,hg⟩:∃g,g=w.heap.size:=⟨_,rfl⟩;rw [<-hg] at k0 s0;have HB:=hiD (aI hb0 (aI k0 (aI hg (aI hr (aI h (aI hso hl))))));have HH:=hiD h0;dsimp only [replyV] at HF ⊢;clear h h0 hb0 k0 s0 hr hso hl;go_enter Tryz.func44,Tryz.ntmps44;go_upto_region 1 with (fail)
 rw [<-hW0,<-hg];clear hW0 hg
 by_cases hc0:c=0
 ·subst hc0;go_wp2
  go_returns
  obtain ⟨b0,_,_,_,b4,_⟩:=HB.out;exact ⟨rfl,by rw [keepS_no (.inl rfl)];exact ChgS.same b4 b0⟩
 ·have hci:¬(c:Int)=0:=by omega
  have HC:=hiD hc0;clear hc0
  go_wp2_with fail
  refine HF.out.mono ?_;rintro e W1 ⟨rfl,hb1⟩;have h1:=HH.out.below hb1;have hbw:=HB.out.1.trans (Below.mono hb1 HB.out.1.size);have k1:=(hb1.block g (geS.1 HB.out.2.1).1).trans HB.out.2.1;obtain ⟨W2,hW2⟩:∃W2,W2=W1.alloc (Obj.cells #[.int .u8 (cd1:Int),.string tx1] 45):=⟨_,rfl⟩;obtain ⟨hb2,_,_⟩:=box_new hW2;have h2:=h1.below hb2;have hbw2:=hbw.trans (Below.mono hb2 hbw.size);have k2:=(hb2.block g (geS.1 k1).1).trans k1;have x0:W2.cell? ⟨g,0,none⟩=some (.int .u8 (cd:Int)):=by simpa using blk_cell k2 0
  have x1:W2.cell? ⟨g,1,none⟩=some (.string tx):=by simpa using blk_cell k2 1
  have HS:=hiD (set_anyS h2 HB.out.2.2.2.2.2.1 HB.out.2.2.2.2.2.2 ⟨c,s,cd,tx⟩ hc ht);have HW:=hiD hbw2;have hRw:=HB.out.2.2.2.2.1.lt;clear h1 hbw k1 hb2 h2 hbw2 k2 hb1 HF;dsimp only [sessV] at HS;go_upto_region 3 with (fail)
  rw [<-hW2];clear hW2
  by_cases hr0:r=0
  ·subst hr0
   go_wp2_with fail
   refine HS.out.mono ?_;rintro e W3 ⟨rfl,hch⟩;have HCH:=hiD hch;clear hch;go_wp2;go_end0;refine ⟨rfl,?_⟩;rw [keepS_set HC.out (by rw [<-HB.out.2.2.2.1])];exact ChgS.trans (fun b e=>.inl e) (Only.of_grew HW.out) HCH.out
  ·have hri:¬(r:Int)=0:=by omega
   have HR:=hiD hr0;clear hr0;go_wp2
   go_returns
   refine ⟨rfl,?_⟩;rw [keepS_no (.inr (by rw [<-HB.out.2.2.2.1];exact HR.out))];exact ChgS.same HB.out.2.2.2.2.1 HW.out
end Go.Proofs.YtfjmdkhemnmkpaaGreatDoor
namespace Go.Proofs.YtfjmdkhemnmkpaaGreatDoor
open Go.Maps Go.RowKit
def PlQS (F:Nat->Prop) (w:World) (R:Nat) (l:List SE):Prop:=∃p,StQS w R p l/\SortedE l/\∀k,F k<->(k=R\/p=some k)
theorem PlQS.mk {w:World} {R:Nat} {p:Option Nat} {l:List SE} (h:StQS w R p l) (hs:SortedE l):PlQS (fun k=>k=R\/p=some k) w R l:=⟨p,h,hs,fun _=>Iff.rfl⟩
theorem only_ofS {w W:World} {F:Nat->Prop} {R:Nat} {p:Option Nat} (hF:∀k,F k<->(k=R\/p=some k)) (h:Only (fun x=>x=R\/p=some x) w W):Only F w W:=h.mono fun x _ hx=>(hF x).2 hx
end Go.Proofs.YtfjmdkhemnmkpaaGreatDoor
namespace Go.Proofs.YtfjmdkhemnmkpaaGreatDoor
open Go.RowKit
structure KeepsL (B:Nat) (W W':World):Prop where
 size:W.heap.size<=W'.heap.size
 same:∀(k:Nat) (o:Obj),B<=k->W.heap[k]?=some o->o.isCells=false->o.isWalk=false->W'.heap[k]?=some o
theorem KeepsL.of_grownBy {B:Nat} {W W':World} {row:Option Nat} (hg:W.grownBy W' row) (hr:∀r,row=some r->∃o:Obj,W.heap[r]?=some o/\o.isWalk=true):KeepsL B W W':=
 ⟨hg.size,fun k o _ hk _ hw=>(hg.block k (geS.1 hk).1 (fun e=>by
  obtain ⟨o',h1,h2⟩:=hr k e.symm;rw [hk] at h1
  cases h1
  rw [hw] at h2
  cases h2)).trans hk⟩
def AbidesL (B:Nat) (I:World->Prop):Prop:=
 ∀W W' row,I W->W.grownBy W' row->(∀r,row=some r->B<=r/\∃o:Obj,W.heap[r]?=some o/\o.isCells=false/\o.isWalk=false)->I W'
theorem Abides.l {B:Nat} {I:World->Prop} (h:Abides B I):AbidesL B I:=fun W W' row hI hg hr=>h W W' row hI hg (fun r e=>⟨(hr r e).1,by obtain ⟨_,o,h1,h2,_⟩:=hr r e;exact ⟨o,h1,h2⟩⟩)
theorem AbidesL.putObj {B:Nat} {I:World->Prop} (h:AbidesL B I) {W:World} {l:Nat} {o:Obj} (o':Obj) (hs:I W) (hB:B<=l) (hl:W.heap[l]?=some o) (ho:o.isCells=false) (hw:o.isWalk=false):I (W.putObj l o'):=
 h W _ (some l) hs (grownBy_putObj' W l o') (fun r e=>by cases e;exact ⟨hB,o,hl,ho,hw⟩)
theorem AbidesL.alloc {B:Nat} {I:World->Prop} (h:AbidesL B I) {W:World} (o:Obj) (hs:I W):I (W.alloc o):=
 h W _ none hs (World.grownBy_alloc W o none) (fun r e=>by cases e)
theorem AbidesL.and {B:Nat} {I J:World->Prop} (h:AbidesL B I) (k:AbidesL B J):AbidesL B (fun W=>I W/\J W):=
 fun W W' row hs hg hr=>⟨h W W' row hs.1 hg hr,k W W' row hs.2 hg hr⟩
theorem AbidesL.ex {B:Nat} {β:Type} {I:β->World->Prop} (h:∀b,AbidesL B (I b)):AbidesL B (fun W=>∃b,I b W):=
 fun W W' row ⟨b,hb⟩ hg hr=>⟨b,h b W W' row hb hg hr⟩
theorem AbidesL.ranges {H:Type} {P:Program} {k:TypeId} {R:Value->Option (DataW H × List MemPlace)} {B b r n:Nat} {D:DataW H} {left:Lit->Bool} {cnt:Nat}:AbidesL B (fun W=>W.ranges P k R b r n D left cnt):=
 fun W W' row h hg hr=>h.of_walks ⟨hg.size,fun i o hi hw=>(hg.block i (geS.1 hi).1 (fun e=>by
  obtain ⟨_,o',h1,_,h2⟩:=hr i e.symm;rw [hi] at h1
  cases h1
  rw [hw] at h2
  cases h2)).trans hi⟩
theorem AbidesL.owns {H:Type} {P:Program} {k:TypeId} {R:Value->Option (DataW H × List MemPlace)} {B b n:Nat} {D:DataW H}:AbidesL B (fun W=>W.ownsMap P k R b n D):=by
 rintro W W' row ⟨es,clock,hb,rest⟩ hg hr;refine ⟨es,clock,(hg.block b (geS.1 hb).1 (fun e=>?_)).trans hb,rest⟩;obtain ⟨_,o',h1,_,h2⟩:=hr b e.symm;rw [hb] at h1
 cases h1
 cases h2
def TiedSeqL {γ:Type} (F:Fence) (n:Nat) (P:Program) (gf:Nat) (fb lb:Array Value) (encs:γ->Array Value) (B:Nat)
 (I0 Id:World->Prop) (Iy Io:γ->World->Prop) (Ix Ixd:Code->World->Prop):Prop:=
 ∀(l:Nat) (G:World->Prop) (Gx:Code->World->Prop),(∀A C,G A->KeepsL B A C->G C)->(∀c A C,Gx c A->KeepsL B A C->Gx c C)->
  (∀x W,Iy x W->G W->YieldAt F (n - 1) P l (encs x) W fun e W'=>
   (e=.returned (.bool true)/\Io x W'/\G W')\/(e=.returned (.bool false)/\∃c,Ix c W'/\Gx c W'))->
  ∀W,I0 W->G W->CallsIn F n P gf (fb++#[.func (.yield l) #[] #[]]++lb) W fun e W'=>(∃v,e=.returned v)/\((Id W'/\G W')\/(∃c,Ixd c W'/\Gx c W'))
theorem wpIn_rangeFunc_tiedL {F:Fence} {n:Nat} {P:Program} {γ:Type} {g:Operand} {ps:Array Tmp} {assign body:Code} {Q:Exit->Act->World->Prop} {a:Act} {w:World}
 (hro:F.round=none) (h1:1<=n) {gf:Nat} {fb lb:Array Value} (hg:a.eval g=.func (.func gf) fb lb) (hFg:F.fn gf) (eg:∀args w,(callFunc gf args).run P w=.ok (.enter gf args) w)
 {encs:γ->Array Value} (hps:∀x,(encs x).size=ps.size)
 {I0 Id:World->Prop} {Iy Io:γ->World->Prop} {Ix Ixd:Code->World->Prop}
 (hI0:AbidesL w.heap.size I0) (hId:AbidesL w.heap.size Id) (hIy:∀x,AbidesL w.heap.size (Iy x)) (hIo:∀x,AbidesL w.heap.size (Io x)) (hIx:∀c,AbidesL w.heap.size (Ix c)) (hIxd:∀c,AbidesL w.heap.size (Ixd c))
 (hseq:TiedSeqL F (n - 1) P gf fb lb encs w.heap.size I0 Id Iy Io Ix Ixd) (h0:I0 w) (a₁:γ->Act)
 (hassign:∀(l:Nat) (x:γ) (W:World) (K:Act->World->Prop),K (a₁ x) W->
  assign.wpIn (F.inRound l) (n - 1 - 1) P (Exit.then K (fun _ _ _=>False)) {tmps:=(ps.zip (encs x)).foldl (fun t (p,v)=>t.setIfInBounds p v) a.tmps,defers:=[]} W)
 (hbody:∀(l:Nat) (x:γ) (W:World),Iy x W->w.heap.size<=W.heap.size->body.wpIn (F.inRound l) (n - 1 - 1) P (tiedPost w.heap.size (Io x) Ix W) (a₁ x) W)
 (hdone:∀(D:Nat) (W:World),w.heap.size<=D->Id W->W.heap[D]?=some (.deferred (some []))->Q .normal {a with defers:={target:=.collected D,args:=#[]}::a.defers} W)
 (hstop:∀(D:Nat) (c:Code) (W:World),w.heap.size<=D->Ixd c W->W.heap[D]?=some (.deferred (some []))->c.wpIn F n P Q {a with defers:={target:=.collected D,args:=#[]}::a.defers} W):
 (Code.rangeFunc g ps assign body).wpIn F n P Q a w:=by
 refine wpIn_rangeFunc ?_;intro fn hfn;rw [hro];obtain ⟨rec,hrec⟩:∃rec:LoopState->Option Code->Loop,rec=fun st pe=>{state:=st,pending:=pe,fn,tmps:=a.tmps,params:=ps,assign,body,defers:=w.heap.size}:=⟨_,rfl⟩
 obtain ⟨W1,hW1⟩:∃W1,(w.alloc (.deferred (some []))).alloc (.loop (rec .ready none))=W1:=⟨_,rfl⟩
 have hL1:W1.heap[w.heap.size+1]?=some (.loop (rec .ready none)):=by
  rw [<-hW1];have:=wAh (w.alloc (.deferred (some []))) (.loop (rec .ready none));rwa [World.size_alloc] at this
 have hK1:W1.heap[w.heap.size]?=some (.deferred (some [])):=by
  rw [<-hW1];exact (Below.heap_alloc _ _ _ (by simp)).trans (wAh w _)
 have hI1:I0 W1:=by rw [<-hW1];exact hI0.alloc _ (hI0.alloc _ h0)
 refine ⟨w.heap.size+1,[{target:=.collected w.heap.size,args:=#[]}],W1,{target:=.fn (.func gf) lb,args:=fb++#[.func (.yield (w.heap.size+1)) #[] #[]]},W1,gf,
  fb++#[.func (.yield (w.heap.size+1)) #[] #[]]++lb,W1,?_,?_,?_,?_,fun _=>h1,?_⟩
 ·rw [<-hW1,hrec];exact run_enterLoop_outer _ _ _ _ _
 ·simp only [resolve,hg];simp [go_sem]
 ·intro f' hf';simp [Target.leads] at hf';subst hf';exact hFg
 ·simp [invoke,go_sem,eg]
 ·refine (hseq (w.heap.size+1)
   (fun W=>W.heap[w.heap.size+1]?=some (.loop (rec .ready none))/\W.heap[w.heap.size]?=some (.deferred (some [])))
   (fun c W=>W.heap[w.heap.size+1]?=some (.loop (rec .done (some c)))/\W.heap[w.heap.size]?=some (.deferred (some [])))
   (fun A C h k=>⟨k.same _ _ (by omega) h.1 rfl rfl,k.same _ _ (nLr _) h.2 rfl rfl⟩)
   (fun c A C h k=>⟨k.same _ _ (by omega) h.1 rfl rfl,k.same _ _ (nLr _) h.2 rfl rfl⟩)
   ?_ W1 hI1 ⟨hL1,hK1⟩).mono ?_
  ·rintro x W hi ⟨hl,hk⟩;have hlt:w.heap.size+1<W.heap.size:=(geS.1 hl).1;have hy:=run_yield (P:=P) (args:=encs x) hl (by rw [hrec];exact hps x);rw [hrec] at hy;refine ⟨fn,_,assign,body,hy,roundIn_of_wpIn hfn (hassign _ x W _ ⟨_,run_beginRound hl (by rw [hrec]),?_⟩)⟩;have hl2:(W.putObj (w.heap.size+1) (.loop {rec .ready none with state:=.busy})).heap[w.heap.size+1]?=some (.loop {rec .ready none with state:=.busy}):=World.putObj_heap_same hlt;have hk2:(W.putObj (w.heap.size+1) (.loop {rec .ready none with state:=.busy})).heap[w.heap.size]?=some (.deferred (some [])):=(World.putObj_heap_other (by omega)).trans hk;refine wpIn_mono (hbody _ x _ ((hIy x).putObj _ hi (by omega) hl rfl rfl) (nLt (by omega:w.heap.size<=W.heap.size) (grownBy_putObj' W _ _).size)) ?_
   have fin:∀(jump:Option Code) (W3:World),KeepsFrom w.heap.size (W.putObj (w.heap.size+1) (.loop {rec .ready none with state:=.busy})) W3->
    (Instr.endRound (w.heap.size+1) jump).run P W3=.ok (.bool jump.isNone) (W3.putObj (w.heap.size+1) (.loop (rec (if jump.isNone then .ready else .done) jump)))/\
    W3.heap[w.heap.size+1]?=some (.loop {rec .ready none with state:=.busy})/\
    (W3.putObj (w.heap.size+1) (.loop (rec (if jump.isNone then .ready else .done) jump))).heap[w.heap.size+1]?=some (.loop (rec (if jump.isNone then .ready else .done) jump))/\
    (W3.putObj (w.heap.size+1) (.loop (rec (if jump.isNone then .ready else .done) jump))).heap[w.heap.size]?=some (.deferred (some [])):=fun jump W3 hk3=>by
    have hl3:=hk3.same _ _ (by omega) hl2 rfl;have:=run_endRound (P:=P) jump hl3;rw [hrec] at this ⊢;exact ⟨this,by rw [hrec] at hl3;exact hl3,World.putObj_heap_same (geS.1 hl3).1,(World.putObj_heap_other (by omega)).trans (hk3.same _ _ (nLr _) hk2 rfl)⟩
   rintro e a3 W3 hp
   cases e with
   |normal=>
    obtain ⟨hk3,hi3⟩:=hp;obtain ⟨hr,hl3,hl4,hk4⟩:=fin none W3 hk3;exact ⟨_,_,hr,.inl ⟨rfl,(hIo x).putObj _ hi3 (by omega) hl3 rfl rfl,hl4,hk4⟩⟩
   |ret=>
    obtain ⟨hk3,hi3⟩:=hp;obtain ⟨hr,hl3,hl4,hk4⟩:=fin (some .ret) W3 hk3;exact ⟨_,_,hr,.inr ⟨rfl,.ret,(hIx _).putObj _ hi3 (by omega) hl3 rfl rfl,hl4,hk4⟩⟩
   |exit id=>
    obtain ⟨hk3,hi3⟩:=hp;obtain ⟨hr,hl3,hl4,hk4⟩:=fin (some (.exit id)) W3 hk3;exact ⟨_,_,hr,.inr ⟨rfl,.exit id,(hIx _).putObj _ hi3 (by omega) hl3 rfl rfl,hl4,hk4⟩⟩
   |goto t=>
    obtain ⟨hk3,hi3⟩:=hp;obtain ⟨hr,hl3,hl4,hk4⟩:=fin (some (.goto t)) W3 hk3;exact ⟨_,_,hr,.inr ⟨rfl,.goto t,(hIx _).putObj _ hi3 (by omega) hl3 rfl rfl,hl4,hk4⟩⟩
   |panic ch=>exact hp.elim
   |outgrown=>exact hp.elim
  ·rintro e W2 ⟨⟨v,rfl⟩,(⟨hi,hl,hk⟩|⟨c,hi,hl,hk⟩)⟩
   ·exact ⟨none,_,by have:=run_endLoop (P:=P) hl (by rw [hrec];simp);rw [hrec] at this;exact this,hdone _ _ (nLr _) (hId.putObj _ hi (by omega) hl rfl rfl) ((World.putObj_heap_other (by omega)).trans hk)⟩
   ·exact ⟨some c,_,by have:=run_endLoop (P:=P) hl (by rw [hrec];simp);rw [hrec] at this;exact this,hstop _ c _ (nLr _) ((hIxd c).putObj _ hi (by omega) hl rfl rfl) ((World.putObj_heap_other (by omega)).trans hk)⟩
end Go.Proofs.YtfjmdkhemnmkpaaGreatDoor
namespace Go.Proofs.YtfjmdkhemnmkpaaGreatDoor
open Go.Maps Go.RowKit
def ColQ (l:List SE) (left:Lit->Bool) (ss:List Nat):Prop:=ss.Nodup/\∀c,c∈ss<->(has (mapS l) (kyS c)=true/\left (kyS c)=false)
theorem ColQ.start (l:List SE):ColQ l (has (mapS l)) []:=⟨List.nodup_nil,fun c=>by cases has (mapS l) (kyS c)<;>simp⟩
theorem ColQ.step {l:List SE} {left:Lit->Bool} {ss:List Nat} (h:ColQ l left ss) {c:Nat} {y:DataW Unit} (hlk:left (kyS c)=true) (hat:∀zd,(mapS l).atKey (kyS c) zd=y):ColQ l (fun z=>left z&&!z.sameKey (kyS c)) (ss++[c]):=by
 have hhas:has (mapS l) (kyS c)=true:=has_true_of_atKey hat;have hnew:c∉ss:=fun hx=>by have:=((h.2 c).1 hx).2;rw [hlk] at this;cases this
 refine ⟨List.nodup_append.2 ⟨h.1,by simp,fun a ha b hb=>by simp at hb;subst hb;exact fun e=>hnew (e ▸ ha)⟩,fun y=>?_⟩
 by_cases hy:y=c
 ·subst hy;simp [hhas,same_kyS]
 ·simp [h.2 y,hy,same_kyS]
theorem ColQ.done {l:List SE} {left:Lit->Bool} {ss:List Nat} (h:ColQ l left ss) (hs:SortedE l) (hl:∀z,left z=false):ss.Perm (l.map (·.cl)):=by
 refine (List.perm_ext_iff_of_nodup h.1 ?_).2 fun c=>?_
 ·exact List.pairwise_map.2 (hs.imp fun h e=>by omega)
 ·rw [h.2 c,hl,mapS_has,lookS,List.find?_isSome,List.mem_map];simp
theorem keyU_inv {v:Value} {kl:Lit} (h:keyOf Tryz.prog 54 v=some kl):∃c:Nat,v=.int .u32 (c:Int)/\kl=kyS c/\c<4294967296:=by
 rw [keyOf_int Tryz.underlying54] at h;unfold mapKey at h;rw [Tryz.underlying54] at h
 split at h
 ·rename_i e;cases e
 ·rename_i q q' n e
  cases e
  split at h
  ·rename_i hc
   obtain ⟨rfl,hw⟩:=hc
   cases h
   simp [Lit.wf,IntKind.min,IntKind.max,IntKind.signed,IntKind.bits] at hw;exact ⟨n.toNat,by rw [Int.toNat_of_nonneg hw.1],by rw [kyS,Int.toNat_of_nonneg hw.1],by omega⟩
  ·cases h
 ·rename_i e;cases e
 ·cases h
structure KeyX where
 ss:List Nat
 c:Nat
 r:Nat
 left:Lit->Bool
 cnt:Nat
abbrev RangeQ (W:World) (b:Nat) (l:List SE) (r:Nat) (left:Lit->Bool) (cnt:Nat):Prop:=W.ranges Tryz.prog 54 sessR b r l.length (mapS l) left cnt
theorem keys_seq (n:Nat) (hn:1<=n) (g b:Nat) (l:List SE) (hso:SortedE l) (B:Nat) (J:List Nat->World->Prop)
 (hJ:∀ss W W' row,J ss W->W.grownBy W' row->(∀r,row=some r->B<=r/\∃o:Obj,W.heap[r]?=some o/\o.isWalk=true)->J ss W'):
 TiedSeqL Fence.wide n Tryz.prog 103 #[] #[.pointer (some ⟨g,0,none⟩)] (fun x:KeyX=>#[.int .u32 (x.c:Int)]) B
  (fun W=>J [] W/\B<=W.heap.size/\MapQS W b l/\W.cell? ⟨g,0,none⟩=some (.map (some b))) (fun W=>∃ss,ss.Perm (l.map (·.cl))/\J ss W)
  (fun x W=>(J x.ss W/\x.ss.length<l.length)/\RangeQ W b l x.r x.left x.cnt) (fun x W=>J (x.ss++[x.c]) W/\RangeQ W b l x.r x.left x.cnt) (fun _ _=>False) (fun _ _=>False):=by
 intro y G Gx hG hGx hY W h0 hGW;obtain ⟨hJ0,hBW,hown,hc0⟩:=h0;refine callsIn_of_wp Tryz.func103 rfl trivial ?_ rfl;simp only [Tryz.ntmps103,List.size_toArray,List.length_cons,List.length_nil,Nat.reduceAdd,Nat.reduceSub,Array.replicate_succ,Array.replicate_zero,List.push_toArray,List.append_toArray,List.nil_append,List.cons_append];have HY:=hiD hY;have HG:=hiD hG;have HGW:=hiD hGW;have HJ:=hiD hJ;have HJ0:=hiD hJ0;have HB:=hiD hBW;have HSO:=hiD hso;have HOWN:=hiD hown;clear hY hG hGx hGW hJ hJ0 hBW hso hown
 gi_wp2_with (first
  |(gi_at_range;refine wpListIn_range_own _ rfl _ 123 rfl 54 111 keyedU32 Tryz.underlying123 _ b l.length _ rfl HOWN.out ?_;intro W1 hrg1 hg1 hs1;have HR1:=hiD hrg1;have HG1:=hiD hg1;clear hrg1 hg1 hs1)
  |gi_in)
 gi_loopw [3] (fun _ wr=>∃(left:Lit->Bool) (cnt:Nat) (ss:List Nat),Hid (RangeQ wr b l W.heap.size left cnt/\ss.length+cnt<=l.length/\ColQ l left ss/\J ss wr/\G wr)) (fun _ wr=>wr.rangeLeft b W.heap.size)
 case atStart=>
  refine ⟨_,_,[],hiD ⟨HR1.out,by rw [mapS_size];simp,ColQ.start l,HJ.out [] W W1 none HJ0.out HG1.out (fun r e=>by cases e),HG.out W W1 HGW.out (KeepsL.of_grownBy HG1.out (fun r e=>by cases e))⟩⟩
 case round=>
  obtain ⟨left,cnt,ss,HI⟩:=hrel
  gi_wp2_with (first
   |(gi_at_next;refine wpListIn_next_ranges _ rfl _ rfl 54 keyedU32 sessR (fun c:Nat=>Value.int .u32 (c:Int)) id (fun key kl hk=>by obtain ⟨c,hc,_⟩:=keyU_inv hk;exact ⟨c,hc⟩) (fun v _ _=>⟨v,rfl⟩) b W.heap.size l.length _ _ _ rfl HI.out.1 ?_ ?_)
   |gi_in)
  ·intro hc0 hl0;have HL0:=hiD hl0;clear hc0 hl0;gi_wp2;go_end0;exact ⟨⟨_,rfl⟩,.inl ⟨⟨ss,HI.out.2.2.1.done HSO.out HL0.out,HI.out.2.2.2.1⟩,HI.out.2.2.2.2⟩⟩
  ·intro c v kl yv yp w2 cnt2 hkey hlk hv hat hrg2 hlt hg2 hs2 hen;obtain ⟨c',ec,rfl,_⟩:=keyU_inv hkey
   have ecc:c=c':=by
    have:=Value.int.inj ec;omega
   subst ecc;have hw2:∀r,some W.heap.size=some r->B<=r/\∃o:Obj,wr.heap[r]?=some o/\o.isWalk=true:=fun r e=>by cases e;exact ⟨HB.out,HI.out.1.iter_walk⟩
   have hJ2:=HJ.out ss wr w2 (some W.heap.size) HI.out.2.2.2.1 hg2 hw2;have hG2:=HG.out wr w2 HI.out.2.2.2.2 (KeepsL.of_grownBy hg2 (fun r e=>(hw2 r e).2));obtain ⟨fn,tmps,assign,body,hy,hRR⟩:=HY.out ⟨ss,c,W.heap.size,fun z=>left z&&!z.sameKey (kyS c),cnt2⟩ w2 ⟨⟨hJ2,by have:=HI.out.2.1;show ss.length<l.length;omega⟩,hrg2⟩ hG2;have HC2:=hiD (HI.out.2.2.1.step hlk hat);have HLT:=hiD (aI hlt HI.out.2.1);have hleft:=hiD (aI HI.out.1.left_eq hrg2.left_eq);have HRG2:=hiD hrg2;clear hkey hlk hv hat hrg2 hlt hg2 hs2 hw2 hJ2 hG2 ec;dsimp only at hy hRR;gi_wp2;refine hRR.mono ?_;rintro e W4 (⟨rfl,⟨hJ4,hrg4⟩,hG4⟩|⟨rfl,cc,hf,_⟩)
   ·have H4:=hiD (aI hrg4 (aI hJ4 hG4));clear hrg4 hJ4 hG4 hy;gi_wp2;refine ⟨⟨_,cnt2,ss++[c],hiD ⟨H4.out.1,by have:=HLT.out;rw [List.length_append,List.length_singleton];omega,HC2.out,H4.out.2.1,H4.out.2.2⟩⟩,?_⟩;rw [H4.out.1.left_eq,hleft.out.1];exact HLT.out.1
   ·exact hf.elim
/-- The iterator over no map gives nothing. -/
theorem keys_nil_seq (n g B:Nat) (J:World->Prop)
 (hJ:∀W W' row,J W->W.grownBy W' row->(∀r,row=some r->B<=r/\∃o:Obj,W.heap[r]?=some o/\o.isWalk=true)->J W'):
 TiedSeqL Fence.wide n Tryz.prog 103 #[] #[.pointer (some ⟨g,0,none⟩)] (fun x:KeyX=>#[.int .u32 (x.c:Int)]) B
  (fun W=>J W/\W.cell? ⟨g,0,none⟩=some (.map none)) J (fun _ _=>False) (fun _ _=>False) (fun _ _=>False) (fun _ _=>False):=by
 intro y G Gx hG hGx hY W h0 hGW;obtain ⟨hJ0,hc0⟩:=h0;refine callsIn_of_wp Tryz.func103 rfl trivial ?_ rfl;simp only [Tryz.ntmps103,List.size_toArray,List.length_cons,List.length_nil,Nat.reduceAdd,Nat.reduceSub,Array.replicate_succ,Array.replicate_zero,List.push_toArray,List.append_toArray,List.nil_append,List.cons_append];have hrg:=run_range_nilMap (P:=Tryz.prog) W 123 54 111 Tryz.underlying123;have hnx:∀ty,(Instr.next (.pointer (some ⟨W.heap.size,0,none⟩)) false ty).run Tryz.prog (W.alloc (.mapIter none 0 #[] 0))=_:=fun ty=>run_next_nilMap _ ty 0 0 #[]
 have HF:Hid (J (W.alloc (.mapIter none 0 #[] 0))/\G (W.alloc (.mapIter none 0 #[] 0))):=hiD ⟨hJ W _ none hJ0 (World.grownBy_alloc W _ none) (fun r e=>by cases e),hG W _ hGW (KeepsL.of_grownBy (World.grownBy_alloc W _ none) (fun r e=>by cases e))⟩;clear hG hGx hY hGW hJ hJ0;gi_wp2;refine wpIn_loop_rounds 1 ?_;rw [roundsIn_succ];gi_wp2;go_end0;exact ⟨⟨_,rfl⟩,.inl HF.out⟩
end Go.Proofs.YtfjmdkhemnmkpaaGreatDoor
namespace Go.Proofs.YtfjmdkhemnmkpaaGreatDoor
open Go.RowKit Go.Sort
abbrev nV (x:Int):Value:=.int .u32 x
def rowZ (pre:List Value) (d:Array Int) (rest:List Value):Array Value:=(pre++d.toList.map nV++rest).toArray
theorem rowZ_get {pre rest:List Value} {d:Array Int} {t:Nat} (h:t<d.size):(rowZ pre d rest)[pre.length+t]?=some (nV d[t]!):=by
 unfold rowZ;have h1:t<d.toList.length:=by simpa using h
 rw [List.getElem?_toArray,List.append_assoc,List.getElem?_append_right (by omega),Nat.add_sub_cancel_left,List.getElem?_append_left (by simpa using h),List.getElem?_map,List.getElem?_eq_getElem h1,getElem!_pos d t h];simp
theorem rowZ_set {pre rest:List Value} {d:Array Int} {t:Nat} (x:Int) (h:t<d.size):(rowZ pre d rest).setIfInBounds (pre.length+t) (nV x)=rowZ pre (d.setIfInBounds t x) rest:=by
 unfold rowZ;rw [List.setIfInBounds_toArray]
 congr 1
 rw [List.append_assoc,List.append_assoc,List.set_append_right _ _ (by omega),Nat.add_sub_cancel_left,List.set_append_left _ _ (by simpa using h)]
 congr 2
 rw [Array.toList_setIfInBounds,List.map_set]
structure SR (w:World) (b off n:Nat) (pre rest:List Value) (d:Array Int) (W:World):Prop where
 size:d.size=n
 off:off=pre.length
 row:W.heap[b]?=some (.cells (rowZ pre d rest) 54 (0,0))
 grown:w.grownBy W (some b)
section
variable {w W W':World} {b off n:Nat} {pre rest:List Value} {d:Array Int}
theorem SR.cell (h:SR w b off n pre rest d W) {t:Nat} (ht:t<n):W.cell? ⟨b,off+t,none⟩=some (nV d[t]!):=by
 rw [blk_cell h.row,h.off];exact rowZ_get (by rw [h.size];exact ht)
theorem SR.frozen (h:SR w b off n pre rest d W) (t:Nat):W.frozen? ⟨b,off+t,none⟩=false:=blk_frozen h.row _
theorem SR.lt (h:SR w b off n pre rest d W):b<W.heap.size:=(geS.1 h.row).1
theorem SR.drewN (h:SR w b off n pre rest d W) (q:Nat):SR w b off n pre rest d (W.drewN q):=⟨h.size,h.off,h.row,⟨h.grown.os,h.grown.tape,h.grown.output,h.grown.size,h.grown.block⟩⟩
theorem SR.drew (h:SR w b off n pre rest d W):SR w b off n pre rest d W.drew:=h.drewN 1
theorem SR.grew (h:SR w b off n pre rest d W) (hb:Go.RowKit.Below W.heap.size W W'):SR w b off n pre rest d W':=⟨h.size,h.off,(hb.block b h.lt).trans h.row,grownBy_trans h.grown (grownBy_of_below hb)⟩
theorem SR.other (h:SR w b off n pre rest d W) {q:Nat} (hq:w.heap.size<=q) (hb:q≠b) (i:Nat) (v:Value):SR w b off n pre rest d (W.setCell ⟨q,i,none⟩ v):=by
 refine ⟨h.size,h.off,(Go.RowKit.Below.heap_setCell _ _ _ _ (fun e=>hb (by simpa using e.symm))).trans h.row,⟨h.grown.os,h.grown.tape,h.grown.output,?_,fun k hk hne=>(Go.RowKit.Below.heap_setCell _ _ _ _ (fun e=>?_)).trans (h.grown.block k hk hne)⟩⟩
 ·simpa [World.setCell] using h.grown.size
 ·have:k=q:=by simpa using e
  omega
theorem SR.set (h:SR w b off n pre rest d W) {t:Nat} (ht:t<n) (x:Int):SR w b off n pre rest (d.setIfInBounds t x) (W.setCell ⟨b,off+t,none⟩ (nV x)):=by
 refine ⟨by rw [Array.size_setIfInBounds];exact h.size,h.off,?_,grownBy_trans h.grown (grownBy_set _ _ _ _)⟩;rw [blk_set h.row,h.off,rowZ_set x (by rw [h.size];exact ht)]
theorem SR.swap (h:SR w b off n pre rest d W) {j k:Nat} (hj:j<n) (hk:k<n) (q:Nat):SR w b off n pre rest (swp d j k) (((W.drewN q).setCell ⟨b,off+j,none⟩ (nV d[k]!)).setCell ⟨b,off+k,none⟩ (nV d[j]!)):=
 ((h.drewN q).set hj _).set hk _
theorem SR.alloc (h:SR w b off n pre rest d W) (o:Obj):SR w b off n pre rest d (W.alloc o):=h.grew ((Go.RowKit.Below.refl _ W).alloc (nLr _) o)
end
theorem isNaN_n (x:Int) (w:World):Calls Tryz.prog 166 #[nV x] w fun e w'=>e=.returned (.bool false)/\w'=w:=by
 go_enter Tryz.func166,Tryz.ntmps166;go_wp2;go_ret;exact ⟨by simp,rfl⟩
theorem less_n (x y:Int) (w:World):Calls Tryz.prog 140 #[nV x,nV y] w fun e w'=>e=.returned (.bool (ltInt x y))/\w'=w:=by
 go_enter Tryz.func140,Tryz.ntmps140
 go_wp2_with (go_at_call 166;refine (isNaN_n _ _).mono ?_;rintro e w' ⟨rfl,rfl⟩)
 go_ret;exact ⟨rfl,rfl⟩
/-! The insertion sort's loops, a step at a time. -/
section
variable (lt:Int->Int->Bool)
theorem insI_go {a j:Nat} {d:Array Int} (hj:a<j) (hl:lt d[j]! d[j - 1]! =true):insInner lt a j d=insInner lt a (j - 1) (swp d j (j - 1)):=by
 cases j with
 |zero=>omega
 |succ k=>
  have hl':lt d[k+1]! d[k]! =true:=hl;rw [insInner,if_pos (by rw [hl',Bool.and_true];exact decide_eq_true hj)]
  rfl
theorem insI_end {a j:Nat} {d:Array Int} (h:j<=a\/lt d[j]! d[j - 1]! =false):insInner lt a j d=d:=by
 cases j with
 |zero=>rfl
 |succ k=>
  rw [insInner,if_neg]
  rcases h with h|h
  ·simp;omega
  ·have h':lt d[k+1]! d[k]! =false:=h;rw [h',Bool.and_false];exact Bool.false_ne_true
theorem insO_go {a e i:Nat} {d:Array Int} (h:i<e):insOuter lt a e i d=insOuter lt a e (i+1) (insInner lt a i d):=by
 conv=>lhs;rw [insOuter]
 rw [if_pos h]
theorem insO_end {a e i:Nat} {d:Array Int} (h:¬i<e):insOuter lt a e i d=d:=by
 rw [insOuter,if_neg h]
end
theorem ins_n {w W0:World} {b off n:Nat} {pre rest:List Value} {d:Array Int} (cap a e:Nat) (hs:SR w b off n pre rest d W0) (hae:a<=e) (he:e<=n) (hsz:n<4611686018427387904):
 Calls Tryz.prog 134 #[.slice (some ⟨b,off,none⟩) n cap,.int .i64 (a:Int),.int .i64 (e:Int)] W0 fun x W=>x=.returned (.tuple #[])/\SR w b off n pre rest (insertionSort ltInt d a e) W:=by
 have HS:=hiD hs;clear hs;go_enter Tryz.func134,Tryz.ntmps134;go_wp2
 go_loopw [6] (fun vi wr=>∃(i:Nat) (dk:Array Int),vi=.int .i64 (i:Int)/\a<i/\i<=e+1/\Hid (SR w b off n pre rest dk wr/\insOuter ltInt a e i dk=insertionSort ltInt d a e)) (fun vi _=>e+1 - (intOf vi).toNat)
 case atStart=>exact ⟨a+1,d,by go_num,by omega,by omega,hiD ⟨HS.out,rfl⟩⟩
 case round=>
  obtain ⟨i,dk,rfl,hai,hie,HI⟩:=hrel
  by_cases hlt:i<e
  ·have hlz:(i:Int)<(e:Int):=by omega
   go_wp2
   go_loopw [7] (fun vj wr2=>∃(j:Nat) (dj:Array Int),vj=.int .i64 (j:Int)/\a<=j/\j<=i/\Hid (SR w b off n pre rest dj wr2/\insInner ltInt a j dj=insInner ltInt a i dk)) (fun vj _=>(intOf vj).toNat)
   case atStart=>exact ⟨i,dk,rfl,by omega,nLr _,hiD ⟨HI.out.1,rfl⟩⟩
   case round=>
    obtain ⟨j,dj,rfl,haj,hji,HJ⟩:=hrel;obtain ⟨G,hG⟩:∃G:Nat->Int,∀t,G t=dj[t]!:=⟨fun t=>dj[t]!,fun _=>rfl⟩;have hcw:∀t,t<n->wr.cell? ⟨b,off+t,none⟩=some (.int .u32 (G t)):=fun t ht=>by rw [hG];exact HJ.out.1.cell ht
    have hfw:∀t,t<n->wr.frozen? ⟨b,off+t,none⟩=false:=fun t _=>HJ.out.1.frozen t
    have HG:=hiD hG;clear hG
    -- the inner loop is at its end
    have hout:(j<=a\/ltInt dj[j]! dj[j - 1]! =false)->∀q,∃(i':Nat) (dk':Array Int),Value.int .i64 ((i:Int)+1)=.int .i64 (i':Int)/\a<i'/\i'<=e+1/\Hid (SR w b off n pre rest dk' (wr.drewN q)/\insOuter ltInt a e i' dk'=insertionSort ltInt d a e):=fun hst q=>
     ⟨i+1,dj,by go_num,by omega,by omega,hiD ⟨HJ.out.1.drewN q,by rw [<-HI.out.2,insO_go ltInt hlt,<-HJ.out.2,insI_end ltInt hst]⟩⟩
    have OUT:Hid _:=hiD hout;clear hout;go_wp2
    by_cases hja:a<j
    ·go_quiet (first|(go_at_call 140;refine Calls.quiet_of_same (less_n _ _ _)));go_wp2
     ·have hl:ltInt (G j) (G (j - 1))=true:=by assumption
      go_region
      all_goals go_wp2
      go_roundw
      case rel=>
       refine ⟨j - 1,swp dj j (j - 1),by congr 1;omega,by omega,by omega,hiD ⟨?_,?_⟩⟩
       ·rw [HG.out,HG.out];exact HJ.out.1.swap (by omega) (by omega) (nq+1)
       ·rw [<-HJ.out.2,insI_go ltInt hja (by rw [<-HG.out,<-HG.out];exact hl)]
      case measure=>simp [intOf];omega
     ·have hl:ltInt (G j) (G (j - 1))=false:=by assumption
      go_roundw
      case rel=>exact OUT.out (.inr (by rw [<-HG.out,<-HG.out];exact hl)) nq
      case measure=>simp [intOf];omega
    ·go_quiet (first|(go_at_call 140;refine Calls.quiet_of_same (less_n _ _ _)));go_wp2
     go_roundw
     case rel=>exact OUT.out (.inl (by omega)) nq
     case measure=>simp [intOf];omega
  ·have hlz:¬(i:Int)<(e:Int):=by omega
   go_wp2;go_end0;exact ⟨rfl,by rw [<-HI.out.2,insO_end ltInt hlt];exact HI.out.1⟩
/-! The heap's loops, a step at a time. -/
section
variable (lt:Int->Int->Bool)
def kid (hi f r:Nat) (d:Array Int):Nat:=if 2*r+2<hi/\lt d[f+(2*r+1)]! d[f+(2*r+2)]! =true then 2*r+2 else 2*r+1
theorem sift_end {hi f r:Nat} {d:Array Int} (h:hi<=2*r+1):siftDown lt hi f r d=d:=by
 rw [siftDown,dif_pos h]
theorem sift_next {hi f r:Nat} {d:Array Int} (h:2*r+1<hi):siftDown lt hi f r d=if lt d[f+r]! d[f+kid lt hi f r d]! =true then siftDown lt hi f (kid lt hi f r d) (swp d (f+r) (f+kid lt hi f r d)) else d:=by
 have e:f+(2*r+1)+1=f+(2*r+2):=by omega
 conv=>lhs;rw [siftDown,dif_neg (by omega),e]
 unfold kid
 by_cases hc:2*r+2<hi/\lt d[f+(2*r+1)]! d[f+(2*r+2)]! =true
 ·have h1:(decide (2*r+1+1<hi)&&lt d[f+(2*r+1)]! d[f+(2*r+2)]!)=true:=by
   rw [hc.2,Bool.and_true];exact decide_eq_true hc.1
  rw [if_pos h1,if_pos hc]
  cases hl:lt d[f+r]! d[f+(2*r+2)]! with
  |true=>
   rw [if_neg (by simp),if_pos rfl];exact dif_pos hc.1
  |false=>
   rw [if_pos (by simp),if_neg (by simp)]
 ·have h1:¬(decide (2*r+1+1<hi)&&lt d[f+(2*r+1)]! d[f+(2*r+2)]!)=true:=fun h2=>hc (by
   rw [Bool.and_eq_true,decide_eq_true_eq] at h2;exact h2)
  rw [if_neg h1,if_neg hc]
  cases hl:lt d[f+r]! d[f+(2*r+1)]! with
  |true=>rw [if_neg (by simp),if_pos rfl]
  |false=>rw [if_pos (by simp),if_neg (by simp)]
theorem kid_lt {hi f r:Nat} {d:Array Int} (h:2*r+1<hi):kid lt hi f r d<hi/\r<kid lt hi f r d:=by
 unfold kid
 split
 ·rename_i hc;exact ⟨hc.1,by omega⟩
 ·exact ⟨h,by omega⟩
end
theorem sift_n {w W0:World} {b off n:Nat} {pre rest:List Value} {d:Array Int} (cap lo hi f:Nat) (hs:SR w b off n pre rest d W0) (hf:f+hi<=n) (hlo:lo<=n) (hsz:n<1152921504606846976):
 Calls Tryz.prog 161 #[.slice (some ⟨b,off,none⟩) n cap,.int .i64 (lo:Int),.int .i64 (hi:Int),.int .i64 (f:Int)] W0 fun x W=>x=.returned (.tuple #[])/\SR w b off n pre rest (siftDown ltInt hi f lo d) W:=by
 have HS:=hiD hs;clear hs;go_enter Tryz.func161,Tryz.ntmps161;go_wp2
 go_loopw [8] (fun vr wr=>∃(r:Nat) (dk:Array Int),vr=.int .i64 (r:Int)/\r<=n/\Hid (SR w b off n pre rest dk wr/\siftDown ltInt hi f r dk=siftDown ltInt hi f lo d)) (fun vr _=>hi - (intOf vr).toNat)
 case atStart=>exact ⟨lo,d,rfl,hlo,hiD ⟨HS.out,rfl⟩⟩
 case round=>
  obtain ⟨r,dk,rfl,hrn,HI⟩:=hrel
  by_cases hlt:2*r+1<hi
  ·have hlz:¬(hi:Int)<=2*(r:Int)+1:=by omega
   obtain ⟨G,hG⟩:∃G:Nat->Int,∀t,G t=dk[t]!:=⟨fun t=>dk[t]!,fun _=>rfl⟩;have hcw:∀t,t<n->wr.cell? ⟨b,off+t,none⟩=some (.int .u32 (G t)):=fun t ht=>by rw [hG];exact HI.out.1.cell ht
   have hfw:∀t,t<n->wr.frozen? ⟨b,off+t,none⟩=false:=fun t _=>HI.out.1.frozen t
   have HG:=hiD hG;obtain ⟨c,hc⟩:∃c,c=kid ltInt hi f r dk:=⟨_,rfl⟩;obtain ⟨hk1,hk2⟩:=kid_lt ltInt (f:=f) (d:=dk) hlt;rw [<-hc] at hk1 hk2;have HC:=hiD hc;clear hG hc;obtain ⟨tb,htb⟩:∃t,t=(decide (2*r+2<hi)&&ltInt (G (f+2*r+1)) (G (f+2*r+2))):=⟨_,rfl⟩
   have hcb:(c:Int)=if tb then 2*(r:Int)+1+1 else 2*(r:Int)+1:=by
    have e1:f+2*r+1=f+(2*r+1):=by omega
    have e2:f+2*r+2=f+(2*r+2):=by omega
    rw [e1,e2,HG.out,HG.out] at htb;rw [HC.out,kid]
    by_cases h2:2*r+2<hi/\ltInt dk[f+(2*r+1)]! dk[f+(2*r+2)]! =true
    ·rw [if_pos h2,htb,decide_eq_true h2.1,h2.2];simp;omega
    ·have:tb=false:=by
      cases htt:tb with
      |false=>rfl
      |true=>
       rw [htt] at htb;have:=htb.symm;rw [Bool.and_eq_true,decide_eq_true_eq] at this;exact absurd this h2
     rw [if_neg h2,this];simp
   have HT:=hiD (aI htb hcb);clear htb hcb;go_upto_region 3 with (fail)
   go_cut [36] (fun s36 wx=>s36=.bool tb/\Hid (SR w b off n pre rest dk wx))
   case first=>
    by_cases h2:2*r+2<hi
    ·have h2z:2*(r:Int)+1+1<(hi:Int):=by omega
     go_quiet (first|(go_at_call 140;refine Calls.quiet_of_same (less_n _ _ _)));go_wp2;go_meet;exact ⟨by rw [HT.out.1,decide_eq_true h2,Bool.true_and],hiD (HI.out.1.drewN _)⟩
    ·have h2z:¬2*(r:Int)+1+1<(hi:Int):=by omega
     go_quiet (first|(go_at_call 140;refine Calls.quiet_of_same (less_n _ _ _)));go_wp2;go_meet;exact ⟨by rw [HT.out.1,decide_eq_false h2,Bool.false_and],hiD (HI.out.1.drewN _)⟩
   case rest=>
    obtain ⟨rfl,H3⟩:=hcut;clear hcw hfw;have hcw:∀t,t<n->wc.cell? ⟨b,off+t,none⟩=some (.int .u32 (G t)):=fun t ht=>by rw [HG.out];exact H3.out.cell ht
    have hfw:∀t,t<n->wc.frozen? ⟨b,off+t,none⟩=false:=fun t _=>H3.out.frozen t
    go_upto_if 36 with (fail)
    go_cut [9] (fun s9 wx=>s9=.int .i64 (c:Int)/\wc=wx)
    case first=>
     cases tb with
     |true=>
      go_wp2;go_meet;exact ⟨by rw [HT.out.2];rfl,rfl⟩
     |false=>
      go_wp2;go_meet;exact ⟨by rw [HT.out.2];rfl,rfl⟩
    case rest=>
     obtain ⟨rfl,rfl⟩:=hcut;have hi1:f+r<n:=by omega
     have hi2:f+c<n:=by omega
     go_upto_region 5 with (fail)
     cases hl:ltInt (G (f+r)) (G (f+c)) with
     |true=>
      go_quiet (first|(go_at_call 140;refine Calls.quiet_of_same (less_n _ _ _)));go_wp2
      go_region
      all_goals go_wp2
      go_roundw
      case rel=>
       have e:siftDown ltInt hi f r dk=siftDown ltInt hi f c (swp dk (f+r) (f+c)):=by
        rw [sift_next ltInt hlt,<-HC.out,if_pos (by rw [<-HG.out,<-HG.out];exact hl)]
       refine ⟨c,swp dk (f+r) (f+c),rfl,by omega,hiD ⟨?_,by rw [<-e];exact HI.out.2⟩⟩;rw [HG.out,HG.out];exact H3.out.swap (by omega) (by omega) (nq+1)
      case measure=>simp [intOf];omega
     |false=>
      have e:siftDown ltInt hi f r dk=dk:=by
       rw [sift_next ltInt hlt,<-HC.out,if_neg (by rw [<-HG.out,<-HG.out,hl];simp)]
      have HE:=hiD e;clear e;go_quiet (first|(go_at_call 140;refine Calls.quiet_of_same (less_n _ _ _)));go_wp2
      go_returns
      exact ⟨rfl,by rw [<-HI.out.2,HE.out];exact H3.out.drewN _⟩
  ·have hlz:(hi:Int)<=2*(r:Int)+1:=by omega
   go_wp2;go_end0;exact ⟨rfl,by rw [<-HI.out.2,sift_end ltInt (by omega)];exact HI.out.1⟩
theorem heap_n {w W0:World} {b off n:Nat} {pre rest:List Value} {d:Array Int} (cap a e:Nat) (hs:SR w b off n pre rest d W0) (hae:a<e) (he:e<=n) (hsz:n<1152921504606846976):
 Calls Tryz.prog 135 #[.slice (some ⟨b,off,none⟩) n cap,.int .i64 (a:Int),.int .i64 (e:Int)] W0 fun x W=>x=.returned (.tuple #[])/\SR w b off n pre rest (heapSort ltInt d a e) W:=by
 obtain ⟨h,hh⟩:∃h,h=e - a:=⟨_,rfl⟩;have he':(e:Int) - (a:Int)=(h:Int):=by omega
 have hh1:1<=h:=by omega
 have hhn:a+h<=n:=by omega
 have HH:=hiD hh;have HS:=hiD hs;clear hs hh hae he;go_enter Tryz.func135,Tryz.ntmps135;go_wp2
 go_loopw [9] (fun vi wr=>∃(k:Nat) (dk:Array Int),vi=.int .i64 ((k:Int) - 1)/\k<=h/\Hid (SR w b off n pre rest dk wr/\heapBuild ltInt h a k dk=heapBuild ltInt h a ((h - 1)/2+1) d)) (fun vi _=>(intOf vi+1).toNat)
 case atStart=>exact ⟨(h - 1)/2+1,d,by congr 1;omega,by omega,hiD ⟨HS.out,rfl⟩⟩
 case round=>
  obtain ⟨k,dk,rfl,hkh,HI⟩:=hrel
  cases k with
  |succ k=>
   rw [show ((k+1:Nat):Int) - 1=(k:Int) by omega];have HC:=hiD (sift_n cap k h a HI.out.1 hhn (by omega) hsz)
   go_wp2_with (go_at_call 161;refine HC.out.mono ?_;rintro e1 W1 ⟨rfl,hs1⟩)
   go_roundw
   case rel=>exact ⟨k,_,rfl,by omega,hiD ⟨hs1,by rw [<-HI.out.2];rfl⟩⟩
   case measure=>simp [intOf]
  |zero=>
   rw [show ((0:Nat):Int) - 1= -1 by omega];have HB:=hiD HI.out.2;obtain ⟨d1,hd1⟩:∃x,x=heapBuild ltInt h a ((h - 1)/2+1) d:=⟨_,rfl⟩;have h1:dk=d1:=by rw [hd1,<-HI.out.2];rfl
   have HD1:=hiD (aI hd1 (h1 ▸ HI.out.1));clear hd1 h1 HB hkh;go_wp2
   go_loopw [10] (fun vi wr2=>∃(k:Nat) (dk:Array Int),vi=.int .i64 ((k:Int) - 1)/\k<=h/\Hid (SR w b off n pre rest dk wr2/\heapPop ltInt a k dk=heapPop ltInt a h d1)) (fun vi _=>(intOf vi+1).toNat)
   case atStart=>exact ⟨h,d1,rfl,nLr _,hiD ⟨HD1.out.2,rfl⟩⟩
   case round=>
    obtain ⟨k,dj,rfl,hkh,HJ⟩:=hrel
    cases k with
    |succ k=>
     rw [show ((k+1:Nat):Int) - 1=(k:Int) by omega];obtain ⟨G,hG⟩:∃G:Nat->Int,∀t,G t=dj[t]!:=⟨fun t=>dj[t]!,fun _=>rfl⟩;have hcw:∀t,t<n->wr.cell? ⟨b,off+t,none⟩=some (.int .u32 (G t)):=fun t ht=>by rw [hG];exact HJ.out.1.cell ht
     have hfw:∀t,t<n->wr.frozen? ⟨b,off+t,none⟩=false:=fun t _=>HJ.out.1.frozen t
     have HG:=hiD hG;clear hG
     rcases Nat.eq_zero_or_pos k with hk0|hk0
     ·subst hk0;obtain ⟨W2,hW2⟩:∃W2,W2=((wr.setCell ⟨b,off+a,none⟩ (.int .u32 (G a))).setCell ⟨b,off+a,none⟩ (.int .u32 (G a))).drew:=⟨_,rfl⟩
      have hs2:SR w b off n pre rest (swp dj a (a+0)) W2:=by
       rw [hW2,HG.out];exact HJ.out.1.swap (by omega) (by omega) 1
      have HC:=hiD (sift_n cap 0 0 a hs2 (by omega) (by omega) hsz);clear hs2;go_wp2
      go_region
      rw [<-hW2];clear hW2 hcw hfw
      go_wp2_with (go_at_call 161;refine HC.out.mono ?_;rintro e1 W3 ⟨rfl,hs3⟩)
      go_roundw
      case rel=>exact ⟨0,_,rfl,by omega,hiD ⟨hs3,by rw [<-HJ.out.2];rfl⟩⟩
      case measure=>simp [intOf]
     ·obtain ⟨W2,hW2⟩:∃W2,W2=((wr.setCell ⟨b,off+a,none⟩ (.int .u32 (G (a+k)))).setCell ⟨b,off+(a+k),none⟩ (.int .u32 (G a))).drew:=⟨_,rfl⟩
      have hs2:SR w b off n pre rest (swp dj a (a+k)) W2:=by
       rw [hW2,HG.out,HG.out];exact HJ.out.1.swap (by omega) (by omega) 1
      have HC:=hiD (sift_n cap 0 k a hs2 (by omega) (by omega) hsz);clear hs2;go_wp2
      go_region
      rw [<-hW2];clear hW2 hcw hfw
      go_wp2_with (go_at_call 161;refine HC.out.mono ?_;rintro e1 W3 ⟨rfl,hs3⟩)
      go_roundw
      case rel=>exact ⟨k,_,rfl,by omega,hiD ⟨hs3,by rw [<-HJ.out.2];rfl⟩⟩
      case measure=>simp [intOf]
    |zero=>
     rw [show ((0:Nat):Int) - 1= -1 by omega];go_wp2;go_end0;refine ⟨rfl,?_⟩;unfold heapSort;rw [<-HH.out,<-HD1.out.1,<-HJ.out.2];exact HJ.out.1
end Go.Proofs.YtfjmdkhemnmkpaaGreatDoor
