/- Parts of the proof: WxCopy, WxBegR, WxBeg, Loop4, KsHr, KtA, KsSup. -/
import Derived.Test.YtfjmdkhemnmkpaaGreatDoorR28
import Derived.Test.YtfjmdkhemnmkpaaGreatDoorR02
import Derived.Test.YtfjmdkhemnmkpaaGreatDoorR27
import Derived.Test.YtfjmdkhemnmkpaaGreatDoorR22
import Derived.Test.YtfjmdkhemnmkpaaGreatDoorR01
import Derived.RangeFuncSeq
import Derived.Shelf.AbstractIn
import Derived.Sort.MapsRangeIn
import Derived.Test.YtfjmdkhemnmkpaaGreatDoorR15
import Derived.Test.YtfjmdkhemnmkpaaGreatDoorR04
import Derived.Deep.QuietTactic
import Derived.BigQuiet
import Derived.Handy
import Derived.Test.YtfjmdkhemnmkpaaGreatDoorR14
set_option maxRecDepth 100000
set_option maxHeartbeats 8000000
namespace Go.Proofs.YtfjmdkhemnmkpaaGreatDoor
open Go.RowKit
def CmdV.at (v:CmdV) (A:Option Addr) (c:Nat):CmdV:={v with A:=A,c:=c}
def InC (B C:Nat) (A:Option Addr) (l:List CmdV):Prop:=(∀x o m,A=some ⟨x,o,m⟩->B<=x/\x<C)/\∀v∈l,∀x o m,v.A=some ⟨x,o,m⟩->B<=x/\x<C
structure CopyI (w:World) (g:Nat) (l:List CmdV) (t:Nat) (lt:List CmdV) (W:World):Prop where
 len:lt.length=l.length
 ms:lt.map (·.m)=l.map (·.m)
 ng:∀v∈lt,¬v.great
 below:Below w.heap.size w W
 blk:∃cs,W.heap[g]?=some (.cells cs 57 (0,0))/\∀j (h:j<lt.length) i u,lt[j].cells[i]?=some u->cs[j*7+i]?=some u
 ok:∀j (h:j<lt.length),lt[j].ok W
 old:∀j (h:j<lt.length) (h':j<l.length),t<=j->lt[j]=l[j]
 new:∀j (h:j<lt.length),j<t->∀x o m,lt[j].A=some ⟨x,o,m⟩->w.heap.size<=x/\x<W.heap.size/\x≠g
theorem cells_at_set {cs:Array Value} {lt:List CmdV} (h:∀j (h:j<lt.length) i u,lt[j].cells[i]?=some u->cs[j*7+i]?=some u) {t:Nat} (ht:t<lt.length) (A:Option Addr) (c:Nat):
 ∀j (h:j<(lt.set t (lt[t].at A c)).length) i u,(lt.set t (lt[t].at A c))[j].cells[i]?=some u->(cs.setIfInBounds (t*7+3) (.slice A lt[t].L c))[j*7+i]?=some u:=by
 intro j hj i u hu;rw [List.length_set] at hj
 have hi:i<7:=by
  have:=(geS.1 hu).1
  simpa [CmdV.cells] using this
 rw [List.getElem_set] at hu
 have hsz:t*7+3<cs.size:=by
  have:=h t ht 3 _ rfl;exact (geS.1 this).1
 rw [Array.getElem?_setIfInBounds]
 by_cases hjt:t=j
 ·subst hjt;rw [if_pos rfl] at hu
  by_cases hi3:i=3
  ·subst hi3;rw [if_pos rfl,if_pos hsz];exact hu
  ·rw [if_neg (by omega)];refine h t ht i u ?_;rw [<-hu]
   rcases i with _|_|_|_|_|_|_|i
   ·rfl
   ·rfl
   ·rfl
   ·exact absurd rfl hi3
   ·rfl
   ·rfl
   ·rfl
   ·omega
 ·rw [if_neg hjt] at hu;rw [if_neg (by omega)];exact h j hj i u hu
section
variable {w W W':World} {g t:Nat} {l lt:List CmdV}
theorem CopyI.step (h:CopyI w g l t lt W) (ht:t<lt.length) (hb:Below W.heap.size W W') (A:Option Addr) (c:Nat) (hA:HasS W' A lt[t].ks) (hx:∀x o m,A=some ⟨x,o,m⟩->W.heap.size<=x/\x<W'.heap.size) (hg:w.heap.size<=g) (hl:∀j (h:j<l.length),l[j].ok w):
 CopyI w g l (t+1) (lt.set t (lt[t].at A c)) (W'.setCell ⟨g,t*7+3,none⟩ (.slice A lt[t].L c)):=by
 obtain ⟨cs,h1,h2⟩:=h.blk;have hgl:g<W.heap.size:=(geS.1 h1).1;have hbw:Below w.heap.size w W':=h.below.trans (Below.mono hb h.below.size);have hbs:Below w.heap.size w (W'.setCell ⟨g,t*7+3,none⟩ (.slice A lt[t].L c)):=hbw.setCell (p:=⟨g,t*7+3,none⟩) hg _;have hsz:(W'.setCell ⟨g,t*7+3,none⟩ (.slice A lt[t].L c)).heap.size=W'.heap.size:=by simp
 have hfar:∀(k:List ByteArray) (B:Option Addr),HasS W' B k->(∀x o m,B=some ⟨x,o,m⟩->x≠g)->HasS (W'.setCell ⟨g,t*7+3,none⟩ (.slice A lt[t].L c)) B k:=fun k B hk hn hne=>by
  obtain ⟨x,o,e,k1,k2⟩:=hk hne;refine ⟨x,o,e,by rw [hsz];exact k1,fun j hj=>?_⟩;exact (World.cell?_of_block (Below.heap_setCell _ _ _ _ (hn x o none e))).trans (k2 j hj)
 refine ⟨by rw [List.length_set];exact h.len,?_,?_,hbs,⟨_,blk_set ((hb.block g hgl).trans h1) _ _,cells_at_set h2 ht A c⟩,?_,?_,?_⟩
 ·rw [List.map_set];show (lt.map (·.m)).set t (lt[t].m)=_;rw [<-h.ms]
  apply List.ext_getElem?
  intro j;rw [List.getElem?_set]
  by_cases hj:t=j
  ·subst hj;rw [if_pos rfl,if_pos (by simpa using ht)];simp [ht]
  ·rw [if_neg hj]
 ·intro v hv
  rcases List.mem_or_eq_of_mem_set hv with hv|rfl
  ·exact h.ng v hv
  ·exact fun hh=>h.ng lt[t] (List.getElem_mem ht) hh
 ·intro j hj;rw [List.length_set] at hj;rw [List.getElem_set];have k:=h.ok j hj
  by_cases hjt:t=j
  ·subst hjt;rw [if_pos rfl];exact ⟨k.cl,k.sq,k.kd,k.n,k.len,k.max,hfar _ _ hA (fun x o m e=>by have:=hx x o m e;omega),k.each,k.old,k.new⟩
  ·rw [if_neg hjt];refine ⟨k.cl,k.sq,k.kd,k.n,k.len,k.max,?_,k.each,k.old,k.new⟩
   by_cases hlt:j<t
   ·exact hfar _ _ (k.has.below hb) (fun x o m e=>(h.new j hj hlt x o m e).2.2)
   ·have hjl:j<l.length:=by rw [<-h.len];exact hj
    rw [h.old j hj hjl (by omega)];exact (hl j hjl).has.below hbs
 ·intro j hj hj' hle;rw [List.length_set] at hj;rw [List.getElem_set,if_neg (by omega)];exact h.old j hj hj' (by omega)
 ·intro j hj hlt x o m e;rw [List.length_set] at hj;rw [List.getElem_set] at e;rw [hsz]
  by_cases hjt:t=j
  ·subst hjt;rw [if_pos rfl] at e;have h3:=hx x o m e;have h4:=h.below.size;exact ⟨by omega,h3.2,by omega⟩
  ·rw [if_neg hjt] at e;have h3:=h.new j hj (by omega) x o m e;have h4:=hb.size;exact ⟨h3.1,by omega,h3.2.2⟩
end
theorem copy_any (A:Option Addr) (L c:Nat) (l:List CmdV) (w:World) (hL:L=l.length) (hm:L<=100) (hA:HasC w A l) (hng:∀v∈l,¬v.great):
 Calls Tryz.prog 47 #[.slice A L c] w fun e W'=>∃A' c',e=.returned (.slice A' L c')/\L<=c'/\∃l':List CmdV,l'.map (·.m)=l.map (·.m)/\(∀v∈l',¬v.great)/\HasC W' A' l'/\Below w.heap.size w W'/\InC w.heap.size W'.heap.size A' l':=by
 have HS:=hiD (aI hL (aI hA hng));have hLi:(L:Int)<=100:=by omega
 clear hL hA hng;go_enter Tryz.func47,Tryz.ntmps47
 go_wp2_with fail
 refine (cloneC_any A L c l w HS.out.1 (by omega) HS.out.2.1).mono ?_;rintro e W1 ⟨A',c',rfl,hc',hcs,hb1,hx1⟩;have H1:=hiD (aI hc' (aI hb1 hx1))
 by_cases h0:L=0
 ·subst h0;have hl:l=[]:=List.length_eq_zero_iff.1 HS.out.1.symm;have HL:=hiD hl;clear hc' hcs hb1 hx1 hl;go_wp2
  go_loopw [9] (fun v wr=>v=.int .i64 0/\wr=W1) (fun _ _=>0)
  case atStart=>exact ⟨rfl,rfl⟩
  case round=>
   obtain ⟨rfl,rfl⟩:=hrel;go_wp2;go_ret;exact ⟨A',c',rfl,H1.out.1,[],by rw [HL.out],fun _ h=>by simp at h,fun h=>absurd rfl h,H1.out.2.1,H1.out.2.2,fun _ h=>by simp at h⟩
 ·obtain ⟨g,cs,rfl,hg,hcc⟩:=hcs h0;have hgx:=hx1 g 0 none rfl;have hl0:0<l.length:=by have:=HS.out.1;omega
  have hokl:∀j (h:j<l.length),l[j].ok w:=by
   obtain ⟨_,_,_,_,hf⟩:=HS.out.2.1 (by rintro rfl;simp at hl0);exact fun j hj=>(hf j hj).2
  have HK:=hiD (aI hgx hokl);have hI0:CopyI w g l 0 l W1:=⟨rfl,rfl,HS.out.2.2,hb1,⟨cs,hg,hcc⟩,fun j hj=>(hokl j hj).below hb1,fun _ _ _ _=>rfl,fun _ _ h=>by omega⟩;have HI0:=hiD hI0;clear hc' hcs hb1 hx1 hg hcc hgx hokl hI0 h0;go_wp2
  go_loopw [9] (fun v wr=>∃(t:Nat) (lt:List CmdV),v=.int .i64 (t:Int)/\t<=L/\Hid (CopyI w g l t lt wr)) (fun v _=>L - (intOf v).toNat)
  case atStart=>exact ⟨0,l,rfl,Nat.zero_le _,HI0⟩
  case round=>
   obtain ⟨t,lt,rfl,htL,HI⟩:=hrel
   by_cases hlt:t<L
   ·have hti:(t:Int)<L:=by omega
    have htl:t<lt.length:=by rw [HI.out.len];have:=HS.out.1;omega
    obtain ⟨cs,h1,h2⟩:=HI.out.blk
    have c3:wr.cell? ⟨g,t*7+3,none⟩=some (.slice lt[t].A lt[t].L lt[t].c):=by
     rw [blk_cell h1];exact h2 t htl 3 _ rfl
    have hok:=HI.out.ok t htl;have hng:=HI.out.ng _ (List.getElem_mem htl)
    have hks:(lt[t]).ks.length<=100:=by
     have:¬100<(lt[t]).ks.length:=fun hh=>hng (.inr (.inr (.inl hh)))
     omega
    obtain ⟨v,hv⟩:∃v,v=lt[t]:=⟨_,rfl⟩;rw [<-hv] at c3 hok hks;have HC:=hiD (cloneS_any v.A v.L v.c v.ks wr hok.len (by have:=hok.len;omega) hok.has);have HB:=hiD (aI h1 (show ∃h:t<lt.length,v=lt[t] from ⟨htl,hv⟩));obtain ⟨kA,hkA⟩:∃x,x=v.A:=⟨_,rfl⟩;obtain ⟨kL,hkL⟩:∃x,x=v.L:=⟨_,rfl⟩;obtain ⟨kc,hkc⟩:∃x,x=v.c:=⟨_,rfl⟩;rw [<-hkA,<-hkL,<-hkc] at c3 HC;have HV:=hiD hkL;clear h1 h2 hok hng hks hv htl hkA hkL hkc
    go_wp2_with fail
    refine HC.out.mono ?_;rintro e W2 ⟨A2,c2,rfl,_,hS2,hb2,hx2⟩;have hgb:=(hb2.block g (geS.1 HB.out.1).1).trans HB.out.1;have c4:∃u,W2.cell? ⟨g,t*7+3,none⟩=some u:=⟨_,(hb2.cell (p:=⟨g,t*7+3,none⟩) (geS.1 HB.out.1).1).trans c3⟩;obtain ⟨u4,c4⟩:=c4;have f4:=blk_frozen hgb (t*7+3);obtain ⟨htl,hv⟩:=HB.out.2;have hstep:=HI.out.step htl hb2 A2 c2 (by rw [<-hv];exact hS2) hx2 HK.out.1.1 HK.out.2;rw [<-hv,<-HV.out] at hstep;have H2:=hiD hstep;clear hS2 hb2 hx2 hgb hstep c3 HC hv;go_wp2;exact ⟨⟨t+1,_,by congr 1,by omega,H2⟩,by simp only [intOf];omega⟩
   ·have hti:¬(t:Int)<L:=by omega
    obtain rfl:t=L:=by omega
    have HE:=hiD HI.out;clear HI;go_wp2;go_ret;have hE:=HE.out;obtain ⟨cs,h1,h2⟩:=hE.blk;have hsz:g<wr.heap.size:=(geS.1 h1).1;refine ⟨some ⟨g,0,none⟩,c',rfl,H1.out.1,lt,hE.ms,hE.ng,fun _=>⟨g,0,rfl,hsz,fun j hj=>⟨fun i u hu=>?_,hE.ok j hj⟩⟩,hE.below,⟨fun x o m e=>by cases e;exact ⟨HK.out.1.1,hsz⟩,fun v hv x o m e=>?_⟩⟩
    ·rw [blk_cell h1,Nat.zero_add];exact h2 j hj i u hu
    ·obtain ⟨j,hj,rfl⟩:=List.mem_iff_getElem.1 hv;have:=hE.new j hj (by have h3:=hE.len;have h4:=HS.out.1;omega) x o m e;exact ⟨this.1,this.2.1⟩
theorem run_bdEx (w:World) (p:Addr) (A A2:Option Addr) (m c m2 c2:Nat) (fn:Fn) (fi ca:Array Value):(Instr.build 73 #[(0,.pointer (some p)),(1,.slice A m c),(2,.func fn fi ca),(3,.slice A2 m2 c2)]).run Tryz.prog w=.ok (.agg #[.pointer (some p),.slice A m c,.func fn fi ca,.slice A2 m2 c2,.int .i64 0]) w:=by
 simp [go_sem,Instr.build]
theorem run_bxEx (w:World) (p:Addr) (A A2:Option Addr) (m c m2 c2:Nat) (fn:Fn) (fi ca:Array Value):(Instr.box 73 (.agg #[.pointer (some p),.slice A m c,.func fn fi ca,.slice A2 m2 c2,.int .i64 0])).run Tryz.prog w=.ok (.pointer (some ⟨w.heap.size,0,none⟩)) (w.alloc (.cells #[.pointer (some p),.slice A m c,.func fn fi ca,.slice A2 m2 c2,.int .i64 0] 73)):=by
 simp [go_sem]
section
variable {n:Nat} {Q:Exit->Act->World->Prop} {ops:Array Oper} {i:Nat} {o:Oper} {a:Act} {w:World} {K:Act->World->Prop}
theorem step_bdEx {x0 x1 x2 x3:Operand} {p:Addr} {A A2:Option Addr} {m c m2 c2:Nat} {fn:Fn} {fi ca:Array Value} (hi:ops[i]?=some o) (hw:Region.wanted o (yielded ops a.tmps)=true) (ho:o.op=.build 73 #[(0,x0),(1,x1),(2,x2),(3,x3)]) (h0:a.eval x0=.pointer (some p)) (h1:a.eval x1=.slice A m c) (h2:a.eval x2=.func fn fi ca) (h3:a.eval x3=.slice A2 m2 c2) (h:K (a.put o.dst (.agg #[.pointer (some p),.slice A m c,.func fn fi ca,.slice A2 m2 c2,.int .i64 0])) w):wpOpIn Fence.wide n Tryz.prog ops Q i K a w:=
 step_run hi hw (by rw [ho];intro c h;cases h) (by simp [Oper.about,ho]) (by simp [execOp,ho,h0,h1,h2,h3,run_bdEx]) h
theorem step_bxEx {x0:Operand} {p:Addr} {A A2:Option Addr} {m c m2 c2:Nat} {fn:Fn} {fi ca:Array Value} (hi:ops[i]?=some o) (hw:Region.wanted o (yielded ops a.tmps)=true) (ho:o.op=.box 73 x0) (h0:a.eval x0=.agg #[.pointer (some p),.slice A m c,.func fn fi ca,.slice A2 m2 c2,.int .i64 0]) (h:K (a.put o.dst (.pointer (some ⟨w.heap.size,0,none⟩))) (w.alloc (.cells #[.pointer (some p),.slice A m c,.func fn fi ca,.slice A2 m2 c2,.int .i64 0] 73))):wpOpIn Fence.wide n Tryz.prog ops Q i K a w:=
 step_run hi hw (by rw [ho];intro c h;cases h) (by simp [Oper.about,ho]) (by simp [execOp,ho,h0,run_bxEx]) h
theorem step_mkDn {x y:Operand} {M:Nat} (hM:M<=100000) (hi:ops[i]?=some o) (hw:Region.wanted o (yielded ops a.tmps)=true) (ho:o.op=.makeSlice 40 x y) (h0:a.eval x=.int .i64 (M:Int)) (h1:a.eval y=.int .i64 (M:Int)) (h:K (a.put o.dst (.slice (some ⟨w.heap.size,0,none⟩) M M)) (w.alloc (.cells (rowDn (fun _=>D0) M) 47))):wpOpIn Fence.wide n Tryz.prog ops Q i K a w:=
 step_run hi hw (by rw [ho];intro c h;cases h) (by simp [Oper.about,ho]) (by simp [execOp,ho,h0,h1,mk_D _ M hM]) h
end
theorem InC.mono {B B' C C':Nat} {A:Option Addr} {l:List CmdV} (h:InC B C A l) (hB:B'<=B) (hC:C<=C'):InC B' C' A l:=
 ⟨fun x o m e=>by have:=h.1 x o m e;omega,fun v hv x o m e=>by have:=h.2 v hv x o m e;omega⟩
def OffX (b:Nat) (A:Option Addr) (l:List CmdV):Prop:=(∀x o m,A=some ⟨x,o,m⟩->x≠b)/\∀v∈l,∀x o m,v.A=some ⟨x,o,m⟩->x≠b
theorem InC.above {B C b:Nat} {A:Option Addr} {l:List CmdV} (h:InC B C A l) (hb:b<B\/C<=b):OffX b A l:=
 ⟨fun x o m e=>by have:=h.1 x o m e;omega,fun v hv x o m e=>by have:=h.2 v hv x o m e;omega⟩
def BegQ (R:Nat) (M:Nat) (f:Value) (G:List CmdV->Prop) (W0 w:World) (x:Nat):Prop:=∃b A' c' l',G l'/\CmdQ x b w A' l'/\w.heap[b]?=some (.cells (rowDn (fun _=>D0) M) 47 (0,0))/\w.heap[x]?=some (.cells (runnerC R A' M c' f b 0) 73 (0,0))/\W0.heap.size<=x/\W0.heap.size<=b/\x≠b
noncomputable def opsBg:List Oper:=opsOf Tryz.f27 1
def wsBg (R:Nat) (_A:Option Addr) (M _c:Nat) (fid:Nat) (fi ca:Array Value) (G:List CmdV->Prop) (W0:World) (L:Nat->Bool) (u:Value) (w:World):Prop:=Below W0.heap.size W0 w/\(L 2=true->L 8=false->∃E0 d0,tupAt u 0=.slice E0 M d0/\∃l',G l'/\HasC w E0 l'/\InC W0.heap.size w.heap.size E0 l'/\(L 6=true->∀b n m,tupAt u 1=.slice (some ⟨b,0,none⟩) n m->OffX b E0 l'))/\(L 6=true->L 8=false->∃b,tupAt u 1=.slice (some ⟨b,0,none⟩) M M/\W0.heap.size<=b/\w.heap[b]?=some (.cells (rowDn (fun _=>D0) M) 47 (0,0)))/\(L 7=true->L 8=false->tupAt u 2=.agg #[.pointer (some ⟨R,0,none⟩),tupAt u 0,.func (.func fid) fi ca,tupAt u 1,.int .i64 0])/\(L 8=true->∃x,tupAt u 3=.pointer (some ⟨x,0,none⟩)/\(L 9=true->tupAt u 4=.pointer (some ⟨x,0,none⟩))/\BegQ R M (.func (.func fid) fi ca) G W0 w x)
theorem wsBg_same (R:Nat) (A:Option Addr) (M c:Nat) (fid:Nat) (fi ca:Array Value) (G:List CmdV->Prop) {W0:World} {L:Nat->Bool} {i:Nat} {u:Value} {w:World} (k2:((2:Nat)==i)=false) (k6:((6:Nat)==i)=false) (k7:((7:Nat)==i)=false) (k8:((8:Nat)==i)=false) (k9:((9:Nat)==i)=false) (h:wsBg R A M c fid fi ca G W0 L u w):wsBg R A M c fid fi ca G W0 (fun j=>L j||j==i) u w:=by
 unfold wsBg at h ⊢;simp only [beq_noF k2,beq_noF k6,beq_noF k7,beq_noF k8,beq_noF k9];exact h
theorem wxbeg (R:Nat) (A:Option Addr) (M c:Nat) (fid:Nat) (fi ca:Array Value) (G:List CmdV->Prop) (a:Act) (w:World) (Q:Exit->Act->World->Prop) (hN:a.tmps.size=16) (h0:a.tmps.getD 0 undef=.pointer (some ⟨R,0,none⟩)) (h1:a.tmps.getD 1 undef=.slice A M c) (h2:a.tmps.getD 2 undef=.func (.func fid) fi ca) (hM:M<=100000) (hC:∀w',Below w.drew.heap.size w.drew w'->Calls Tryz.prog 47 #[.slice A M c] w' fun e W'=>∃A' c',e=.returned (.slice A' M c')/\M<=c'/\∃l':List CmdV,G l'/\HasC W' A' l'/\Below w'.heap.size w' W'/\InC w'.heap.size W'.heap.size A' l') (hW0:wsBg R A M c fid fi ca G w.drew (fun _=>false) undef w.drew) (hQ:∀(u:Value) w',wsBg R A M c fid fi ca G w.drew (fun _=>true) u w'->Q .normal (puts [(7,.pointer (some ⟨R,0,none⟩)),(8,.slice A M c),(9,tupAt u 0),(10,.func (.func fid) fi ca),(11,.slice A M c),(12,.int .i64 (M:Int)),(13,tupAt u 1),(14,tupAt u 2),(15,tupAt u 3),(6,tupAt u 4)] a) w')
 :(Code.region 1 opsBg.toArray true).wp Tryz.prog Q a w:=by
 refine region_c (U:=Value) 16 opsBg [(0,.pointer (some ⟨R,0,none⟩)),(1,.slice A M c),(2,.func (.func fid) fi ca)] [2,5,6,7,8,9] (fun u=>[.pointer (some ⟨R,0,none⟩),.slice A M c,tupAt u 0,.func (.func fid) fi ca,.slice A M c,.int .i64 (M:Int),tupAt u 1,tupAt u 2,tupAt u 3,tupAt u 4]) (wsBg R A M c fid fi ca G w.drew) undef follows (by kernel_rfl) hN ⟨h0,h1,h2,trivial⟩ (fun _=>nBl rfl) hW0 (fun _ _ _ _ hi h=>wsBg_same _ _ _ _ _ _ _ _ (key_ne hi rfl) (key_ne hi rfl) (key_ne hi rfl) (key_ne hi rfl) (key_ne hi rfl) h) ?_ ?_ ?_
 ·intro L u w' hW _;exact ⟨fun _=>rfl,fun _=>rfl,trivial,fun _=>rfl,fun _=>rfl,trivial,trivial,trivial,trivial,trivial,trivial⟩
 ·refine ⟨?_,?_,?_,?_,?_,?_,trivial⟩
  ·rintro o ho L u a' w' hLi hpre hcl hR hW fin;have hio:=(nthO_eq _ _).symm.trans ho
   cases ho
   have q1:a'.tmps.getD 8 undef=.slice A M c:=hR.val 1 _ 8 rfl rfl (edge_ofF hpre 1 rfl);obtain ⟨w1,w2,w3,w7,w4⟩:=hW;have n7:L 7=false:=not_yetF hcl 30 (show reachB opsBg 30 7 2=true by kernel_rfl) hLi;have n8:L 8=false:=not_yetF hcl 30 (show reachB opsBg 30 8 2=true by kernel_rfl) hLi;refine step_callD hio rfl rfl (enters_of Tryz.func47 (by kernel_rfl) rfl) (show Array.map a'.eval #[.tmp 8]=_ from by simp only [List.map_toArray,List.map_cons,List.map_nil,Act.eval,q1]) ((hC w' w1).mono ?_);rintro e w'' ⟨A',c',rfl,_,l',hG,hHas,hb,hIn⟩
   have hW2:wsBg R A M c fid fi ca G w.drew (fun j=>L j||j==2) (.tuple #[.slice A' M c',tupAt u 1,tupAt u 2,tupAt u 3,tupAt u 4]) w'':=by
    refine ⟨w1.trans (Below.mono hb w1.size),fun _ _=>⟨A',c',rfl,l',hG,hHas,hIn.mono w1.size (nLr _),fun h6 b n m eb=>?_⟩,fun h6 _=>?_,fun h _=>?_,fun h=>?_⟩
    ·obtain ⟨b',e',_,hbk⟩:=w3 (by simpa using h6) n8;have e2:Value.slice (some ⟨b',0,none⟩) M M=.slice (some ⟨b,0,none⟩) n m:=e'.symm.trans eb
     cases e2
     exact hIn.above (.inl (geS.1 hbk).1)
    ·obtain ⟨b',e',h1,hbk⟩:=w3 (by simpa using h6) n8;exact ⟨b',e',h1,(hb.block b' (geS.1 hbk).1).trans hbk⟩
    ·have h':L 7=true:=by simpa using h
     rw [n7] at h'
     cases h'
    ·have h':L 8=true:=by simpa using h
     rw [n8] at h'
     cases h'
   exact ⟨_,rfl,(fin ((.tuple #[.slice A' M c',tupAt u 1,tupAt u 2,tupAt u 3,tupAt u 4])) _ _ (fun _=>rfl) (fun j hj=>by
    rcases j with _|_|_|_|_|_|_|_|_|_|j<;>first|rfl|exact Bool.noConfusion (hj.symm.trans hLi)|exact Bool.noConfusion (hj.symm.trans (not_yetF hcl 30 (by kernel_rfl) hLi))) (hW2))⟩
  ·rintro o ho L u a' w' hLi hpre hcl hR hW fin;have hio:=(nthO_eq _ _).symm.trans ho
   cases ho
   have q4:a'.tmps.getD 11 undef=.slice A M c:=hR.val 4 _ 11 rfl rfl (edge_ofF hpre 4 rfl);exact step_len Tryz.underlying22 hio rfl rfl q4 (fin (u) (.int .i64 (M:Int)) _ (fun _=>rfl) (fun _ _=>rfl) (wsBg_same _ _ _ _ _ _ _ _ rfl rfl rfl rfl rfl hW))
  ·rintro o ho L u a' w' hLi hpre hcl hR hW fin;have hio:=(nthO_eq _ _).symm.trans ho
   cases ho
   have q5:a'.tmps.getD 12 undef=.int .i64 (M:Int):=hR.val 5 _ 12 rfl rfl (edge_ofF hpre 5 rfl);obtain ⟨w1,w2,w3,w7,w4⟩:=hW;have n7:L 7=false:=not_yetF hcl 30 (show reachB opsBg 30 7 6=true by kernel_rfl) hLi;have n8:L 8=false:=not_yetF hcl 30 (show reachB opsBg 30 8 6=true by kernel_rfl) hLi;have hal:Below w'.heap.size w' (w'.alloc (.cells (rowDn (fun _=>D0) M) 47)):=(Below.refl _ _).alloc (nLr _) _;refine step_mkDn hM hio rfl rfl q5 q5 ?_
   have hW2:wsBg R A M c fid fi ca G w.drew (fun j=>L j||j==6) (.tuple #[tupAt u 0,.slice (some ⟨w'.heap.size,0,none⟩) M M,tupAt u 2,tupAt u 3,tupAt u 4]) (w'.alloc (.cells (rowDn (fun _=>D0) M) 47)):=by
    refine ⟨w1.trans (Below.mono hal w1.size),fun h2 _=>?_,fun _ _=>⟨_,rfl,w1.size,wAh w' _⟩,fun h _=>?_,fun h=>?_⟩
    ·obtain ⟨A',c',e',l',hG,hHas,hIn,_⟩:=w2 (by simpa using h2) n8;refine ⟨A',c',e',l',hG,hHas.below hal,hIn.mono (nLr _) hal.size,fun _ b n m eb=>?_⟩
     cases eb
     exact hIn.above (.inr (nLr _))
    ·have h':L 7=true:=by simpa using h
     rw [n7] at h'
     cases h'
    ·have h':L 8=true:=by simpa using h
     rw [n8] at h'
     cases h'
   exact (fin ((.tuple #[tupAt u 0,.slice (some ⟨w'.heap.size,0,none⟩) M M,tupAt u 2,tupAt u 3,tupAt u 4])) _ _ (fun _=>rfl) (fun j hj=>by
    rcases j with _|_|_|_|_|_|_|_|_|_|j<;>first|rfl|exact Bool.noConfusion (hj.symm.trans hLi)|exact Bool.noConfusion (hj.symm.trans (not_yetF hcl 30 (by kernel_rfl) hLi))) (hW2))
  ·rintro o ho L u a' w' hLi hpre hcl hR hW fin;have hio:=(nthO_eq _ _).symm.trans ho
   cases ho
   have q0:a'.tmps.getD 7 undef=.pointer (some ⟨R,0,none⟩):=hR.val 0 _ 7 rfl rfl (edge_ofF hpre 0 rfl);have q2:a'.tmps.getD 9 undef=tupAt u 0:=hR.val 2 _ 9 rfl rfl (edge_ofF hpre 2 rfl);have q3:a'.tmps.getD 10 undef=.func (.func fid) fi ca:=hR.val 3 _ 10 rfl rfl (edge_ofF hpre 3 rfl);have q6:a'.tmps.getD 13 undef=tupAt u 1:=hR.val 6 _ 13 rfl rfl (edge_ofF hpre 6 rfl);have n8:L 8=false:=not_yetF hcl 30 (show reachB opsBg 30 8 7=true by kernel_rfl) hLi;obtain ⟨w1,w2,w3,w7,w4⟩:=hW;obtain ⟨A',c',e0,l',r1,r2,r3,r4⟩:=w2 (edge_ofF hpre 2 rfl) n8;obtain ⟨b,e1,rest1⟩:=w3 (edge_ofF hpre 6 rfl) n8
   have hW2:wsBg R A M c fid fi ca G w.drew (fun j=>L j||j==7) (.tuple #[tupAt u 0,tupAt u 1,.agg #[.pointer (some ⟨R,0,none⟩),tupAt u 0,.func (.func fid) fi ca,tupAt u 1,.int .i64 0],tupAt u 3,tupAt u 4]) w':=by
    refine ⟨w1,fun h2 h8=>⟨A',c',e0,l',r1,r2,r3,fun h6=>r4 (by simpa using h6)⟩,fun h6 h8=>⟨b,e1,rest1⟩,fun _ _=>rfl,fun h=>?_⟩
    ·have h':L 8=true:=by simpa using h
     rw [n8] at h'
     cases h'
   exact step_bdEx hio rfl rfl q0 (q2.trans e0) q3 (q6.trans e1) (by
    have hk:=show Value.agg #[.pointer (some ⟨R,0,none⟩),tupAt u 0,.func (.func fid) fi ca,tupAt u 1,.int .i64 0]=.agg #[.pointer (some ⟨R,0,none⟩),.slice A' M c',.func (.func fid) fi ca,.slice (some ⟨b,0,none⟩) M M,.int .i64 0] from by rw [e0,e1]
    rw [<-hk];exact (fin ((.tuple #[tupAt u 0,tupAt u 1,.agg #[.pointer (some ⟨R,0,none⟩),tupAt u 0,.func (.func fid) fi ca,tupAt u 1,.int .i64 0],tupAt u 3,tupAt u 4])) _ _ (fun _=>rfl) (fun j hj=>by
    rcases j with _|_|_|_|_|_|_|_|_|_|j<;>first|rfl|exact Bool.noConfusion (hj.symm.trans hLi)|exact Bool.noConfusion (hj.symm.trans (not_yetF hcl 30 (by kernel_rfl) hLi))) (hW2)))
  ·rintro o ho L u a' w' hLi hpre hcl hR hW fin;have hio:=(nthO_eq _ _).symm.trans ho
   cases ho
   have q7:a'.tmps.getD 14 undef=tupAt u 2:=hR.val 7 _ 14 rfl rfl (edge_ofF hpre 7 rfl);have h7:=edge_ofF hpre 7 rfl;have h2:L 2=true:=reach_ofF hcl 30 7 2 (show reachB opsBg 30 7 2=true by kernel_rfl) h7;have h6:L 6=true:=reach_ofF hcl 30 7 6 (show reachB opsBg 30 7 6=true by kernel_rfl) h7;have n9:L 9=false:=not_yetF hcl 30 (show reachB opsBg 30 9 8=true by kernel_rfl) hLi;obtain ⟨w1,w2,w3,w7,w4⟩:=hW;obtain ⟨A',c',e0,l',hG,hHas,hIn,hO⟩:=w2 h2 hLi;obtain ⟨b,e1,hb1,hbk⟩:=w3 h6 hLi;have hO2:=hO h6 b M M e1;have hlt:=(geS.1 hbk).1;have q7':=q7.trans (w7 h7 hLi);rw [e0,e1] at q7';have hal:Below w'.heap.size w' (w'.alloc (.cells #[.pointer (some ⟨R,0,none⟩),.slice A' M c',.func (.func fid) fi ca,.slice (some ⟨b,0,none⟩) M M,.int .i64 0] 73)):=(Below.refl _ _).alloc (nLr _) _;refine step_bxEx hio rfl rfl q7' ?_
   have hW2:wsBg R A M c fid fi ca G w.drew (fun j=>L j||j==8) (.tuple #[tupAt u 0,tupAt u 1,tupAt u 2,.pointer (some ⟨w'.heap.size,0,none⟩),tupAt u 4]) (w'.alloc (.cells #[.pointer (some ⟨R,0,none⟩),.slice A' M c',.func (.func fid) fi ca,.slice (some ⟨b,0,none⟩) M M,.int .i64 0] 73)):=by
    have hx:=hIn.above (b:=w'.heap.size) (.inr (nLr _));refine ⟨w1.trans (Below.mono hal w1.size),fun _ h=>?_,fun _ h=>?_,fun _ h=>?_,fun _=>⟨w'.heap.size,rfl,fun h=>?_,b,A',c',l',hG,⟨hHas.below hal,fun x o m e=>⟨hx.1 x o m e,hO2.1 x o m e⟩,fun v hv x o m e=>⟨hx.2 v hv x o m e,hO2.2 v hv x o m e⟩⟩,(hal.block b hlt).trans hbk,wAh w' _,w1.size,hb1,by omega⟩⟩
    ·simp at h
    ·simp at h
    ·simp at h
    ·have h':L 9=true:=by simpa using h
     rw [n9] at h'
     cases h'
   exact (fin ((.tuple #[tupAt u 0,tupAt u 1,tupAt u 2,.pointer (some ⟨w'.heap.size,0,none⟩),tupAt u 4])) _ _ (fun _=>rfl) (fun j hj=>by
    rcases j with _|_|_|_|_|_|_|_|_|_|j<;>first|rfl|exact Bool.noConfusion (hj.symm.trans hLi)|exact Bool.noConfusion (hj.symm.trans (not_yetF hcl 30 (by kernel_rfl) hLi))) (hW2))
  ·rintro o ho L u a' w' hLi hpre hcl hR hW fin;have hio:=(nthO_eq _ _).symm.trans ho
   cases ho
   have q8:a'.tmps.getD 15 undef=tupAt u 3:=hR.val 8 _ 15 rfl rfl (edge_ofF hpre 8 rfl);obtain ⟨w1,w2,w3,w7,w4⟩:=hW;have h8:=edge_ofF hpre 8 rfl
   have hW2:wsBg R A M c fid fi ca G w.drew (fun j=>L j||j==9) (.tuple #[tupAt u 0,tupAt u 1,tupAt u 2,tupAt u 3,tupAt u 3]) w':=by
    obtain ⟨x,e,_,hq⟩:=w4 h8;refine ⟨w1,fun _ h=>?_,fun _ h=>?_,fun _ h=>?_,fun _=>⟨x,e,fun _=>e,hq⟩⟩
    all_goals
     have h':L 8=false:=by simpa using h
     rw [h8] at h'
     cases h'
   exact step_assign hio rfl rfl q8 (fin ((.tuple #[tupAt u 0,tupAt u 1,tupAt u 2,tupAt u 3,tupAt u 3])) _ _ (fun _=>rfl) (fun j hj=>by
    rcases j with _|_|_|_|_|_|_|_|_|_|j<;>first|rfl|exact Bool.noConfusion (hj.symm.trans hLi)|exact Bool.noConfusion (hj.symm.trans (not_yetF hcl 30 (by kernel_rfl) hLi))) (hW2))
 ·intro L u w' hl hW;refine hQ u w' ?_;unfold wsBg at hW ⊢;simp only [hl 2 (nBl rfl),hl 6 (nBl rfl),hl 7 (nBl rfl),hl 8 (nBl rfl),hl 9 (nBl rfl)] at hW ⊢;exact hW
end Go.Proofs.YtfjmdkhemnmkpaaGreatDoor
namespace Go.Proofs.YtfjmdkhemnmkpaaGreatDoor
open Go.Maps Go.RowKit
theorem begin_any {F:Nat->Prop} {w:World} {R:Nat} {a:AM} (A:Option Addr) (L c:Nat) (l:List CmdV) (fid:Nat) (fi ca:Array Value) (h:AppQ F w R a) (hL:L=l.length) (hm:L<=100) (hA:HasC w A l) (hng:∀v∈l,¬v.great):
 Calls Tryz.prog 27 #[.pointer (some ⟨R,0,none⟩),.slice A L c,.func (.func fid) fi ca] w fun e W'=>∃x,e=.returned (.pointer (some ⟨x,0,none⟩))/\Below w.heap.size w W'/\∃b A' c' l',List.map CmdV.m l'=List.map CmdV.m l/\(∀v∈l',¬v.great)/\CmdQ x b W' A' l'/\RunQ F w R b x A' L c' (.func (.func fid) fi ca) a (fun _=>D0) 0 W':=by
 have HC:=hiD (show ∀w',Below w.drew.heap.size w.drew w'->Calls Tryz.prog 47 #[.slice A L c] w' fun e W'=>∃A' c',e=.returned (.slice A' L c')/\L<=c'/\∃l':List CmdV,(l'.map (·.m)=l.map (·.m)/\∀v∈l',¬v.great)/\HasC W' A' l'/\Below w'.heap.size w' W'/\InC w'.heap.size W'.heap.size A' l' from fun w' hb=>by
  refine (copy_any A L c l w' hL hm (hA.below ((Below.refl _ w).drew.trans hb)) hng).mono ?_;rintro e W' ⟨A',c',rfl,h1,l',h2,h3,h4,h5,h6⟩;exact ⟨A',c',rfl,h1,l',⟨h2,h3⟩,h4,h5,h6⟩)
 have HH:=hiD h;clear h hL hA hng;go_enter Tryz.func27,Tryz.ntmps27;go_upto_region 1 with (fail)
 refine wxbeg R A L c fid fi ca (fun l'=>l'.map (·.m)=l.map (·.m)/\∀v∈l',¬v.great) _ w _ rfl rfl rfl rfl (by omega) HC.out ⟨Below.refl _ _,fun h=>(by cases h),fun h=>(by cases h),fun h=>(by cases h),fun h=>(by cases h)⟩ ?_;intro u W' hws;obtain ⟨hb,_,_,_,h8⟩:=hws;obtain ⟨x,_,e9,b,A',c',l',⟨g1,g2⟩,hq,hbk,hx,hx1,hb1,hne⟩:=h8 rfl;have hb':Below w.heap.size w W':=(Below.refl _ w).drew.trans hb;have hgo:GoQ F w R b L a (fun _=>D0) W':=⟨⟨F,HH.out.keep (Only.of_grew (F:=fun _=>False) hb') (fun _ _=>id),fun k hk=>.inl hk,fun hf=>by have:=HH.out.lt _ hf;have:w.heap.size<=b:=hb1;omega⟩,Only.of_grew hb',hb1,hbk⟩;have HR:=hiD (aI hb' (aI g1 (aI g2 (aI hq (show RunQ F w R b x A' L c' (.func (.func fid) fi ca) a (fun _=>D0) 0 W' from ⟨hgo,hx,hx1,hne⟩)))));rw [e9 rfl];simp only [puts,List.foldl_cons,List.foldl_nil,Act.put,List.setIfInBounds_toArray,List.set_cons_succ,List.set_cons_zero];clear hb h8 e9 g1 g2 hq hbk hx hx1 hb1 hne hb' hgo HC;go_wp2;go_ret;exact ⟨x,rfl,HR.out.1,b,A',c',l',HR.out.2.1,HR.out.2.2.1,HR.out.2.2.2.1,HR.out.2.2.2.2⟩
end Go.Proofs.YtfjmdkhemnmkpaaGreatDoor
namespace Go.Proofs.YtfjmdkhemnmkpaaGreatDoor
open Go.RowKit
def isLD:Obj->Bool
 |.loop _=>true
 |.deferred _=>true
 |_=>false
structure KeepsD (B:Nat) (W W':World):Prop where
 size:W.heap.size<=W'.heap.size
 same:∀(k:Nat) (o:Obj),B<=k->W.heap[k]?=some o->isLD o=true->W'.heap[k]?=some o
def AbidesD (B:Nat) (I:World->Prop):Prop:=
 ∀W W' row,I W->W.grownBy W' row->(∀r,row=some r->B<=r/\∃o:Obj,W.heap[r]?=some o/\isLD o=true)->I W'
theorem AbidesD.putObj {B:Nat} {I:World->Prop} (h:AbidesD B I) {W:World} {l:Nat} {o:Obj} (o':Obj) (hs:I W) (hB:B<=l) (hl:W.heap[l]?=some o) (ho:isLD o=true):I (W.putObj l o'):=
 h W _ (some l) hs (grownBy_putObj' W l o') (fun r e=>by cases e;exact ⟨hB,o,hl,ho⟩)
theorem AbidesD.alloc {B:Nat} {I:World->Prop} (h:AbidesD B I) {W:World} (o:Obj) (hs:I W):I (W.alloc o):=
 h W _ none hs (World.grownBy_alloc W o none) (fun r e=>by cases e)
theorem AbidesD.and {B:Nat} {I J:World->Prop} (h:AbidesD B I) (k:AbidesD B J):AbidesD B (fun W=>I W/\J W):=
 fun W W' row hs hg hr=>⟨h W W' row hs.1 hg hr,k W W' row hs.2 hg hr⟩
theorem AbidesD.ex {B:Nat} {β:Type} {I:β->World->Prop} (h:∀b,AbidesD B (I b)):AbidesD B (fun W=>∃b,I b W):=
 fun W W' row ⟨b,hb⟩ hg hr=>⟨b,h b W W' row hb hg hr⟩
def tiedPostD (B:Nat) (Io:World->Prop) (Ix:Code->World->Prop) (W:World):Exit->Act->World->Prop
 |.normal,_,W'=>KeepsD B W W'/\Io W'
 |.ret,_,W'=>KeepsD B W W'/\Ix .ret W'
 |.exit id,_,W'=>KeepsD B W W'/\Ix (.exit id) W'
 |.goto t,_,W'=>KeepsD B W W'/\Ix (.goto t) W'
 |.panic _,_,_=>False
 |.outgrown,_,_=>False
def TiedSeqD {γ:Type} (F:Fence) (n:Nat) (P:Program) (gf:Nat) (fb lb:Array Value) (encs:γ->Array Value) (B:Nat)
 (I0 Id:World->Prop) (Iy Io:γ->World->Prop) (Ix Ixd:Code->World->Prop):Prop:=
 ∀(l:Nat) (G:World->Prop) (Gx:Code->World->Prop),(∀A C,G A->KeepsD B A C->G C)->(∀c A C,Gx c A->KeepsD B A C->Gx c C)->
  (∀x W,Iy x W->G W->YieldAt F (n - 1) P l (encs x) W fun e W'=>
   (e=.returned (.bool true)/\Io x W'/\G W')\/(e=.returned (.bool false)/\∃c,Ix c W'/\Gx c W'))->
  ∀W,I0 W->G W->CallsIn F n P gf (fb++#[.func (.yield l) #[] #[]]++lb) W fun e W'=>(∃v,e=.returned v)/\((Id W'/\G W')\/(∃c,Ixd c W'/\Gx c W'))
theorem wpIn_rangeFunc_tiedD {F:Fence} {n:Nat} {P:Program} {γ:Type} {g:Operand} {ps:Array Tmp} {assign body:Code} {Q:Exit->Act->World->Prop} {a:Act} {w:World}
 (hro:F.round=none) (h1:1<=n) {gf:Nat} {fb lb:Array Value} (hg:a.eval g=.func (.func gf) fb lb) (hFg:F.fn gf) (eg:∀args w,(callFunc gf args).run P w=.ok (.enter gf args) w)
 {encs:γ->Array Value} (hps:∀x,(encs x).size=ps.size)
 {I0 Id:World->Prop} {Iy Io:γ->World->Prop} {Ix Ixd:Code->World->Prop}
 (hI0:AbidesD w.heap.size I0) (hId:AbidesD w.heap.size Id) (hIy:∀x,AbidesD w.heap.size (Iy x)) (hIo:∀x,AbidesD w.heap.size (Io x)) (hIx:∀c,AbidesD w.heap.size (Ix c)) (hIxd:∀c,AbidesD w.heap.size (Ixd c))
 (hseq:TiedSeqD F (n - 1) P gf fb lb encs w.heap.size I0 Id Iy Io Ix Ixd) (h0:I0 w) (a₁:γ->Act)
 (hassign:∀(l:Nat) (x:γ) (W:World) (K:Act->World->Prop),K (a₁ x) W->
  assign.wpIn (F.inRound l) (n - 1 - 1) P (Exit.then K (fun _ _ _=>False)) {tmps:=(ps.zip (encs x)).foldl (fun t (p,v)=>t.setIfInBounds p v) a.tmps,defers:=[]} W)
 (hbody:∀(l:Nat) (x:γ) (W:World),Iy x W->w.heap.size<=W.heap.size->body.wpIn (F.inRound l) (n - 1 - 1) P (tiedPostD w.heap.size (Io x) Ix W) (a₁ x) W)
 (hdone:∀(D:Nat) (W:World),w.heap.size<=D->Id W->W.heap[D]?=some (.deferred (some []))->Q .normal {a with defers:={target:=.collected D,args:=#[]}::a.defers} W)
 (hstop:∀(D:Nat) (c:Code) (W:World),w.heap.size<=D->Ixd c W->W.heap[D]?=some (.deferred (some []))->c.wpIn F n P Q {a with defers:={target:=.collected D,args:=#[]}::a.defers} W):
 (Code.rangeFunc g ps assign body).wpIn F n P Q a w:=by
 refine wpIn_rangeFunc ?_;intro fn hfn;rw [hro];obtain ⟨rec,hrec⟩:∃rec:LoopState->Option Code->Loop,rec=fun st pe=>{state:=st,pending:=pe,fn,tmps:=a.tmps,params:=ps,assign,body,defers:=w.heap.size}:=⟨_,rfl⟩
 obtain ⟨W1,hW1⟩:∃W1,(w.alloc (.deferred (some []))).alloc (.loop (rec .ready none))=W1:=⟨_,rfl⟩
 have hL1:W1.heap[w.heap.size+1]?=some (.loop (rec .ready none)):=by
  rw [<-hW1];have:=wAh (w.alloc (.deferred (some []))) (.loop (rec .ready none));rwa [World.size_alloc] at this
 have hK1:W1.heap[w.heap.size]?=some (.deferred (some [])):=by
  rw [<-hW1];exact (Below.heap_alloc _ _ _ (by simp)).trans (wAh w _)
 have hI1:I0 W1:=by rw [<-hW1];exact hI0.alloc _ (hI0.alloc _ h0)
 refine ⟨w.heap.size+1,[{target:=.collected w.heap.size,args:=#[]}],W1,{target:=.fn (.func gf) lb,args:=fb++#[.func (.yield (w.heap.size+1)) #[] #[]]},W1,gf,
  fb++#[.func (.yield (w.heap.size+1)) #[] #[]]++lb,W1,?_,?_,?_,?_,fun _=>h1,?_⟩
 ·rw [<-hW1,hrec];exact run_enterLoop_outer _ _ _ _ _
 ·simp only [resolve,hg];simp [go_sem]
 ·intro f' hf';simp [Target.leads] at hf';subst hf';exact hFg
 ·simp [invoke,go_sem,eg]
 ·refine (hseq (w.heap.size+1)
   (fun W=>W.heap[w.heap.size+1]?=some (.loop (rec .ready none))/\W.heap[w.heap.size]?=some (.deferred (some [])))
   (fun c W=>W.heap[w.heap.size+1]?=some (.loop (rec .done (some c)))/\W.heap[w.heap.size]?=some (.deferred (some [])))
   (fun A C h k=>⟨k.same _ _ (by omega) h.1 rfl,k.same _ _ (nLr _) h.2 rfl⟩)
   (fun c A C h k=>⟨k.same _ _ (by omega) h.1 rfl,k.same _ _ (nLr _) h.2 rfl⟩)
   ?_ W1 hI1 ⟨hL1,hK1⟩).mono ?_
  ·rintro x W hi ⟨hl,hk⟩;have hlt:w.heap.size+1<W.heap.size:=(geS.1 hl).1;have hy:=run_yield (P:=P) (args:=encs x) hl (by rw [hrec];exact hps x);rw [hrec] at hy;refine ⟨fn,_,assign,body,hy,roundIn_of_wpIn hfn (hassign _ x W _ ⟨_,run_beginRound hl (by rw [hrec]),?_⟩)⟩;have hl2:(W.putObj (w.heap.size+1) (.loop {rec .ready none with state:=.busy})).heap[w.heap.size+1]?=some (.loop {rec .ready none with state:=.busy}):=World.putObj_heap_same hlt;have hk2:(W.putObj (w.heap.size+1) (.loop {rec .ready none with state:=.busy})).heap[w.heap.size]?=some (.deferred (some [])):=(World.putObj_heap_other (by omega)).trans hk;refine wpIn_mono (hbody _ x _ ((hIy x).putObj _ hi (by omega) hl rfl) (nLt (by omega:w.heap.size<=W.heap.size) (grownBy_putObj' W _ _).size)) ?_
   have fin:∀(jump:Option Code) (W3:World),KeepsD w.heap.size (W.putObj (w.heap.size+1) (.loop {rec .ready none with state:=.busy})) W3->
    (Instr.endRound (w.heap.size+1) jump).run P W3=.ok (.bool jump.isNone) (W3.putObj (w.heap.size+1) (.loop (rec (if jump.isNone then .ready else .done) jump)))/\
    W3.heap[w.heap.size+1]?=some (.loop {rec .ready none with state:=.busy})/\
    (W3.putObj (w.heap.size+1) (.loop (rec (if jump.isNone then .ready else .done) jump))).heap[w.heap.size+1]?=some (.loop (rec (if jump.isNone then .ready else .done) jump))/\
    (W3.putObj (w.heap.size+1) (.loop (rec (if jump.isNone then .ready else .done) jump))).heap[w.heap.size]?=some (.deferred (some [])):=fun jump W3 hk3=>by
    have hl3:=hk3.same _ _ (by omega) hl2 rfl;have:=run_endRound (P:=P) jump hl3;rw [hrec] at this ⊢;exact ⟨this,by rw [hrec] at hl3;exact hl3,World.putObj_heap_same (geS.1 hl3).1,(World.putObj_heap_other (by omega)).trans (hk3.same _ _ (nLr _) hk2 rfl)⟩
   rintro e a3 W3 hp
   cases e with
   |normal=>
    obtain ⟨hk3,hi3⟩:=hp;obtain ⟨hr,hl3,hl4,hk4⟩:=fin none W3 hk3;exact ⟨_,_,hr,.inl ⟨rfl,(hIo x).putObj _ hi3 (by omega) hl3 rfl,hl4,hk4⟩⟩
   |ret=>
    obtain ⟨hk3,hi3⟩:=hp;obtain ⟨hr,hl3,hl4,hk4⟩:=fin (some .ret) W3 hk3;exact ⟨_,_,hr,.inr ⟨rfl,.ret,(hIx _).putObj _ hi3 (by omega) hl3 rfl,hl4,hk4⟩⟩
   |exit id=>
    obtain ⟨hk3,hi3⟩:=hp;obtain ⟨hr,hl3,hl4,hk4⟩:=fin (some (.exit id)) W3 hk3;exact ⟨_,_,hr,.inr ⟨rfl,.exit id,(hIx _).putObj _ hi3 (by omega) hl3 rfl,hl4,hk4⟩⟩
   |goto t=>
    obtain ⟨hk3,hi3⟩:=hp;obtain ⟨hr,hl3,hl4,hk4⟩:=fin (some (.goto t)) W3 hk3;exact ⟨_,_,hr,.inr ⟨rfl,.goto t,(hIx _).putObj _ hi3 (by omega) hl3 rfl,hl4,hk4⟩⟩
   |panic ch=>exact hp.elim
   |outgrown=>exact hp.elim
  ·rintro e W2 ⟨⟨v,rfl⟩,(⟨hi,hl,hk⟩|⟨c,hi,hl,hk⟩)⟩
   ·exact ⟨none,_,by have:=run_endLoop (P:=P) hl (by rw [hrec];simp);rw [hrec] at this;exact this,hdone _ _ (nLr _) (hId.putObj _ hi (by omega) hl rfl) ((World.putObj_heap_other (by omega)).trans hk)⟩
   ·exact ⟨some c,_,by have:=run_endLoop (P:=P) hl (by rw [hrec];simp);rw [hrec] at this;exact this,hstop _ c _ (nLr _) ((hIxd c).putObj _ hi (by omega) hl rfl) ((World.putObj_heap_other (by omega)).trans hk)⟩
def HasR (w:World) (A:Option Addr) (gs:List (List Nat)):Prop:=gs≠[]->∃b o,A=some ⟨b,o,none⟩/\b<w.heap.size/\∀j (h:j<gs.length),∃A' c',w.cell? ⟨b,o+j,none⟩=some (.slice A' gs[j].length c')/\gs[j].length<=c'/\HasI w A' gs[j]
end Go.Proofs.YtfjmdkhemnmkpaaGreatDoor
namespace Go.Proofs.YtfjmdkhemnmkpaaGreatDoor
open Go.Maps Go.RowKit Go.WideMaps
structure TwK {K:Type} (kt:TypeId) (kl:K->Lit) (ok:K->Prop) (w:World) (b n:Nat) (T:K->Nat):Prop where
 ex:∃D:DataW Nat,w.ownsMap Tryz.prog kt (plainElem (H:=Nat) Tryz.prog 3) b n D/\∀k,ok k->Maps.has D (kl k)=decide (T k≠0)/\(T k≠0->D.atKey (kl k) (.lit (.int .i64 0))=.lit (.int .i64 ((T k:Int) - 1)))
theorem zeroIw (w:World):(zeroValue 3).run Tryz.prog w=.ok (.int .i64 0) w:=by kernel_rfl
section
variable {K:Type} {kt:TypeId} {kl:K->Lit} {ok:K->Prop} {w w':World} {b n:Nat} {T:K->Nat}
theorem TwK.lt (h:TwK kt kl ok w b n T):b<w.heap.size:=by obtain ⟨D,h,_⟩:=h.ex;exact h.lt
theorem TwK.keep (h:TwK kt kl ok w b n T) (hb:w'.heap[b]?=w.heap[b]?):TwK kt kl ok w' b n T:=by
 obtain ⟨D,⟨es,ck,h1,h2⟩,h3⟩:=h.ex;exact ⟨D,⟨es,ck,hb.trans h1,h2⟩,h3⟩
theorem TwK.new (w:World):TwK kt kl ok (w.alloc (.map #[] 0)) w.heap.size 0 (fun _=>0):=
 ⟨.map [],World.ownsMap_made _ _ _ _,fun k _=>⟨by simp [Maps.has],fun h=>absurd rfl h⟩⟩
theorem TwK.congr (h:TwK kt kl ok w b n T) {S:K->Nat} (he:∀k,ok k->T k=S k):TwK kt kl ok w b n S:=by
 obtain ⟨D,h1,h2⟩:=h.ex;exact ⟨D,h1,fun k hk=>by rw [<-he k hk];exact h2 k hk⟩
theorem TwK.look (h:TwK kt kl ok w b n T) (hK:Keyed Tryz.prog kt) {mt:TypeId} (hm:Tryz.prog.underlying mt=some (.map kt 3)) {k:K} (hk:ok k) {kv:Value} (hkey:keyOf Tryz.prog kt kv=some (kl k)):
 ∃z:Int,(Instr.lookup mt (.map (some b)) kv true).run Tryz.prog w=.ok (.tuple #[.int .i64 z,.bool (decide (T k≠0))]) w/\(T k≠0->z=(T k:Int) - 1):=by
 obtain ⟨D,hown,hD⟩:=h.ex;obtain ⟨v,ps,hrun,hv⟩:=World.ownsMap.look_ok hown hK hm (zeroIw w) (plainElem_int (H:=Nat) Tryz.underlying3 (a:=0) (by decide)) hkey;obtain ⟨a,rfl,he,_⟩:=plainElem_int_inv Tryz.underlying3 hv;rw [(hD k hk).1] at hrun;refine ⟨a,hrun,fun h0=>?_⟩;have h1:=(hD k hk).2 h0;have h2:=congrArg Prod.fst he;simp only [h1,DataW.lit.injEq,Lit.int.injEq,true_and] at h2;exact h2.symm
theorem TwK.put [DecidableEq K] (h:TwK kt kl ok w b n T) (hK:Keyed Tryz.prog kt) {mt:TypeId} (hm:Tryz.prog.underlying mt=some (.map kt 3)) (hn:n<maxLen) {k:K} (hkk:ok k) (hi:∀j,j≠k->kl j≠kl k) {kv:Value} (hkey:∀j,ok j->∃v,keyOf Tryz.prog kt v=some (kl j)) (hkv:keyOf Tryz.prog kt kv=some (kl k)) {x:Nat} (hx:x<1000000):
 ∃w',(Instr.mapUpdate mt (.map (some b)) kv (.int .i64 (x:Int))).run Tryz.prog w=.ok () w'/\TwK kt kl ok w' b (n+1) (fun j=>if j=k then x+1 else T j)/\w.grownBy w' (some b):=by
 obtain ⟨D,hown,hD⟩:=h.ex;obtain ⟨w',hrun,h1,h2⟩:=hown.store hK hm hn hkv (plainElem_int (H:=Nat) Tryz.underlying3 (a:=(x:Int)) (by simp [Lit.wf,IntKind.min,IntKind.max,IntKind.signed,IntKind.bits];omega));refine ⟨w',hrun,⟨_,h1,fun j hj=>?_⟩,h2.grown⟩;obtain ⟨vj,hvj⟩:=hkey j hj
 by_cases hjk:j=k
 ·subst hjk;rw [Maps.has_put_same hown.isMap (hK.key hvj),Maps.atKey_put_same hown.isMap (hK.key hvj)];simp
 ·rw [Maps.has_put_other (hi j hjk),Maps.atKey_put_other (hi j hjk)]
  simpa [hjk] using hD j hj
end
def kyW (c:Nat):Lit:=.int .u32 (c:Int)
theorem kyW_ne {k j:Nat} (h:j≠k):kyW j≠kyW k:=by
 intro e
 injection e with _ e
 omega
theorem keyedUW:Maps.Keyed Tryz.prog 54:=Maps.int_keyed Tryz.underlying54
theorem keyUW {c:Nat} (h:c<4294967296):keyOf Tryz.prog 54 (.int .u32 (c:Int))=some (kyW c):=keyOf_int_mk Tryz.underlying54 (by
 simp [Lit.wf,IntKind.min,IntKind.max,IntKind.signed,IntKind.bits];omega)
abbrev TwS (w:World) (b n:Nat) (T:ByteArray->Nat):Prop:=TwK 9 litB (fun k=>k.size<=maxLen) w b n T
abbrev TwU (w:World) (b n:Nat) (T:Nat->Nat):Prop:=TwK 54 kyW (fun c=>c<4294967296) w b n T
section
variable {w:World} {b n:Nat}
theorem lookTS {T:ByteArray->Nat} (h:TwS w b n T) {k:ByteArray} (hk:k.size<=maxLen):∃z:Int,(Instr.lookup 187 (.map (some b)) (.string k) true).run Tryz.prog w=.ok (.tuple #[.int .i64 z,.bool (decide (T k≠0))]) w/\(T k≠0->z=(T k:Int) - 1):=
 TwK.look h keyedS Tryz.underlying187 hk (keyL hk)
theorem lookTU {T:Nat->Nat} (h:TwU w b n T) {c:Nat} (hc:c<4294967296):∃z:Int,(Instr.lookup 188 (.map (some b)) (.int .u32 (c:Int)) true).run Tryz.prog w=.ok (.tuple #[.int .i64 z,.bool (decide (T c≠0))]) w/\(T c≠0->z=(T c:Int) - 1):=
 TwK.look h keyedUW Tryz.underlying188 hc (keyUW hc)
theorem putTS {T:ByteArray->Nat} (h:TwS w b n T) (hn:n<maxLen) {k:ByteArray} (hk:k.size<=maxLen) {x:Nat} (hx:x<1000000):∃w',(Instr.mapUpdate 187 (.map (some b)) (.string k) (.int .i64 (x:Int))).run Tryz.prog w=.ok () w'/\TwS w' b (n+1) (fun j=>if j=k then x+1 else T j)/\w.grownBy w' (some b):=
 TwK.put h keyedS Tryz.underlying187 hn hk (fun _ hj e=>hj (litB_inj.1 e)) (fun _ hj=>⟨_,keyL hj⟩) (keyL hk) hx
theorem putTU {T:Nat->Nat} (h:TwU w b n T) (hn:n<maxLen) {c:Nat} (hc:c<4294967296) {x:Nat} (hx:x<1000000):∃w',(Instr.mapUpdate 188 (.map (some b)) (.int .u32 (c:Int)) (.int .i64 (x:Int))).run Tryz.prog w=.ok () w'/\TwU w' b (n+1) (fun j=>if j=c then x+1 else T j)/\w.grownBy w' (some b):=
 TwK.put h keyedUW Tryz.underlying188 hn hc (fun _ hj=>kyW_ne hj) (fun _ hj=>⟨_,keyUW hj⟩) (keyUW hc) hx
end
theorem behindS_any {w:World} {b n:Nat} {T:ByteArray->Nat} (h:TwS w b n T) (k:ByteArray) (hk:k.size<=maxLen) (hT:T k<=1000000):
 Calls Tryz.prog 122 #[.map (some b),.string k] w fun e W'=>e=.returned (.int .i64 (T k:Int))/\W'=w:=by
 obtain ⟨z,hrun,hz⟩:=lookTS h hk;obtain ⟨t,ht⟩:∃t,t=T k:=⟨_,rfl⟩;rw [<-ht] at hT hrun hz ⊢;clear h ht
 by_cases h0:t=0
 ·subst h0;rw [show decide ((0:Nat)≠0)=false from rfl] at hrun;clear hz;go_enter Tryz.func122,Tryz.ntmps122;go_wp2;go_ret;exact ⟨rfl,rfl⟩
 ·obtain rfl:=hz h0;rw [show decide (t≠0)=true from decide_eq_true h0] at hrun;have hti:(t:Int)<=1000000:=by omega
  clear hz;go_enter Tryz.func122,Tryz.ntmps122;go_wp2;go_ret;exact ⟨by congr 2,rfl⟩
theorem behindU_any {w:World} {b n:Nat} {T:Nat->Nat} (h:TwU w b n T) (k:Nat) (hk:k<4294967296) (hT:T k<=1000000):
 Calls Tryz.prog 121 #[.map (some b),.int .u32 (k:Int)] w fun e W'=>e=.returned (.int .i64 (T k:Int))/\W'=w:=by
 obtain ⟨z,hrun,hz⟩:=lookTU h hk;obtain ⟨t,ht⟩:∃t,t=T k:=⟨_,rfl⟩;rw [<-ht] at hT hrun hz ⊢;clear h ht
 by_cases h0:t=0
 ·subst h0;rw [show decide ((0:Nat)≠0)=false from rfl] at hrun;clear hz;go_enter Tryz.func121,Tryz.ntmps121;go_wp2;go_ret;exact ⟨rfl,rfl⟩
 ·obtain rfl:=hz h0;rw [show decide (t≠0)=true from decide_eq_true h0] at hrun;have hti:(t:Int)<=1000000:=by omega
  clear hz;go_enter Tryz.func121,Tryz.ntmps121;go_wp2;go_ret;exact ⟨by congr 2,rfl⟩
end Go.Proofs.YtfjmdkhemnmkpaaGreatDoor
namespace Go.Proofs.YtfjmdkhemnmkpaaGreatDoor
def supW (P:CM->Bool) (acc:List (CM × Nat)):Nat:=acc.foldl (fun w p=>if P p.1=true then max w (p.2+1) else w) 0
theorem nextW_sup (acc:List (CM × Nat)) (m:CM):nextW acc m=supW (fun a=>wayM a m) acc:=rfl
theorem supW_snoc (P:CM->Bool) (acc:List (CM × Nat)) (p:CM × Nat):supW P (acc++[p])=if P p.1=true then max (supW P acc) (p.2+1) else supW P acc:=by
 unfold supW;rw [List.foldl_append]
 rfl
theorem supW_or (P Q:CM->Bool) (acc:List (CM × Nat)):supW (fun a=>P a||Q a) acc=max (supW P acc) (supW Q acc):=by
 have key:∀(acc:List (CM × Nat)) (x y:Nat),acc.foldl (fun w p=>if (P p.1||Q p.1)=true then max w (p.2+1) else w) (max x y)=max (acc.foldl (fun w p=>if P p.1=true then max w (p.2+1) else w) x) (acc.foldl (fun w p=>if Q p.1=true then max w (p.2+1) else w) y):=by
  intro acc
  induction acc with
  |nil=>intro x y;rfl
  |cons p acc ih=>
   intro x y;simp only [List.foldl_cons];rw [<-ih]
   congr 1
   cases hP:P p.1<;>cases hQ:Q p.1<;>simp<;>omega
 have:=key acc 0 0
 simpa [supW] using this
theorem supW_congr {P Q:CM->Bool} (acc:List (CM × Nat)) (h:∀p∈acc,P p.1=Q p.1):supW P acc=supW Q acc:=by
 unfold supW
 have key:∀(acc:List (CM × Nat)) (x:Nat),(∀p∈acc,P p.1=Q p.1)->acc.foldl (fun w p=>if P p.1=true then max w (p.2+1) else w) x=acc.foldl (fun w p=>if Q p.1=true then max w (p.2+1) else w) x:=by
  intro acc
  induction acc with
  |nil=>intro x _;rfl
  |cons p acc ih=>
   intro x h;simp only [List.foldl_cons];rw [h p (List.mem_cons_self ..),ih _ (fun q hq=>h q (List.mem_cons_of_mem _ hq))]
 exact key acc 0 h
theorem supW_none (acc:List (CM × Nat)):supW (fun _=>false) acc=0:=by
 unfold supW
 induction acc with
 |nil=>rfl
 |cons p acc ih=>simpa using ih
theorem supW_mono {P Q:CM->Bool} (acc:List (CM × Nat)) (h:∀a,P a=true->Q a=true):supW P acc<=supW Q acc:=by
 have e:supW Q acc=max (supW P acc) (supW Q acc):=by
  rw [<-supW_or];refine supW_congr acc fun p _=>?_
  cases hP:P p.1 with
  |false=>rfl
  |true=>simp [h p.1 hP]
 omega
theorem supW_any {K:Type} (P:K->CM->Bool) (acc:List (CM × Nat)) (ks:List K):supW (fun a=>ks.any fun k=>P k a) acc=ks.foldl (fun w k=>max w (supW (P k) acc)) 0:=by
 have key:∀(ks:List K) (Q:CM->Bool),ks.foldl (fun w k=>max w (supW (P k) acc)) (supW Q acc)=supW (fun a=>Q a||ks.any fun k=>P k a) acc:=by
  intro ks
  induction ks with
  |nil=>intro Q;simp
  |cons k ks ih=>
   intro Q;simp only [List.foldl_cons,List.any_cons];rw [<-supW_or,ih];exact supW_congr acc fun p _=>by rw [Bool.or_assoc]
 have:=key ks (fun _=>false);rw [supW_none] at this;rw [this];exact supW_congr acc fun p _=>by simp
def namesB (k:ByteArray) (a:CM):Bool:=a.ks.any fun j=>decide (j=k)
theorem wayM_parts (a m:CM):wayM a m=(loneM m||(loneM a||(decide (a.cl=m.cl)||m.ks.any fun k=>namesB k a))):=by
 unfold wayM
 have e:(a.ks.any fun k=>m.ks.any fun j=>decide (k=j))=(m.ks.any fun k=>namesB k a):=by
  rw [Bool.eq_iff_iff];simp only [namesB,List.any_eq_true,decide_eq_true_eq]
  constructor
  ·rintro ⟨x,hx,y,hy,e⟩;exact ⟨y,hy,x,hx,e⟩
  ·rintro ⟨x,hx,y,hy,e⟩;exact ⟨y,hy,x,hx,e⟩
 rw [e,Bool.or_comm (loneM a) (loneM m),Bool.or_assoc,Bool.or_assoc]
theorem nextW_parts (acc:List (CM × Nat)) (m:CM):nextW acc m=if loneM m=true then supW (fun _=>true) acc else max (supW loneM acc) (max (supW (fun a=>decide (a.cl=m.cl)) acc) (m.ks.foldl (fun w k=>max w (supW (namesB k) acc)) 0)):=by
 rw [nextW_sup,show (fun a=>wayM a m)=fun a=>(loneM m||(loneM a||(decide (a.cl=m.cl)||m.ks.any fun k=>namesB k a))) from funext fun a=>wayM_parts a m]
 cases hl:loneM m with
 |true=>rw [if_pos rfl];exact supW_congr acc fun p _=>by simp
 |false=>
  rw [if_neg (by simp),<-supW_any,<-supW_or,<-supW_or];exact supW_congr acc fun p _=>by simp
theorem supW_set {P:CM->Bool} {acc:List (CM × Nat)} {m:CM} (hm:P m=true) (h:∀a,P a=true->wayM a m=true):supW P (acc++[(m,nextW acc m)])=nextW acc m+1:=by
 rw [supW_snoc,if_pos hm,nextW_sup];have:=supW_mono (P:=P) (Q:=fun a=>wayM a m) acc h;omega
theorem supW_keep {P:CM->Bool} {acc:List (CM × Nat)} {m:CM} {w:Nat} (hm:P m=false):supW P (acc++[(m,w)])=supW P acc:=by
 rw [supW_snoc,if_neg (by rw [hm];exact Bool.false_ne_true)]
theorem way_names {k:ByteArray} {a m:CM} (ha:namesB k a=true) (hm:namesB k m=true):wayM a m=true:=by
 rw [wayM_parts]
 have:(m.ks.any fun k=>namesB k a)=true:=by
  simp only [namesB,List.any_eq_true,decide_eq_true_eq] at ha hm ⊢;obtain ⟨x,hx,rfl⟩:=ha;obtain ⟨y,hy,e⟩:=hm;exact ⟨y,hy,x,hx,e.symm⟩
 rw [this];simp
theorem way_client {a m:CM} (h:a.cl=m.cl):wayM a m=true:=by rw [wayM_parts];simp [h]
theorem way_lone {a m:CM} (h:loneM m=true\/loneM a=true):wayM a m=true:=by rw [wayM_parts];rcases h with h|h<;>simp [h]
end Go.Proofs.YtfjmdkhemnmkpaaGreatDoor
