/- Parts of the proof: KtG, KtH, KtI, WxGoS, WxIter, WvFn. -/
import Derived.Test.YtfjmdkhemnmkpaaGreatDoorR30
import Derived.Test.YtfjmdkhemnmkpaaGreatDoorR29
import Derived.Test.YtfjmdkhemnmkpaaGreatDoorR14
import Derived.Laws.OwnMore
import Derived.Laws.MakeOwn
import Derived.Test.YtfjmdkhemnmkpaaGreatDoorR28
import Derived.RangeFuncSeq
import Derived.Shelf.AbstractIn
import Derived.Test.YtfjmdkhemnmkpaaGreatDoorR01
set_option maxRecDepth 100000
set_option maxHeartbeats 8000000
namespace Go.Proofs.YtfjmdkhemnmkpaaGreatDoor
open Go.RowKit
def topN (l:List CM) (n:Nat):Nat:=(topW l n+1).toNat
theorem topN_num (l:List CM):topN l l.length=numW l:=rfl
theorem topN_zero (l:List CM):topN l 0=0:=by simp [topN,topW]
theorem wave_top {l:List CM} {n:Nat} (h:n<l.length):waveI l n<=topN l n:=by
 have h0:=topW_lo l n;unfold topN
 rcases Nat.eq_zero_or_pos (waveI l n) with e|e
 ·omega
 ·obtain ⟨k,h1,h2⟩:=wave_prev h e;have:=topW_ge l n k h1;omega
theorem topN_succ (l:List CM) (n:Nat):topN l (n+1)=max (topN l n) (waveI l n+1):=by
 have h0:=topW_lo l n;unfold topN;simp only [topW];omega
theorem topN_le (l:List CM):∀n,n<=l.length->topN l n<=n
 |0,_=>by rw [topN_zero];exact nLr _
 |n+1,h=>by
  have h1:=topN_le l n (by omega);have h2:=waveI_le (l:=l) n (by omega);rw [topN_succ];omega
section
variable {base:Nat} {W:World} {v:Value} {l:List Nat}
theorem OwnI.blk (h:OwnI base W v l) (hl:0<l.length):∃g c,v=.slice (some ⟨g,0,none⟩) l.length c/\base<=g/\g<W.heap.size/\l.length<=c/\(∀j (hj:j<l.length),W.cell? ⟨g,j,none⟩=some (.int .i64 (l[j]:Int)))/\∀j,W.frozen? ⟨g,j,none⟩=false:=by
 rcases h.2 with ⟨_,h0⟩|⟨g,cap,cur,e,hb,hg,hn,_⟩
 ·omega
 ·subst e;refine ⟨g,cap,rfl,hb,(geS.1 hg).1,hn,fun j hj=>?_,fun j=>World.ownsRow.frozenAt h j⟩;have c0:=World.ownsRow.cells h (g:=g) rfl j (.int .i64 (l[j]:Int)) (by simp [cellsI,hj])
  rwa [addr_add,Nat.zero_add] at c0
theorem OwnI.store {g n c:Nat} (h:OwnI base W (.slice (some ⟨g,0,none⟩) n c) l) (hn:n=l.length) (j x:Nat) {z:Int} (hz:z=(x:Int)):OwnI base (W.setCell ⟨g,j,none⟩ (.int .i64 z)) (.slice (some ⟨g,0,none⟩) n c) (l.set j x)/\W.grownBy (W.setCell ⟨g,j,none⟩ (.int .i64 z)) (some g):=by
 subst hz hn;have:=World.ownsRow.stored h j (.int .i64 (x:Int));refine ⟨?_,this.2⟩;unfold OwnI;rw [List.length_set,show cellsI (l.set j x)=(cellsI l).set j (.int .i64 (x:Int)) by simp [cellsI,List.map_set]];exact this.1
end
theorem set_all {l:List Nat} {j x n:Nat} (h:∀s∈l,s<=n) (hx:x<=n):∀s∈l.set j x,s<=n:=fun s hs=>by
 rcases List.mem_or_eq_of_mem_set hs with h1|h1
 ·exact h s h1
 ·omega
theorem snoc_at {ss:List Nat} {v:Nat} (h:ss.length=v) (h2:v<(ss++[0]).length):(ss++[0])[v]=0:=by
 subst h;simp
theorem sizes_any (A:Option Addr) (L c:Nat) (ms:List CM) (w:World) (hL:L=ms.length) (hm:L<=1000) (hA:HasI w A (wavesI ms)):
 Calls Tryz.prog 100 #[.slice A L c] w fun e W'=>∃x,e=.returned x/\∃ss:List Nat,ss.length=numW ms/\(∀s∈ss,s<=1000)/\OwnI w.heap.size W' x ss/\Below w.heap.size w W':=by
 have HA:=hiD hA;have HL:=hiD (aI hL hm);have hLi:(L:Int)<=1000:=by omega
 clear hL hm hA;go_enter Tryz.func100,Tryz.ntmps100;go_wp2
 go_loopw [3,8] (fun s3 i wr=>∃(n t:Nat) (A3:Option Addr) (c3:Nat) (ss:List Nat),n<=L/\i=.int .i64 (n:Int)/\s3=.slice A3 t c3/\t=topN ms n/\Hid (ss.length=t/\(∀s∈ss,s<=n)/\OwnI w.heap.size wr (.slice A3 t c3) ss/\Below w.heap.size w wr)) (fun _ i _=>L - (intOf i).toNat)
 case atStart=>exact ⟨0,0,none,0,[],Nat.zero_le _,rfl,rfl,(topN_zero ms).symm,hiD ⟨rfl,by simp,OwnI.nil _ _,Below.refl _ _⟩⟩
 case round=>
  obtain ⟨n,t,A3,c3,ss,hn,rfl,rfl,ht,HO⟩:=hrel
  by_cases hlt:n<L
  ·have hni:(n:Int)<L:=by omega
   have hnm:n<ms.length:=by have:=HL.out.1;omega
   have hnw:n<(wavesI ms).length:=by rw [wavesI_len];exact hnm
   obtain ⟨bb,o,e1,l1,f1⟩:=HA.out (by intro e;rw [e] at hnw;simp at hnw);subst e1;have g1:=(HO.out.2.2.2.cell (p:=⟨bb,o+n,none⟩) l1).trans (f1 n hnw);rw [wavesI_at hnw] at g1;have hvt:=wave_top hnm;have hts:=topN_succ ms n;have htl:=topN_le ms n (by omega);rw [<-ht] at hvt hts htl;have hvl:=waveI_le (l:=ms) n hnm;obtain ⟨v,hv⟩:∃v,v=waveI ms n:=⟨_,rfl⟩;rw [<-hv] at g1 hvt hts hvl;have HT:=hiD (aI ht (aI hts htl));have htc:(t:Int)<=1000:=by omega
   clear f1 hnw hv hts htl hnm ht
   by_cases he:v=t
   ·subst he;have hvi:(v:Int)<9223372036854775807:=by omega
    clear hvt hvl;go_upto_region 6 with (fail)
    have hss:(ss++[0]).length=v+1:=by rw [List.length_append,HO.out.1];rfl
    have hz0:∀h2,(ss++[0])[v]'h2=0:=fun h2=>snoc_at HO.out.1 h2
    have HSS:=hiD (aI hss hz0);have c1:=cell_one_new wr (.int .i64 ((0:Nat):Int)) 3 0 _ rfl;have C1:=hiD c1;clear hss hz0 c1
    go_wp2_with (at_builtin;refine wpList_append_I rfl (.tmp 16) (.tmp 17) rfl w.heap.size (.slice A3 v c3) ss rfl (HO.out.2.2.1.below ((Below.refl _ wr).alloc (nLr _) _)) wr.heap.size 1 0 rfl C1.out (by have:=HO.out.1;have:=HT.out.2.2;have:=HL.out.2;omega) (by have:=HO.out.2.2.2.size;simp;omega) ?_;intro v4 W4 ho4 hg4;obtain ⟨g4,c4,rfl,hb4,hl4,hc4,k4,z4⟩:=ho4.blk (by simp);have x4:=k4 v (by have:=HSS.out.1;omega);have y4:=z4 v;rw [HSS.out.2 _] at x4;rw [HSS.out.1] at ho4 ⊢;have H4:=hiD (aI ho4 (aI hg4 hb4));clear ho4 hg4 hb4 hl4 hc4 k4 z4)
    obtain ⟨k1,k2⟩:=OwnI.store H4.out.1 HSS.out.1.symm v 1 (z:=1) rfl;have hb4:Below w.heap.size w W4:=(HO.out.2.2.2.alloc HO.out.2.2.2.size _).grown H4.out.2.1 (nLt HO.out.2.2.2.size (by simp)) HO.out.2.2.1.ge
    exact ⟨⟨n+1,v+1,some ⟨g4,0,none⟩,c4,(ss++[0]).set v 1,by omega,by congr 1,rfl,by rw [HT.out.2.1];omega,hiD ⟨by rw [List.length_set,HSS.out.1],set_all (fun s hs=>by
     rcases List.mem_append.1 hs with h|h
     ·have:=HO.out.2.1 s h;omega
     ·have:s=0:=by simpa using h
      omega) (by omega),k1,hb4.setCell (p:=⟨g4,v,none⟩) H4.out.2.2 _⟩⟩,by simp only [intOf];omega⟩
   ·have hei:¬(v:Int)=t:=by omega
    have hvi:(v:Int)<t:=by omega
    have hvl2:v<ss.length:=by have:=HO.out.1;omega
    obtain ⟨g4,c4,e4,hb4,hl4,hc4,k4,z4⟩:=HO.out.2.2.1.blk (by omega);obtain ⟨rfl,_,rfl⟩:A3=some ⟨g4,0,none⟩/\t=ss.length/\c3=c4:=by injection e4 with a b c;exact ⟨a,b,c⟩
    have x4:=k4 v hvl2;have y4:=z4 v;have hs:=HO.out.2.1 ss[v] (List.getElem_mem hvl2);obtain ⟨s,hsv⟩:∃s,s=ss[v]:=⟨_,rfl⟩;rw [<-hsv] at x4 hs;have hsi:(s:Int)<=1000:=by have:=HL.out.2;omega
    have HG:=hiD (aI hb4 (aI hs hlt));clear hb4 hl4 hc4 k4 z4 hsv hvl2 e4 hvt hvl hs;go_wp2;obtain ⟨k1,k2⟩:=OwnI.store HO.out.2.2.1 HO.out.1.symm v (s+1) (z:=(s:Int)+1) (by omega);exact ⟨⟨n+1,t,some ⟨g4,0,none⟩,c3,ss.set v (s+1),by omega,by congr 1,rfl,by rw [HT.out.2.1];omega,hiD ⟨by rw [List.length_set];exact HO.out.1,set_all (fun s hs=>by have:=HO.out.2.1 s hs;omega) (by have:=HG.out.2.1;omega),k1,HO.out.2.2.2.setCell (p:=⟨g4,v,none⟩) HG.out.1 _⟩⟩,by simp only [intOf];omega⟩
  ·have hni:¬(n:Int)<L:=by omega
   obtain rfl:n=L:=by omega
   have HT:=hiD ht;clear ht hlt;go_wp2;go_ret;exact ⟨_,rfl,ss,by rw [HO.out.1,HT.out,HL.out.1,topN_num],fun s hs=>by have:=HO.out.2.1 s hs;have:=HL.out.2;omega,by have h:=HO.out.2.2.1;exact h,HO.out.2.2.2⟩
theorem infoL:(Tryz.prog.info? 23).map (fun i=>(i.zero,i.size,i.bytes))=some (some (.slice none 0 0),1,24):=by kernel_rfl
theorem infoL_parts:∃i,Tryz.prog.info? 23=some i/\i.zero=some (.slice none 0 0)/\i.size=1/\i.bytes=24:=by
 have h:=infoL
 cases hi:Tryz.prog.info? 23 with
 |none=>rw [hi] at h;cases h
 |some i=>rw [hi] at h;simp at h;exact ⟨i,rfl,h.1,h.2.1,h.2.2⟩
def OwnL (base:Nat) (w:World) (v:Value) (vs:List Value):Prop:=w.ownsRow base 23 1 v vs.length vs
section
variable {base:Nat} {w w':World} {v u:Value} {vs:List Value} {l:List Nat}
theorem OwnL.form (h:OwnL base w v vs):∃A c,v=.slice A vs.length c/\vs.length<=c:=by
 rcases h.2 with ⟨rfl,h0⟩|⟨g,cap,cur,rfl,_,_,hn,_⟩
 ·exact ⟨none,0,by rw [h0],by omega⟩
 ·exact ⟨_,_,rfl,hn⟩
theorem OwnL.kept (h:OwnL base w v vs) {row:Option Nat} (hg:w.grownBy w' row) (hr:∀k,v.ownBlock=some k->row≠some k):OwnL base w' v vs:=by
 refine World.ownsRow.kept h hg ?_
 cases hv:v.ownBlock with
 |none=>exact .inl rfl
 |some x=>exact .inr (fun e=>hr x hv e.symm)
theorem OwnL.below (h:OwnL base w v vs) (hb:Below w.heap.size w w'):OwnL base w' v vs:=h.kept (grownBy_of_below (r:=none) hb) (fun _ _ e=>by cases e)
theorem OwnL.typ (h:OwnL base w v vs) {k:Nat} (hk:v.ownBlock=some k):base<=k/\∃cs,w.heap[k]?=some (.cells cs 23 (0,0)):=by
 rcases h.2 with ⟨rfl,_⟩|⟨g,cap,cur,rfl,hb,hg,_⟩
 ·cases hk
 ·obtain rfl:g=k:=by simpa [Value.ownBlock] using hk
  exact ⟨hb,cur,hg⟩
theorem OwnL.nil (base:Nat) (w:World):OwnL base w (.slice none 0 0) []:=World.ownsRow_nil _ _ _ _
theorem OwnI.kept (h:OwnI base w v l) {row:Option Nat} (hg:w.grownBy w' row) (hr:∀k,v.ownBlock=some k->row≠some k):OwnI base w' v l:=by
 refine World.ownsRow.kept h hg ?_
 cases hv:v.ownBlock with
 |none=>exact .inl rfl
 |some x=>exact .inr (fun e=>hr x hv e.symm)
theorem OwnI.typ (h:OwnI base w v l) {k:Nat} (hk:v.ownBlock=some k):base<=k/\∃cs,w.heap[k]?=some (.cells cs 3 (0,0)):=by
 rcases h.2 with ⟨rfl,_⟩|⟨g,cap,cur,rfl,hb,hg,_⟩
 ·cases hk
 ·obtain rfl:g=k:=by simpa [Value.ownBlock] using hk
  exact ⟨hb,cur,hg⟩
theorem OwnI.lt (h:OwnI base w v l) {k:Nat} (hk:v.ownBlock=some k):k<w.heap.size:=by
 obtain ⟨_,cs,hc⟩:=h.typ hk;exact (geS.1 hc).1
theorem OwnI.apartL (h:OwnI base w u l) (k:OwnL base w v vs) {i j:Nat} (hi:u.ownBlock=some i) (hj:v.ownBlock=some j):i≠j:=by
 obtain ⟨_,cs,h1⟩:=h.typ hi;obtain ⟨_,ds,h2⟩:=k.typ hj;intro e;rw [e,h2] at h1;have h3:=(Obj.cells.inj (osI h1)).2.1;exact absurd h3 (by decide)
end
theorem wpList_append_L {ops:Array Oper} {rest:List Oper} {o:Oper} {a:Act} {w:World} {Q:Exit->Act->World->Prop} (hgd:o.guard=none) (s x:Operand)
 (ho:o.op=.call {callee:=.builtin .append,args:=#[s,x],argTypes:=#[102,102]}) (base:Nat) (v:Value) (vs:List Value) (hs:a.eval s=v) (hown:OwnL base w v vs)
 (b c:Nat) (u:Value) (hu:u.oneCell'=true) (hx:a.eval x=.slice (some ⟨b,0,none⟩) 1 c) (hA:w.cell? ⟨b,0,none⟩=some u) (hlen:vs.length+1<=1000000) (hbase:base<=w.heap.size)
 (h:∀v' w',OwnL base w' v' (vs++[u])->w.grownBy w' v.ownBlock->wpList Tryz.prog ops Q rest (a.put o.dst v') w'):wpList Tryz.prog ops Q (o::rest) a w:=by
 obtain ⟨i,hi,hz,hsz,hby⟩:=infoL_parts;refine wpList_append_own_at w hgd s x 102 ho base 23 i _ 1 24 Tryz.underlying102 hi hz hsz hby rfl (by omega) v vs.length vs hs hown ⟨b,0,none⟩ 1 c [u] hx rfl (fun j y hj=>?_) (fun y hy=>by rw [List.mem_singleton.1 hy];exact hu) (by simp only [maxLen];omega) (by omega) hbase ?_
 ·have hjl:j<1:=(List.getElem?_eq_some_iff.1 hj).1;obtain rfl:j=0:=by omega
  rw [addr_add];have:y=u:=by simpa using hj.symm
  rw [this];exact hA
 ·intro v' w' h1 h2 _ _;refine h v' w' ?_ h2;unfold OwnL;rw [List.length_append];exact h1
theorem wpList_append_I2 {ops:Array Oper} {rest:List Oper} {o:Oper} {a:Act} {w:World} {Q:Exit->Act->World->Prop} (hgd:o.guard=none) (s x:Operand)
 (ho:o.op=.call {callee:=.builtin .append,args:=#[s,x],argTypes:=#[23,23]}) (base:Nat) (v:Value) (l:List Nat) (hs:a.eval s=v) (hown:OwnI base w v l)
 (b:Nat) (c:Nat) (t:Nat) (hx:a.eval x=.slice (some ⟨b,0,none⟩) 1 c) (hA:w.cell? ⟨b,0,none⟩=some (.int .i64 (t:Int))) (hlen:l.length+1<=1000000) (hbase:base<=w.heap.size)
 (h:∀v' w',OwnI base w' v' (l++[t])->w.grownBy w' v.ownBlock->(v'.ownBlock=v.ownBlock\/v'.ownBlock=some w.heap.size)->wpList Tryz.prog ops Q rest (a.put o.dst v') w'):wpList Tryz.prog ops Q (o::rest) a w:=by
 obtain ⟨i,hi,hz,hsz,hby⟩:=infoI_parts;refine wpList_append_own_at w hgd s x 23 ho base 3 i _ 1 8 Tryz.underlying23 hi hz hsz hby rfl (by omega) v l.length (cellsI l) hs hown ⟨b,0,none⟩ 1 c (cellsI [t]) hx rfl (fun j u hj=>?_) (cellsI_one [t]) (by simp only [maxLen];omega) (by omega) hbase ?_
 ·have hjl:j<1:=(List.getElem?_eq_some_iff.1 hj).1;obtain rfl:j=0:=by omega
  rw [addr_add];have:u=.int .i64 (t:Int):=by simpa [cellsI] using hj.symm
  rw [this];exact hA
 ·intro v' w' h1 h2 _ h3;refine h v' w' ?_ h2 h3;unfold OwnI;rw [show cellsI (l++[t])=cellsI l++cellsI [t] by simp [cellsI],List.length_append];exact h1
structure GrQ (base:Nat) (W:World) (v:Value) (vs:List Value) (gs:List (List Nat)):Prop where
 row:OwnL base W v vs
 len:vs.length=gs.length
 own:∀(j:Nat) (u:Value) (g:List Nat),vs[j]?=some u->gs[j]?=some g->OwnI base W u g
 ne:∀(i j:Nat) (u u':Value),vs[i]?=some u->vs[j]?=some u'->i≠j->u.ownBlock≠u'.ownBlock
section
variable {base:Nat} {W W':World} {v v' u:Value} {vs:List Value} {gs:List (List Nat)}
theorem GrQ.get (h:GrQ base W v vs gs) {j:Nat} {u:Value} (hj:vs[j]?=some u):∃g,gs[j]?=some g/\OwnI base W u g:=by
 have h1:=(List.getElem?_eq_some_iff.1 hj).1;have h2:j<gs.length:=by rw [<-h.len];exact h1
 exact ⟨gs[j],List.getElem?_eq_getElem h2,h.own j u _ hj (List.getElem?_eq_getElem h2)⟩
theorem GrQ.mono (h:GrQ base W v vs gs) {b:Nat} (hb:b<=base):GrQ b W v vs gs:=by
 refine ⟨?_,h.len,fun j u g h1 h2=>(h.own j u g h1 h2).mono hb,h.ne⟩;refine ⟨h.row.1,?_⟩
 rcases h.row.2 with h2|⟨g,cap,cur,e,h1,h2⟩
 ·exact .inl h2
 ·exact .inr ⟨g,cap,cur,e,nLt hb h1,h2⟩
theorem GrQ.below (h:GrQ base W v vs gs) (hb:Below W.heap.size W W'):GrQ base W' v vs gs:=
 ⟨h.row.below hb,h.len,fun j u g h1 h2=>(h.own j u g h1 h2).below hb,h.ne⟩
theorem GrQ.add (h:GrQ base W v vs gs) (hu:OwnI base W u []) {k:Nat} (hk:u.ownBlock=some k) (hf:∀(j:Nat) (x:Value) (y:Nat),vs[j]?=some x->x.ownBlock=some y->y≠k) (hr:OwnL base W' v' (vs++[u])) (hg:W.grownBy W' v.ownBlock):GrQ base W' v' (vs++[u]) (gs++[[]]):=by
 have keep:∀x g,OwnI base W x g->OwnI base W' x g:=fun x g hx=>hx.kept hg (fun i hi e=>hx.apartL h.row hi e rfl)
 refine ⟨hr,by rw [List.length_append,List.length_append,h.len];rfl,fun j x g h1 h2=>?_,fun i j x x' h1 h2 hij=>?_⟩
 ·rcases Nat.lt_or_ge j vs.length with hj|hj
  ·rw [List.getElem?_append_left hj] at h1;rw [List.getElem?_append_left (by rw [<-h.len];exact hj)] at h2;exact keep x g (h.own j x g h1 h2)
  ·have hlt:=(List.getElem?_eq_some_iff.1 h1).1;rw [List.length_append,List.length_singleton] at hlt;obtain rfl:j=vs.length:=by omega
   rw [List.getElem?_append_right (nLr _)] at h1;rw [h.len,List.getElem?_append_right (nLr _)] at h2;obtain rfl:u=x:=by simpa using h1
   obtain rfl:[]=g:=by simpa using h2
   exact keep u [] hu
 ·have hl:∀{i:Nat} {x:Value},(vs++[u])[i]?=some x->vs[i]?=some x\/(i=vs.length/\x=u):=by
   intro i x hi
   rcases Nat.lt_or_ge i vs.length with hj|hj
   ·rw [List.getElem?_append_left hj] at hi;exact .inl hi
   ·have hlt:=(List.getElem?_eq_some_iff.1 hi).1;rw [List.length_append,List.length_singleton] at hlt;obtain rfl:i=vs.length:=by omega
    rw [List.getElem?_append_right (nLr _)] at hi;exact .inr ⟨rfl,by simpa using hi.symm⟩
  rcases hl h1 with k1|⟨k1,q1⟩<;>rcases hl h2 with k2|⟨k2,q2⟩
  ·exact h.ne i j x x' k1 k2 hij
  ·intro e;exact hf i x k k1 (by rw [e,q2,hk]) rfl
  ·intro e;exact hf j x' k k2 (by rw [<-e,q1,hk]) rfl
  ·exact absurd (k1.trans k2.symm) hij
end
theorem empty_any (A:Option Addr) (L c:Nat) (ms:List CM) (w:World) (hL:L=ms.length) (hm:L<=1000) (hA:HasI w A (wavesI ms)):
 Calls Tryz.prog 78 #[.slice A L c] w fun e W'=>∃x,e=.returned x/\(∃vs,GrQ w.heap.size W' x vs (List.replicate (numW ms) []))/\Below w.heap.size w W':=by
 obtain ⟨i0,hi0,hz0,hs0,hb0⟩:=infoI_parts;have HS:=hiD (sizes_any A L c ms w hL hm hA);have hnl:numW ms<=1000:=by rw [<-topN_num];exact nLt (topN_le ms _ (nLr _)) (by omega)
 obtain ⟨N,hN⟩:∃N,N=numW ms:=⟨_,rfl⟩;rw [<-hN] at HS hnl ⊢;clear hL hm hA hN;go_enter Tryz.func78,Tryz.ntmps78
 go_wp2_with fail
 refine HS.out.mono ?_;rintro e W1 ⟨x,rfl,ss,hss,hle,hown,hb1⟩;obtain ⟨A1,c1,rfl,hc1⟩:=hown.form;rw [hss] at hown hc1 ⊢;obtain ⟨B,hB⟩:∃B,B=W1.heap.size:=⟨_,rfl⟩;have HH:=hiD (aI hown.has (aI hss (aI hle (show w.heap.size<=B by rw [hB];exact hb1.size))));have H1:Hid (GrQ B W1 (.slice none 0 0) [] (List.replicate 0 [])/\Below B W1 W1/\B<=W1.heap.size):=hiD ⟨⟨OwnL.nil _ _,rfl,fun j u g h=>by simp at h,fun i j u u' h=>by simp at h⟩,Below.refl _ _,by omega⟩;have HB:=hiD (aI hb1 hB);have hNi:(N:Int)<=1000:=by omega
 clear hss hle hown hc1 hb1 hB;go_wp2
 go_loopw [3,10] (fun s3 i wr=>∃(n:Nat) (A3:Option Addr) (c3:Nat) (vs:List Value),n<=N/\i=.int .i64 (n:Int)/\s3=.slice A3 n c3/\Hid (vs.length=n/\GrQ B wr (.slice A3 n c3) vs (List.replicate n [])/\Below B W1 wr/\B<=wr.heap.size)) (fun _ i _=>N - (intOf i).toNat)
 case atStart=>exact ⟨0,none,0,[],Nat.zero_le _,rfl,rfl,hiD ⟨rfl,H1.out.1,H1.out.2⟩⟩
 case round=>
  obtain ⟨n,A3,c3,vs,hn,rfl,rfl,HO⟩:=hrel
  by_cases hlt:n<N
  ·have hni:(n:Int)<N:=by omega
   have hnl2:n<ss.length:=by have:=HH.out.2.1;omega
   obtain ⟨bb,o,e1,l1,f1⟩:=HH.out.1 (by rintro rfl;simp at hnl2);subst e1;have g1:=(HO.out.2.2.1.cell (p:=⟨bb,o+n,none⟩) (by have:=HB.out.2;show bb<B;omega)).trans (f1 n hnl2);have hsl:=HH.out.2.2.1 ss[n] (List.getElem_mem hnl2);obtain ⟨s,hs⟩:∃s,s=ss[n]:=⟨_,rfl⟩;rw [<-hs] at g1 hsl;obtain ⟨w1,hmk,hmo,hmg⟩:=run_make_own (P:=Tryz.prog) wr B 23 3 i0 (.int .i64 0) 1 Tryz.underlying23 hi0 hz0 hs0 .i64 .i64 s (by rw [hb0];omega) (by simp only [maxLen];omega) HO.out.2.2.2;have hsi:(s:Int)<=1000:=by omega
   obtain ⟨f,hf⟩:∃f,f=wr.heap.size:=⟨_,rfl⟩;rw [<-hf] at hmk hmo;have hb2:Below wr.heap.size wr w1:=(Below.refl _ wr).grown hmg (nLr _) (fun k e=>by cases e);have hgr1:=HO.out.2.1.below hb2;have hui:OwnI B w1 (.slice (some ⟨f,0,none⟩) 0 s) []:=hmo;have hc1:=cell_one_new w1 (.slice (some ⟨f,0,none⟩) 0 s) 23 0 _ rfl;have hbx:Below w1.heap.size w1 (w1.alloc (.cells #[.slice (some ⟨f,0,none⟩) 0 s] 23)):=(Below.refl _ w1).alloc (nLr _) _;have HU:=hiD (aI hui (aI hf (aI hc1 (aI hgr1 (aI hb2 hbx)))));clear f1 hnl2 hs hmo hmg hb2 hgr1 hui hf hc1 hsl hbx
   go_wp2_with (at_builtin;refine wpList_append_L rfl (.tmp 13) (.tmp 19) rfl B (.slice A3 n c3) vs rfl (HU.out.2.2.2.1.row.below HU.out.2.2.2.2.2) w1.heap.size 1 (.slice (some ⟨f,0,none⟩) 0 s) rfl rfl HU.out.2.2.1 (by have:=HO.out.1;omega) (by have:=HO.out.2.2.2;have:=HU.out.2.2.2.2.1.size;simp;omega) ?_;intro v4 W4 ho4 hg4;obtain ⟨A4,c4,rfl,_⟩:=ho4.form;have H4:=hiD (aI ho4 hg4);clear ho4 hg4)
   have hlv:(vs++[Value.slice (some ⟨f,0,none⟩) 0 s]).length=n+1:=by rw [List.length_append,HO.out.1];rfl
   have hgq:=(HU.out.2.2.2.1.below HU.out.2.2.2.2.2).add (HU.out.1.below HU.out.2.2.2.2.2) (k:=f) rfl (fun j x y hj hy=>by
    obtain ⟨g,_,hx⟩:=HO.out.2.1.get hj;have:=hx.lt hy;have:=HU.out.2.1;omega) H4.out.1 H4.out.2
   rw [hlv] at hgq;rw [HO.out.1];have hw1:Below B W1 w1:=HO.out.2.2.1.trans (Below.mono HU.out.2.2.2.2.1 HO.out.2.2.2);have hs1:B<=w1.heap.size:=nLt HO.out.2.2.2 HU.out.2.2.2.2.1.size;refine ⟨⟨n+1,A4,c4,vs++[.slice (some ⟨f,0,none⟩) 0 s],by omega,by congr 1,rfl,hiD ⟨hlv,by rw [List.replicate_succ'];exact hgq,(hw1.alloc hs1 _).grown H4.out.2 (nLt hs1 (by simp)) (fun k hk=>(HO.out.2.1.row.typ hk).1),?_⟩⟩,by simp only [intOf];omega⟩;have h5:=H4.out.2.size;simp at h5;omega
  ·have hni:¬(n:Int)<N:=by omega
   obtain rfl:n=N:=by omega
   clear hlt;go_wp2;go_ret;exact ⟨_,rfl,⟨vs,HO.out.2.1.mono HH.out.2.2.2⟩,HB.out.1.trans (Below.mono HO.out.2.2.1 HH.out.2.2.2)⟩
def gsN (ms:List CM) (n:Nat):List (List Nat):=(List.range (numW ms)).map fun w=>(List.range n).filter fun i=>decide (waveI ms i=w)
theorem gsN_all (ms:List CM):gsN ms ms.length=groupsM ms:=rfl
theorem gsN_len (ms:List CM) (n:Nat):(gsN ms n).length=numW ms:=by simp [gsN]
theorem gsN_zero (ms:List CM):gsN ms 0=List.replicate (numW ms) []:=by
 apply List.ext_getElem?
 intro i;simp only [gsN,List.getElem?_map,List.getElem?_replicate]
 by_cases h:i<numW ms
 ·simp [h]
 ·simp [h]
theorem gsN_at (ms:List CM) (n:Nat) {v:Nat} (h:v<numW ms):(gsN ms n)[v]?=some ((List.range n).filter fun i=>decide (waveI ms i=v)):=by
 simp [gsN,h]
theorem gsN_succ (ms:List CM) (n:Nat) {g:List Nat} (h:(gsN ms n)[waveI ms n]?=some g):gsN ms (n+1)=(gsN ms n).set (waveI ms n) (g++[n]):=by
 have hv:waveI ms n<numW ms:=by
  have:=(List.getElem?_eq_some_iff.1 h).1
  rwa [gsN_len] at this
 rw [gsN_at ms n hv] at h;obtain rfl:=osI h
 apply List.ext_getElem?
 intro i;rw [List.getElem?_set]
 by_cases hi:i<numW ms
 ·rw [gsN_at ms (n+1) hi,gsN_at ms n hi,gsN_len,List.range_succ,List.filter_append]
  by_cases he:waveI ms n=i
  ·subst he;rw [if_pos rfl,if_pos hv];simp
  ·rw [if_neg he];simp [he]
 ·have h1:(gsN ms (n+1))[i]?=none:=List.getElem?_eq_none (by rw [gsN_len];omega);have h2:(gsN ms n)[i]?=none:=List.getElem?_eq_none (by rw [gsN_len];omega);rw [h1,h2,gsN_len,if_neg (by omega)]
section
variable {base:Nat} {W W':World} {G N c:Nat} {vs:List Value} {gs:List (List Nat)}
theorem GrQ.app (h:GrQ base W (.slice (some ⟨G,0,none⟩) N c) vs gs) {j:Nat} {u u':Value} {g:List Nat} {x:Nat} (hj:vs[j]?=some u) (hgj:gs[j]?=some g) (hu:OwnI base W' u' (g++[x])) (hg:W.grownBy W' u.ownBlock) (hb:u'.ownBlock=u.ownBlock\/u'.ownBlock=some W.heap.size):
 GrQ base (W'.setCell ⟨G,j,none⟩ u') (.slice (some ⟨G,0,none⟩) N c) (vs.set j u') (gs.set j (g++[x])):=by
 have hui:=h.own j u g hj hgj
 have hN:N=vs.length:=by
  obtain ⟨A,c',e,_⟩:=h.row.form
  injection e
 have hrow:OwnL base W' (.slice (some ⟨G,0,none⟩) N c) vs:=h.row.kept hg (fun k hk e=>hui.apartL h.row e hk rfl)
 have hst:OwnL base (W'.setCell ⟨G,j,none⟩ u') (.slice (some ⟨G,0,none⟩) N c) (vs.set j u'):=by
  have h1:=hrow;unfold OwnL at h1 ⊢;rw [List.length_set];rw [<-hN] at h1 ⊢;exact (World.ownsRow.stored h1 j u').1
 have oth:∀y l,OwnI base W' y l->OwnI base (W'.setCell ⟨G,j,none⟩ u') y l:=fun y l hy=>ownsRow_setCell_other (a:=⟨G,j,none⟩) hy (fun e=>hy.apartL hrow e rfl rfl) u'
 have old:∀i y l,i≠j->vs[i]?=some y->OwnI base W y l->OwnI base W' y l:=fun i y l hi hy ho=>ho.kept hg (fun k hk e=>h.ne i j y u hy hj hi (hk.trans e.symm))
 have hjl:=(List.getElem?_eq_some_iff.1 hj).1
 have hne:∀i y,i≠j->vs[i]?=some y->u'.ownBlock≠y.ownBlock:=fun i y hi hy=>by
  rcases hb with e|e
  ·rw [e];exact h.ne j i u y hj hy (Ne.symm hi)
  ·intro e2;obtain ⟨l,_,hl⟩:=h.get hy;have:=hl.lt (k:=W.heap.size) (by rw [<-e2,e]);omega
 refine ⟨hst,by rw [List.length_set,List.length_set];exact h.len,fun i y l h1 h2=>?_,fun i k y y' h1 h2 hik=>?_⟩
 ·rw [List.getElem?_set] at h1 h2
  by_cases hi:j=i
  ·subst hi;rw [if_pos rfl,if_pos hjl] at h1;rw [if_pos rfl,if_pos (by rw [<-h.len];exact hjl)] at h2;obtain rfl:=osI h1;obtain rfl:=osI h2;exact oth _ _ hu
  ·rw [if_neg hi] at h1 h2;exact oth _ _ (old i y l (Ne.symm hi) h1 (h.own i y l h1 h2))
 ·rw [List.getElem?_set] at h1 h2
  by_cases hi:j=i
  ·subst hi;rw [if_pos rfl,if_pos hjl] at h1;rw [if_neg hik] at h2;obtain rfl:=osI h1;exact hne k y' (Ne.symm hik) h2
  ·rw [if_neg hi] at h1
   by_cases hk:j=k
   ·subst hk;rw [if_pos rfl,if_pos hjl] at h2;obtain rfl:=osI h2;exact Ne.symm (hne i y hik h1)
   ·rw [if_neg hk] at h2;exact h.ne i k y y' h1 h2 hik
end
theorem OwnL.blk {base:Nat} {W:World} {v:Value} {vs:List Value} (h:OwnL base W v vs) (hl:0<vs.length):∃g c,v=.slice (some ⟨g,0,none⟩) vs.length c/\base<=g/\g<W.heap.size/\vs.length<=c/\(∀j u,vs[j]?=some u->W.cell? ⟨g,j,none⟩=some u)/\∀j,W.frozen? ⟨g,j,none⟩=false:=by
 rcases h.2 with ⟨_,h0⟩|⟨g,cap,cur,e,hb,hg,hn,_⟩
 ·omega
 ·subst e;refine ⟨g,cap,rfl,hb,(geS.1 hg).1,hn,fun j u hj=>?_,fun j=>World.ownsRow.frozenAt h j⟩;have c0:=World.ownsRow.cells h (g:=g) rfl j u hj
  rwa [addr_add,Nat.zero_add] at c0
theorem GrQ.has {base:Nat} {W:World} {A:Option Addr} {N c:Nat} {vs:List Value} {gs:List (List Nat)} (h:GrQ base W (.slice A N c) vs gs):HasR W A gs:=fun hne=>by
 have hl:0<vs.length:=by rw [h.len];exact List.length_pos_iff.2 hne
 obtain ⟨g,c',e,_,hlt,_,hc,_⟩:=h.row.blk hl
 injection e with e1 _ _
 subst e1;refine ⟨g,0,rfl,hlt,fun j hj=>?_⟩;have hjv:j<vs.length:=by rw [h.len];exact hj
 have ho:=h.own j vs[j] gs[j] (List.getElem?_eq_getElem hjv) (List.getElem?_eq_getElem hj);obtain ⟨A',c',e,hc'⟩:=ho.form;have hx:=hc j vs[j] (List.getElem?_eq_getElem hjv);rw [e] at hx ho;exact ⟨A',c',by rw [Nat.zero_add];exact hx,hc',ho.has⟩
def NewR (B:Nat) (w:World) (A:Option Addr) (gs:List (List Nat)):Prop:=gs≠[]->∃b o,A=some ⟨b,o,none⟩/\B<=b/\∀j (h:j<gs.length),∃A' c',w.cell? ⟨b,o+j,none⟩=some (.slice A' gs[j].length c')/\∀x i m,A'=some ⟨x,i,m⟩->B<=x
theorem NewR.mono {B C:Nat} {w:World} {A:Option Addr} {gs:List (List Nat)} (h:NewR B w A gs) (hc:C<=B):NewR C w A gs:=fun hne=>by
 obtain ⟨b,o,e,h1,h2⟩:=h hne;refine ⟨b,o,e,nLt hc h1,fun j hj=>?_⟩;obtain ⟨A',c',k1,k2⟩:=h2 j hj;exact ⟨A',c',k1,fun x i m e=>nLt hc (k2 x i m e)⟩
theorem GrQ.new {base:Nat} {W:World} {A:Option Addr} {N c:Nat} {vs:List Value} {gs:List (List Nat)} (h:GrQ base W (.slice A N c) vs gs):NewR base W A gs:=fun hne=>by
 have hl:0<vs.length:=by rw [h.len];exact List.length_pos_iff.2 hne
 obtain ⟨g,c',e,hbg,hlt,_,hc,_⟩:=h.row.blk hl
 injection e with e1 _ _
 subst e1;refine ⟨g,0,rfl,hbg,fun j hj=>?_⟩;have hjv:j<vs.length:=by rw [h.len];exact hj
 have ho:=h.own j vs[j] gs[j] (List.getElem?_eq_getElem hjv) (List.getElem?_eq_getElem hj);obtain ⟨A',c',e,hc'⟩:=ho.form;have hx:=hc j vs[j] (List.getElem?_eq_getElem hjv);rw [e] at hx ho;exact ⟨A',c',by rw [Nat.zero_add];exact hx,fun x i m e=>ho.ge x (by rw [e];rfl)⟩
theorem groups_anyN (A:Option Addr) (L c:Nat) (l:List CmdV) (w:World) (hl:L=l.length) (hL:L<=100) (hA:HasC w A l) (hng:∀v∈l,¬v.great):
 Calls Tryz.prog 48 #[.slice A L c] w fun e W'=>∃A' N c',e=.returned (.slice A' N c')/\N=numW (l.map (·.m))/\N<=c'/\HasR W' A' (groupsM (l.map (·.m)))/\Below w.heap.size w W'/\NewR w.heap.size W' A' (groupsM (l.map (·.m))):=by
 have HWV:=hiD (waves_anyK A L c l w hl hL hA hng);obtain ⟨ms,hms⟩:∃ms,ms=l.map (·.m):=⟨_,rfl⟩;rw [<-hms] at HWV ⊢;have hmsl:ms.length=L:=by rw [hms,List.length_map];exact hl.symm
 have HM:=hiD hmsl;have hLi:(L:Int)<=100:=by omega
 clear hms hmsl hl hA hng;go_enter Tryz.func48,Tryz.ntmps48
 go_wp2_with fail
 refine HWV.out.mono ?_;rintro e W1 ⟨x,rfl,hown,hb1⟩;obtain ⟨A1,c1,rfl,hc1⟩:=hown.form;have hwl:(wavesI ms).length=L:=by rw [wavesI_len,HM.out]
 rw [hwl];have HE:=hiD (empty_any A1 L c1 ms W1 HM.out.symm (by omega) hown.has);have HW1:=hiD (aI hown.has hb1);clear hown hc1 hwl hb1
 go_wp2_with fail
 refine HE.out.mono ?_;rintro e W2 ⟨x,rfl,⟨vs0,hgr⟩,hb2⟩;obtain ⟨A2,c2,rfl,hc2⟩:=hgr.row.form;have hvl:vs0.length=numW ms:=by rw [hgr.len,List.length_replicate]
 rw [hvl] at hgr hc2 ⊢;obtain ⟨N,hN⟩:∃N,N=numW ms:=⟨_,rfl⟩;rw [<-hN] at hc2 ⊢;obtain ⟨B,hB⟩:∃B,B=W1.heap.size:=⟨_,rfl⟩;have H2:Hid (GrQ B W2 (.slice A2 N c2) vs0 (gsN ms 0)/\Below B W1 W2/\B<=W2.heap.size):=hiD ⟨by rw [gsN_zero,hB,hN];exact hgr,by rw [hB];exact hb2,by rw [hB];exact hb2.size⟩;have hN1:N<=100:=by rw [hN,<-topN_num];exact nLt (topN_le ms _ (nLr _)) (by have:=HM.out;omega)
 have HN:=hiD (aI hN (aI hc2 (aI hB hN1)));clear hgr hb2 hvl hB hc2 hN hN1;go_wp2
 go_loopw [13] (fun i wr=>∃(n:Nat) (vs:List Value),n<=L/\i=.int .i64 (n:Int)/\Hid (GrQ B wr (.slice A2 N c2) vs (gsN ms n)/\Below B W1 wr/\B<=wr.heap.size)) (fun i _=>L - (intOf i).toNat)
 case atStart=>exact ⟨0,vs0,Nat.zero_le _,rfl,H2⟩
 case round=>
  obtain ⟨n,vs,hn,rfl,HO⟩:=hrel
  by_cases hlt:n<L
  ·have hni:(n:Int)<L:=by omega
   have hnm:n<ms.length:=by have:=HM.out;omega
   have hnw:n<(wavesI ms).length:=by rw [wavesI_len];exact hnm
   obtain ⟨bb,o,e1,l1,f1⟩:=HW1.out.1 (by intro e;rw [e] at hnw;simp at hnw);subst e1;have g1:=(HO.out.2.1.cell (p:=⟨bb,o+n,none⟩) (by have:=HN.out.2.2.1;show bb<B;omega)).trans (f1 n hnw);rw [wavesI_at hnw] at g1;have hvN:waveI ms n<N:=by rw [HN.out.1];exact wave_num hnm
   have hgat:=gsN_at ms n (v:=waveI ms n) (by rw [<-HN.out.1];exact hvN);have hsucc:=gsN_succ ms n hgat;obtain ⟨v,hv⟩:∃v,v=waveI ms n:=⟨_,rfl⟩;rw [<-hv] at g1 hvN hgat hsucc;obtain ⟨g,hg⟩:∃g,g=(List.range n).filter fun i=>decide (waveI ms i=v):=⟨_,rfl⟩
   have hgl:g.length<=n:=by rw [hg];exact nLt (List.length_filter_le _ _) (by simp)
   rw [<-hg] at hgat hsucc;have hvl:vs.length=N:=by rw [HO.out.1.len,gsN_len,HN.out.1]
   have hvv:v<vs.length:=by omega
   obtain ⟨u,hu⟩:∃u,u=vs[v]:=⟨_,rfl⟩;have hju:vs[v]?=some u:=by rw [hu];exact List.getElem?_eq_getElem hvv
   have hou:=HO.out.1.own v u g hju hgat;obtain ⟨A5,c5,rfl,hc5⟩:=hou.form;obtain ⟨G,c6,e6,hbG,hlG,hcG,kG,zG⟩:=HO.out.1.row.blk (by omega);obtain ⟨rfl,rfl⟩:A2=some ⟨G,0,none⟩/\c2=c6:=by injection e6 with a b c;exact ⟨a,c⟩
   have x4:=kG v _ hju;obtain ⟨gl,hglq⟩:∃gl,gl=g.length:=⟨_,rfl⟩;rw [<-hglq] at x4 hou hc5 hju;have hvi:(v:Int)<N:=by omega
   have hbx:Below wr.heap.size wr (wr.alloc (.cells #[.int .i64 (n:Int)] 3)):=(Below.refl _ wr).alloc (nLr _) _;have hc1:=cell_one_new wr (.int .i64 (n:Int)) 3 0 _ rfl
   have hfz:∀W4,(wr.alloc (.cells #[.int .i64 (n:Int)] 3)).grownBy W4 (Value.slice A5 gl c5).ownBlock->W4.frozen? ⟨G,v,none⟩=false/\W4.cell? ⟨G,v,none⟩=some (.slice A5 gl c5):=fun W4 hg4=>by
    have hr0:=HO.out.1.row.below hbx;have hr:=hr0.kept hg4 (fun k hk e=>(hou.below hbx).apartL hr0 e hk rfl);obtain ⟨G',c',e',_,_,_,k',z'⟩:=hr.blk (by omega)
    injection e' with e1 _ _
    injection e1 with e1
    injection e1 with e1
    subst e1;exact ⟨z' v,k' v _ hju⟩
   have HU:=hiD (aI hou (aI hju (aI hgat (aI hsucc (aI hc1 (aI hfz (aI hbx (aI hgl (aI hglq hbG)))))))));clear f1 hnw hv hg hgl hvl hvv hu hou hc5 e6 hlG hcG kG zG hglq hbx hc1 hfz hju hgat hsucc hbG hnm
   go_wp2_with (at_builtin;refine wpList_append_I2 rfl (.tmp 23) (.tmp 25) rfl B (.slice A5 gl c5) g rfl (HU.out.1.below HU.out.2.2.2.2.2.2.1) wr.heap.size 1 n rfl HU.out.2.2.2.2.1 (by have:=HU.out.2.2.2.2.2.2.2.1;have:=HO.out.2.2;omega) (by have:=HO.out.2.2;simp;omega) ?_;intro v4 W4 ho4 hg4 hbk4;obtain ⟨z4,y4⟩:=HU.out.2.2.2.2.2.1 W4 hg4;obtain ⟨A4,c4,rfl,_⟩:=ho4.form;have H4:=hiD (aI ho4 (aI hg4 hbk4));clear ho4 hg4 hbk4)
   have hgq:=(HO.out.1.below HU.out.2.2.2.2.2.2.1).app HU.out.2.1 HU.out.2.2.1 H4.out.1 H4.out.2.1 H4.out.2.2;rw [<-HU.out.2.2.2.1] at hgq;have hb4:Below B W1 W4:=(HO.out.2.1.alloc HO.out.2.2 _).grown H4.out.2.1 (nLt HO.out.2.2 (by simp)) (fun k hk=>(HU.out.1.typ hk).1);refine ⟨⟨n+1,vs.set v (.slice A4 (g.length+1) c4),by omega,by congr 1,hiD ⟨by simpa using hgq,hb4.setCell (p:=⟨G,v,none⟩) HU.out.2.2.2.2.2.2.2.2.2 _,?_⟩⟩,by simp only [intOf];omega⟩;have h5:=H4.out.2.1.size;have h6:=HO.out.2.2;simp at h5 ⊢;omega
  ·have hni:¬(n:Int)<L:=by omega
   obtain rfl:n=L:=by omega
   clear hlt;have hfin:=HO.out.1;rw [<-HM.out,gsN_all] at hfin;have HF:=hiD hfin.has;have HNW:=hiD (hfin.new.mono (C:=w.heap.size) (by have:=HW1.out.2.size;have:=HN.out.2.2.1;omega));have HBB:=hiD (HW1.out.2.trans (Below.mono (by have:=HO.out.2.1;rwa [HN.out.2.2.1] at this) HW1.out.2.size));clear hfin;go_wp2;go_ret;exact ⟨A2,N,c2,rfl,HN.out.1,HN.out.2.1,HF.out,HBB.out,HNW.out⟩
end Go.Proofs.YtfjmdkhemnmkpaaGreatDoor
namespace Go.Proofs.YtfjmdkhemnmkpaaGreatDoor
open Go.Maps Go.RowKit
section
variable {F:Nat->Prop} {w W W':World} {R b r:Nat} {A:Option Addr} {L c:Nat} {f:Value} {a:AM} {T:Nat->DV} {t:Nat}
theorem RunQ.turns {B:Nat} {row:Option Nat} (h:RunQ F w R b r A L c f a T t W) (hB:w.heap.size<=B) (hg:W.grownBy W' row) (hr:∀k,row=some k->B<=k/\∃o:Obj,W.heap[k]?=some o/\isLD o=true):RunQ F w R b r A L c f a T t W':=by
 obtain ⟨F',k1,k2,k3⟩:=h.go.ex
 have hn:∀{g:Nat} {cs:Array Value} {ty:TypeId} {z:Nat × Nat},W.heap[g]?=some (.cells cs ty z)->some g≠row:=fun hc e=>by
  obtain ⟨_,o,h1,h2⟩:=hr _ e.symm;rw [hc] at h1
  cases h1
  cases h2
 refine ⟨⟨⟨F',k1.keep (Only.of_grown (F:=fun k=>row=some k) hg (fun k e=>e)) (fun k hk e=>?_),k2,k3⟩,h.go.only.grown hg (fun k e=>.inr (nLt hB (hr k e).1)),h.go.lo,(hg.block b h.go.lt (hn h.go.row)).trans h.go.row⟩,(hg.block r h.lt (hn h.cell)).trans h.cell,h.lo,h.ne⟩;obtain ⟨_,o,h1,h2⟩:=hr k e
 rcases appQ_kindF k1 k hk with ⟨es,ck,h3⟩|⟨cs,ty,z,v,h3,_⟩<;>
 ·rw [h3] at h1
  cases h1
  cases h2
end
theorem HasR.turns {W W':World} {B:Nat} {row:Option Nat} {gA:Option Addr} {gs:List (List Nat)} (h:HasR W gA gs) (hg:W.grownBy W' row) (hr:∀k,row=some k->B<=k/\∃o:Obj,W.heap[k]?=some o/\isLD o=true):HasR W' gA gs:=fun hne=>by
 have hc:∀{p:Addr} {v:Value},W.cell? p=some v->W'.cell? p=some v:=fun h=>hg.cell h fun e=>by
  obtain ⟨_,o,h1,h2⟩:=hr _ e.symm;unfold World.cell? at h;rw [h1] at h
  cases o<;>simp [isLD] at h2 h
 obtain ⟨x,o,e,h1,h2⟩:=h hne;refine ⟨x,o,e,nLl h1 hg.size,fun j hj=>?_⟩;obtain ⟨A',c',k1,k2,k3⟩:=h2 j hj;refine ⟨A',c',hc k1,k2,fun hl=>?_⟩;obtain ⟨y,m,e',h3,h4⟩:=k3 hl;exact ⟨y,m,e',nLl h3 hg.size,fun i hi=>hc (h4 i hi)⟩
theorem HasR.far {r b:Nat} {W V:World} {A:Option Addr} {gs:List (List Nat)} {B:Nat} (h:HasR W A gs) (hf:FarW r b W V) (hn:NewR B W A gs) (hr:r<B) (hb:b<B):HasR V A gs:=fun hne=>by
 obtain ⟨x,o,e,h1,h2⟩:=h hne;obtain ⟨x',o',e',h3,h4⟩:=hn hne;rw [e] at e'
 cases e'
 have hl0:0<gs.length:=List.length_pos_iff.2 hne
 have hx:=hf.2 x h1 (by omega) (by omega) fun hk=>by
  obtain ⟨A',c',k1,_,_⟩:=h2 0 hl0
  rcases hk.a.cell k1 with ⟨q,e⟩|⟨q,e⟩|⟨q,e⟩<;>cases e
 refine ⟨x,o,e,nLl h1 hf.1,fun j hj=>?_⟩;obtain ⟨A',c',k1,k2,k3⟩:=h2 j hj;obtain ⟨A2,c2,m1,m2⟩:=h4 j hj;rw [k1] at m1
 cases m1
 exact ⟨A',c',(World.cell?_of_block hx).trans k1,k2,k3.far hf fun y i m e=>by have:=m2 y i m e;exact ⟨by omega,by omega⟩⟩
theorem NewR.far {r b:Nat} {W V:World} {A:Option Addr} {gs:List (List Nat)} {B:Nat} (hn:NewR B W A gs) (h:HasR W A gs) (hf:FarW r b W V) (hr:r<B) (hb:b<B):NewR B V A gs:=fun hne=>by
 obtain ⟨x,o,e,h1,h2⟩:=h hne;obtain ⟨x',o',e',h3,h4⟩:=hn hne;rw [e] at e'
 cases e'
 have hl0:0<gs.length:=List.length_pos_iff.2 hne
 have hx:=hf.2 x h1 (by omega) (by omega) fun hk=>by
  obtain ⟨A',c',k1,_,_⟩:=h2 0 hl0
  rcases hk.a.cell k1 with ⟨q,e⟩|⟨q,e⟩|⟨q,e⟩<;>cases e
 refine ⟨x,o,e,h3,fun j hj=>?_⟩;obtain ⟨A',c',k1,k2⟩:=h4 j hj;exact ⟨A',c',(World.cell?_of_block hx).trans k1,k2⟩
theorem RunQ.keepsD {F:Nat->Prop} {w W V:World} {R b r:Nat} {A:Option Addr} {L c:Nat} {f:Value} {a:AM} {T:Nat->DV} {t B:Nat} (h:RunQ F w R b r A L c f a T t W) (hf:FarW r b W V):KeepsD B W V:=
 ⟨hf.1,fun k o _ hk hl=>(hf.2 k (geS.1 hk).1 (fun e=>by rw [e,h.cell] at hk;cases hk;cases hl) (fun e=>by rw [e,h.go.row] at hk;cases hk;cases hl) (fun hT=>by
  rcases hT with ⟨es,ck,h3⟩|⟨cs,ty,z,h3,_⟩<;>
  ·rw [h3] at hk
   cases hk
   cases hl)).trans hk⟩
theorem AbidesD.pure {B:Nat} (p:Prop):AbidesD B (fun _=>p):=fun _ _ _ h _ _=>h
theorem cell_turns {W W':World} {B:Nat} {row:Option Nat} (hg:W.grownBy W' row) (hr:∀k,row=some k->B<=k/\∃o:Obj,W.heap[k]?=some o/\isLD o=true) {p:Addr} {v:Value} (h:W.cell? p=some v):W'.cell? p=some v:=hg.cell h fun e=>by
 obtain ⟨_,o,h1,h2⟩:=hr _ e.symm;unfold World.cell? at h;rw [h1] at h
 cases o<;>simp [isLD] at h2 h
theorem HasI.turns {W W':World} {B:Nat} {row:Option Nat} {A:Option Addr} {l:List Nat} (h:HasI W A l) (hg:W.grownBy W' row) (hr:∀k,row=some k->B<=k/\∃o:Obj,W.heap[k]?=some o/\isLD o=true):HasI W' A l:=fun hne=>by
 obtain ⟨x,o,e,h1,h2⟩:=h hne;exact ⟨x,o,e,nLl h1 hg.size,fun j hj=>cell_turns hg hr (h2 j hj)⟩
theorem NewR.turns {W W':World} {B C:Nat} {row:Option Nat} {A:Option Addr} {gs:List (List Nat)} (h:NewR C W A gs) (hg:W.grownBy W' row) (hr:∀k,row=some k->B<=k/\∃o:Obj,W.heap[k]?=some o/\isLD o=true):NewR C W' A gs:=fun hne=>by
 obtain ⟨x,o,e,h1,h2⟩:=h hne;refine ⟨x,o,e,h1,fun j hj=>?_⟩;obtain ⟨A',c',k1,k2⟩:=h2 j hj;exact ⟨A',c',cell_turns hg hr k1,k2⟩
structure RunI (F:Nat->Prop) (w:World) (R b r:Nat) (A:Option Addr) (L c:Nat) (f:Value) (pk:Nat->Nat->Nat->Int) (ms:List CM) (a:AM) (W4:World) (rv:Nat) (i:Nat) (W:World):Prop where
 ex:∃t,(orderM pk ms).drop t=orderW pk i ((groupsM ms).drop i)/\RunT F w R b r A L c f pk ms a t W
 var:W.heap[rv]?=some (.cells #[.pointer (some ⟨r,0,none⟩)] 68 (0,0))
 far:FarW r b W4 W
structure RunJ (F:Nat->Prop) (w:World) (R b r:Nat) (A:Option Addr) (L c:Nat) (f:Value) (pk:Nat->Nat->Nat->Int) (ms:List CM) (a:AM) (W4:World) (rv:Nat) (gA:Option Addr) (i:Nat) (W:World):Prop where
 run:RunI F w R b r A L c f pk ms a W4 rv i W
 rows:HasR W gA (groupsM ms)
 new:NewR W4.heap.size W gA (groupsM ms)
section
variable {F:Nat->Prop} {w W4 W W':World} {R b r:Nat} {A:Option Addr} {L c:Nat} {f:Value} {pk:Nat->Nat->Nat->Int} {ms:List CM} {a:AM} {rv i:Nat} {gA:Option Addr}
theorem RunI.abides (hw:w.heap.size<=W4.heap.size):AbidesD W4.heap.size (RunI F w R b r A L c f pk ms a W4 rv i):=by
 intro W W' row h hg hr
 have hn:∀{g:Nat} {cs:Array Value} {ty:TypeId} {z:Nat × Nat},W.heap[g]?=some (.cells cs ty z)->some g≠row:=fun hc e=>by
  obtain ⟨_,o,h1,h2⟩:=hr _ e.symm;rw [hc] at h1
  cases h1
  cases h2
 obtain ⟨t,h1,h2⟩:=h.ex;exact ⟨⟨t,h1,h2.turns hw hg hr⟩,(hg.block rv (geS.1 h.var).1 (hn h.var)).trans h.var,nLt h.far.1 hg.size,fun k e1 e2 e3 e4=>(hg.block k (nLl e1 h.far.1) (fun e=>by have:=(hr k e.symm).1;omega)).trans (h.far.2 k e1 e2 e3 e4)⟩
theorem RunJ.abides (hw:w.heap.size<=W4.heap.size):AbidesD W4.heap.size (RunJ F w R b r A L c f pk ms a W4 rv gA i):=by
 intro W W' row h hg hr;exact ⟨RunI.abides hw W W' row h.run hg hr,h.rows.turns hg hr,h.new.turns hg hr⟩
theorem RunI.grew (h:RunI F w R b r A L c f pk ms a W4 rv i W) (hb:Below W.heap.size W W'):RunI F w R b r A L c f pk ms a W4 rv i W':=by
 obtain ⟨t,h1,h2⟩:=h.ex;exact ⟨⟨t,h1,h2.grew hb⟩,(hb.block rv (geS.1 h.var).1).trans h.var,h.far.trans (FarW.below hb)⟩
theorem RunJ.next {t1:Nat} (h:RunJ F w R b r A L c f pk ms a W4 rv gA i W) (hr:r<W4.heap.size) (hb:b<W4.heap.size)
 (h1:(orderM pk ms).drop t1=orderW pk (i+1) ((groupsM ms).drop (i+1))) (h2:RunT F w R b r A L c f pk ms a t1 W') (h3:FarW r b W W'):RunJ F w R b r A L c f pk ms a W4 rv gA (i+1) W':=by
 obtain ⟨t,_,k2⟩:=h.run.ex
 have far:∀{g:Nat} {cs:Array Value} {ty:TypeId},W.heap[g]?=some (.cells cs ty (0,0))->g≠r->g≠b->ty≠92->ty≠126->ty≠130->W'.heap[g]?=some (.cells cs ty (0,0)):=fun hc e1 e2 n1 n2 n3=>(h3.2 _ (geS.1 hc).1 e1 e2 (fun hk=>by
  rcases hk with ⟨es,ck,h4⟩|⟨cs',ty',z,h4,h5,_⟩
  ·rw [hc] at h4
   cases h4
  ·rw [hc] at h4
   cases h4
   rcases h5 with e|e|e
   ·exact n1 e
   ·exact n2 e
   ·exact n3 e)).trans hc
 have hrow:=k2.go.row;have hcel:=k2.cell;refine ⟨⟨⟨t1,h1,h2⟩,far h.run.var ?_ ?_ (by decide) (by decide) (by decide),h.run.far.trans h3⟩,h.rows.far h3 h.new hr hb,h.new.far h.rows h3 hr hb⟩
 ·rintro rfl;rw [h.run.var] at hcel;simp at hcel
 ·rintro rfl;rw [h.run.var] at hrow;simp at hrow
end
end Go.Proofs.YtfjmdkhemnmkpaaGreatDoor
namespace Go.Proofs.YtfjmdkhemnmkpaaGreatDoor
open Go.Maps Go.RowKit
attribute [local go_sem] Oper.semAt_some
structure GE where
 i:Nat
 E:Option Addr
 n:Nat
 c:Nat
 gA:Option Addr
def GE.args (x:GE):Array Value:=#[.int .i64 (x.i:Int),.slice x.E x.n x.c]
theorem KeepsD.grew {B:Nat} {W W':World} (h:Below W.heap.size W W'):KeepsD B W W':=⟨h.size,fun k _ _ hk _=>(h.block k (geS.1 hk).1).trans hk⟩
theorem waves_seq (n:Nat) (hn:1<=n) (r N L c:Nat) (A:Option Addr) (gs:List (List Nat)) (I0:World->Prop) (J:Option Addr->Nat->World->Prop) (hN:N=gs.length) (hN2:N<=1000)
 (hI:∀W,I0 W->W.cell? ⟨r,1,none⟩=some (.slice A L c)/\Calls Tryz.prog 48 #[.slice A L c] W fun e W'=>∃gA gc,e=.returned (.slice gA N gc)/\Below W.heap.size W W'/\J gA 0 W')
 (hJ:∀gA i W,J gA i W->HasR W gA gs) (B:Nat):
 TiedSeqD Fence.wide n Tryz.prog 28 #[.pointer (some ⟨r,0,none⟩)] #[] GE.args B
  I0 (fun W=>∃gA,J gA N W) (fun x W=>J x.gA x.i W/\∃h:x.i<gs.length,x.n=gs[x.i].length/\x.n<=x.c/\HasI W x.E gs[x.i]/\∃gb go,x.gA=some ⟨gb,go,none⟩/\W.cell? ⟨gb,go+x.i,none⟩=some (.slice x.E x.n x.c)) (fun x W=>J x.gA (x.i+1) W) (fun _ _=>False) (fun _ _=>False):=by
 intro l G' Gx hG hGx hY W h0 hGW;refine callsIn_of_wp Tryz.func28 rfl trivial ?_ rfl;simp only [Tryz.ntmps28,List.size_toArray,List.length_cons,List.length_nil,Nat.reduceAdd,Nat.reduceSub,Array.replicate_succ,Array.replicate_zero,List.push_toArray,List.append_toArray,List.nil_append,List.cons_append,List.append_nil];obtain ⟨x1,hGr⟩:=hI W h0;have hNi:(N:Int)<=1000:=by omega
 have HGr:=hiD hGr;have HY:=hiD hY;have HJ:=hiD hJ;have HN:=hiD hN;have HGW:=hiD (aI hGW (fun A C h k=>hG A C h k));clear hY h0 hJ hG hGx hN hI hGr hGW
 gi_wp2_with fail
 refine ⟨trivial,(callsIn_wide.2 HGr.out).mono ?_⟩;rintro e W1 ⟨gA,gc,rfl,hb1,hJ0⟩;have H1:=hiD (aI hJ0 (HGW.out.2 _ _ HGW.out.1 (KeepsD.grew hb1)));clear hb1 hJ0 x1 HGr;gi_wp2
 gi_loopw [12] (fun v wr=>∃i:Nat,v=.int .i64 (i:Int)/\i<=N/\Hid (J gA i wr)/\Hid (G' wr))
  (fun v _=>N - (intOf v).toNat)
 case atStart=>exact ⟨0,rfl,Nat.zero_le _,hiD H1.out.1,hiD H1.out.2⟩
 case round=>
  obtain ⟨i,rfl,hi,hj,hg⟩:=hrel
  by_cases hiE:i<N
  ·have hii:(i:Int)<N:=by omega
   have hil:i<gs.length:=by have:=HN.out;omega
   have hR:=HJ.out gA i wr hj.out;obtain ⟨gb,go,e,hlt,hc⟩:=hR (by rintro rfl;simp at hil);subst e;obtain ⟨E,c',k1,k2,k3⟩:=hc i hil;obtain ⟨m,hm⟩:∃m,m=gs[i].length:=⟨_,rfl⟩;have hyy:=HY.out ⟨i,E,m,c',some ⟨gb,go,none⟩⟩ wr ⟨hj.out,hil,hm,by rw [hm];exact k2,k3,gb,go,rfl,by rw [hm];exact k1⟩ hg.out;rw [<-hm] at k1;obtain ⟨fn,tmps,assign,body,hy,hRR⟩:=hyy;replace hy:=show (Instr.yield l #[.int .i64 (i:Int),.slice E m c']).run Tryz.prog wr=_ from hy;have HRR:=hiD hRR;clear hc hR k2 k3 hm hRR;gi_wp2;refine HRR.out.mono ?_;rintro e W3 (⟨rfl,hIo,hG3⟩|⟨rfl,cc,hIx,hGx3⟩)
   ·have HIo:=hiD hIo;have HG3:=hiD hG3;clear hIo hG3 hy k1;gi_wp2;exact ⟨⟨i+1,by congr 1,by omega,HIo,HG3⟩,by simp only [intOf];omega⟩
   ·exact hIx.elim
  ·have hii:¬(i:Int)<N:=by omega
   obtain rfl:i=N:=by omega
   gi_wp2;go_end0;exact ⟨⟨_,rfl⟩,⟨gA,hj.out⟩,hg.out⟩
end Go.Proofs.YtfjmdkhemnmkpaaGreatDoor
namespace Go.Proofs.YtfjmdkhemnmkpaaGreatDoor
open Go.RowKit
theorem eqIn_func (w:World) (d:Nat) (fn:Fn) (fi ca:Array Value):(Op.equalIn (d+1) 42 (.func fn fi ca) .nilFunc).run Tryz.prog w=.ok false w:=by
 simp [Op.equalIn,run_underlying Tryz.underlying42]
theorem eqIn_nilf (w:World) (d:Nat):(Op.equalIn (d+1) 42 .nilFunc .nilFunc).run Tryz.prog w=.ok true w:=by
 simp [Op.equalIn,run_underlying Tryz.underlying42]
theorem eq_func (w:World) (fn:Fn) (fi ca:Array Value):(binOp .eql 42 (.func fn fi ca) .nilFunc).run Tryz.prog w=.ok (.bool false) w:=by
 have h:=eqIn_func w 9999 fn fi ca;simp only [binOp,Op.equal];simp [show Op.maxDepth=9999+1 from rfl,h]
theorem eq_nilf (w:World):(binOp .eql 42 .nilFunc .nilFunc).run Tryz.prog w=.ok (.bool true) w:=by
 have h:=eqIn_nilf w 9999;simp only [binOp,Op.equal];simp [show Op.maxDepth=9999+1 from rfl,h]
end Go.Proofs.YtfjmdkhemnmkpaaGreatDoor
