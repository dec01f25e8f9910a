/- Parts of the proof: WvAlP, WvAl, RxA. -/
import Derived.Test.YtfjmdkhemnmkpaaGreatDoorR15
import Derived.Test.YtfjmdkhemnmkpaaGreatDoorR02
import Derived.Deep.DeepCutAuto
import Derived.Test.YtfjmdkhemnmkpaaGreatDoorR01
import Derived.Test.YtfjmdkhemnmkpaaGreatDoorR08
import Derived.Maps.AppendAt
set_option maxRecDepth 100000
set_option maxHeartbeats 8000000
namespace Go.Proofs.YtfjmdkhemnmkpaaGreatDoor
open Go.RowKit
def HasZ (w:World) (A:Option Addr) (zs:List Int):Prop:=zs≠[]->∃b o,A=some ⟨b,o,none⟩/\b<w.heap.size/\∀j (h:j<zs.length),w.cell? ⟨b,o+j,none⟩=some (.int .i64 zs[j])
def picksM (zs:List Int) (w k _n:Nat):Int:=zs[7*w+k]?.getD 0
theorem picksM_lim {zs:List Int} (h:∀z∈zs, -9223372036854775808<=z/\z<=9223372036854775807) (w k n:Nat): -9223372036854775808<=picksM zs w k n/\picksM zs w k n<=9223372036854775807:=by
 unfold picksM
 cases hz:zs[7*w+k]? with
 |none=>exact ⟨by decide,by decide⟩
 |some z=>exact h z (List.mem_of_getElem? hz)
theorem At_any (A:Option Addr) (L c:Nat) (zs:List Int) (wv k n:Nat) (w:World) (hL:L=zs.length) (hL2:L<=200) (hw:wv<=1000000) (hk:k<=1000000) (hA:HasZ w A zs):
 Calls Tryz.prog 13 #[.slice A L c,.int .i64 (wv:Int),.int .i64 (k:Int),.int .i64 (n:Int)] w fun e W'=>e=.returned (.int .i64 (picksM zs wv k n))/\Below w.heap.size w W':=by
 obtain ⟨at_,hat⟩:∃x,x=7*wv+k:=⟨_,rfl⟩;have h7:IntKind.i64.wrap (7*(wv:Int))=7*(wv:Int):=by simp [IntKind.wrap,IntKind.bits,IntKind.signed];omega
 have h7k:IntKind.i64.wrap (7*(wv:Int)+(k:Int))=(at_:Int):=by simp [IntKind.wrap,IntKind.bits,IntKind.signed];omega
 have hw0:¬(wv:Int)<0:=by omega
 have hk0:¬(k:Int)<0:=by omega
 unfold picksM;rw [<-hat];have HT:=hiD (aI hat (aI hw hk));have HA:=hiD hA;have HL:=hiD (aI hL hL2);clear hat hL hA hL2 hw hk
 by_cases hlt:at_<L
 ·have hli:¬(L:Int)<=(at_:Int):=by omega
  have hlj:(at_:Int)<L:=by omega
  have hlz:at_<zs.length:=by have:=HL.out;omega
  obtain ⟨b,o,e1,h1,h2⟩:=HA.out (by rintro rfl;simp at hlz);subst e1;have c0:=h2 at_ hlz;rw [List.getElem?_eq_getElem hlz,Option.getD_some];obtain ⟨z,hz⟩:∃z,z=zs[at_]:=⟨_,rfl⟩;rw [<-hz] at c0 ⊢;clear h1 h2 hz hlz hlt;go_enter Tryz.func13,Tryz.ntmps13;go_wp2;go_ret;exact ⟨rfl,Below.refl _ _⟩
 ·have hli:(L:Int)<=(at_:Int):=by omega
  rw [List.getElem?_eq_none (by have:=HL.out;omega),Option.getD_none];clear hlt;go_enter Tryz.func13,Tryz.ntmps13;go_wp2;go_ret;exact ⟨rfl,Below.refl _ _⟩
theorem picks_fn {F:Nat->Prop} {w0:World} (A:Option Addr) (L c:Nat) (zs:List Int) (hL:L=zs.length) (hL2:L<=200) (hA:∀W,Only F w0 W->HasZ W A zs) (hz:∀z∈zs, -9223372036854775808<=z/\z<=9223372036854775807):
 PickF F w0 (.func (.func 13) #[.slice A L c] #[]) (picksM zs):=
 ⟨⟨_,_,_,rfl,enters_of Tryz.func13 (by kernel_rfl) rfl,fun wv k n W h1 h2 _ ho=>At_any A L c zs wv k n W hL hL2 h1 h2 (hA W ho)⟩,picksM_lim hz⟩
theorem HasZ.out {F:Nat->Prop} {w w0:World} {A:Option Addr} {zs:List Int} (hA:HasZ w A zs) (hb:Below w.heap.size w w0) (hF:∀k,F k->w.heap.size<=k) (W:World) (ho:Only F w0 W):HasZ W A zs:=fun hl=>by
 obtain ⟨b,o,e,l1,f1⟩:=hA hl;have hk:W.heap[b]?=w.heap[b]?:=(ho.block b (nLl l1 hb.size) (fun hf=>by have:=hF b hf;omega)).trans (hb.block b l1);exact ⟨b,o,e,nLl l1 (nLt hb.size ho.size),fun j hj=>(World.cell?_of_block hk).trans (f1 j hj)⟩
theorem mkI (w:World) (M:Nat) (hM:M<=100000):(Instr.makeSlice 23 (.int .i64 (M:Int)) (.int .i64 (M:Int))).run Tryz.prog w=.ok (.slice (some ⟨w.heap.size,0,none⟩) M M) (w.alloc (.cells (madeCells #[.int .i64 0] M) 3)):=by
 obtain ⟨i,hi,hz,hs,hb⟩:=infoI_parts;have:=run_make (P:=Tryz.prog) w 23 3 i _ Tryz.underlying23 hi hz .i64 .i64 (M:Int) (M:Int) (by omega) (by omega) (by rw [hb];omega) (by omega);rw [hs,Nat.mul_one] at this;exact this
theorem great_noW {l:List CmdV} (h:GreatB l=false):l.length<=100/\∀v∈l,¬v.great:=by
 have h':¬GreatC l:=fun hg=>by rw [GreatB_iff.2 hg] at h;cases h
 refine ⟨Nat.le_of_not_lt fun hh=>h' (.inl hh),fun v hv hg=>?_⟩;obtain ⟨j,hj,rfl⟩:=List.mem_iff_getElem.1 hv;exact h' (.inr ⟨j,hj,hg⟩)
theorem foldA_sorted (ms:List CM):SortedA (oneO ms ⟨[],[],0⟩):=SortedA.empty.one ms
structure TwoA {T:World->Prop} (K:WvK T) (w W:World) (F G:Nat->Prop) (R S:Nat) (a b:AM):Prop where
 a:K.Pl F W R a
 b:K.Pl G W S b
 apart:∀k,F k->¬G k
 f:∀k,F k->w.heap.size<=k
 g:∀k,G k->w.heap.size<=k
 below:Below w.heap.size w W
section
variable {T:World->Prop} {K:WvK T} {w W W':World} {F G:Nat->Prop} {R S:Nat} {a b:AM}
theorem TwoA.grew (h:TwoA K w W F G R S a b) (hb:Below W.heap.size W W'):TwoA K w W' F G R S a b:=
 ⟨K.keep h.a (Only.of_grew (F:=fun _=>False) hb) (fun _ _=>id),K.keep h.b (Only.of_grew (F:=fun _=>False) hb) (fun _ _=>id),h.apart,h.f,h.g,h.below.trans (Below.mono hb h.below.size)⟩
theorem TwoA.one (h:TwoA K w W F G R S a b) {F':Nat->Prop} {a':AM} (h1:K.Pl F' W' R a') (ho:Only F W W') (hs:∀k,F' k->F k\/W.heap.size<=k):TwoA K w W' F' G R S a' b:=
 ⟨h1,K.keep h.b ho (fun k hk hf=>h.apart k hf hk),fun k hk hg=>by
  rcases hs k hk with e|e
  ·exact h.apart k e hg
  ·have:=K.lt h.b k hg;omega,fun k hk=>by
  rcases hs k hk with e|e
  ·exact h.f k e
  ·exact nLt h.below.size e,h.g,h.below.trans (ho.below h.below.size h.f)⟩
theorem TwoA.two (h:TwoA K w W F G R S a b) {G':Nat->Prop} {b':AM} (h1:K.Pl G' W' S b') (ho:Only G W W') (hs:∀k,G' k->G k\/W.heap.size<=k):TwoA K w W' F G' R S a b':=
 ⟨K.keep h.a ho (fun k hk hf=>h.apart k hk hf),h1,fun k hk hg=>by
  rcases hs k hg with e|e
  ·exact h.apart k hk e
  ·have:=K.lt h.a k hk;omega,h.f,fun k hk=>by
  rcases hs k hk with e|e
  ·exact h.g k e
  ·exact nLt h.below.size e,h.below.trans (ho.below h.below.size h.g)⟩
end
def eCells (e:SE):Array Value:=#[.int .u32 (e.cl:Int),.int .u32 (e.sq:Int),.int .u8 (e.cd:Int),.string e.tx]
def cellsE (l:List SE):List Value:=l.flatMap fun e=>(eCells e).toList
theorem cellsE_len:∀(l:List SE),(cellsE l).length=l.length*4
 |[]=>rfl
 |p::l=>by
  have:=cellsE_len l;rw [cellsE] at this;rw [cellsE,List.flatMap_cons,List.length_append,this,List.length_cons,show (eCells p).toList.length=4 from rfl];omega
theorem cellsE_append (l m:List SE):cellsE (l++m)=cellsE l++cellsE m:=by simp [cellsE]
theorem cellsE_one (l:List SE):∀u∈cellsE l,u.oneCell'=true:=by
 intro u hu;obtain ⟨p,_,hp⟩:=List.mem_flatMap.1 hu;simp [eCells] at hp
 rcases hp with rfl|rfl|rfl|rfl<;>rfl
theorem cellsE_get:∀(l:List SE) (j:Nat) (h:j<l.length) (i:Nat) (u:Value),(eCells l[j])[i]?=some u->(cellsE l)[j*4+i]?=some u
 |p::l,0,_,i,u,hu=>by
  have hi:i<(eCells p).toList.length:=by simpa using (geS.1 hu).1
  rw [cellsE,List.flatMap_cons,Nat.zero_mul,Nat.zero_add,List.getElem?_append_left hi]
  simpa using hu
 |p::l,j+1,h,i,u,hu=>by
  have:=cellsE_get l j (by simpa using h) i u hu;have h4:(eCells p).toList.length=4:=rfl;rw [cellsE,List.flatMap_cons,List.getElem?_append_right (by omega),h4,show (j+1)*4+i - 4=j*4+i by omega];exact this
theorem cellsE_inv (l:List SE) {k:Nat} {u:Value} (h:(cellsE l)[k]?=some u):∃hj:k/4<l.length,(eCells l[k/4])[k%4]?=some u:=by
 have hk:k<l.length*4:=by rw [<-cellsE_len];exact (List.getElem?_eq_some_iff.1 h).1
 have hj:k/4<l.length:=by omega
 refine ⟨hj,?_⟩;have h4:k%4<(eCells l[k/4]).size:=by show k%4<4;omega
 have e:=cellsE_get l (k/4) hj (k%4) _ (Array.getElem?_eq_getElem h4);rw [show k/4*4+k%4=k by omega,h] at e;rw [Array.getElem?_eq_getElem h4];exact e.symm
def HasE (w:World) (A:Option Addr) (l:List SE):Prop:=l≠[]->∃b o,A=some ⟨b,o,none⟩/\b<w.heap.size/\∀j (h:j<l.length) i u,(eCells l[j])[i]?=some u->w.cell? ⟨b,o+j*4+i,none⟩=some u
theorem HasE.below {w W:World} {A:Option Addr} {l:List SE} (h:HasE w A l) (hb:Below w.heap.size w W):HasE W A l:=fun hl=>by
 obtain ⟨b,o,e,h1,h2⟩:=h hl;exact ⟨b,o,e,nLl h1 hb.size,fun j hj i u hu=>(hb.cell (p:=⟨b,o+j*4+i,none⟩) h1).trans (h2 j hj i u hu)⟩
theorem HasE.take {w:World} {A:Option Addr} {l:List SE} (h:HasE w A l) (n:Nat):HasE w A (l.take n):=fun hl=>by
 obtain ⟨b,o,e,h1,h2⟩:=h (by rintro rfl;simp at hl);refine ⟨b,o,e,h1,fun j hj i u hu=>h2 j (by simp at hj;omega) i u ?_⟩;rw [List.getElem_take] at hu;exact hu
def OwnE (base:Nat) (w:World) (v:Value) (l:List SE):Prop:=w.ownsRow base 84 4 v l.length (cellsE l)
theorem OwnE.form {base:Nat} {w:World} {v:Value} {l:List SE} (h:OwnE base w v l):∃A c,v=.slice A l.length c/\l.length<=c:=by
 rcases h.2 with ⟨rfl,h0⟩|⟨g,cap,cur,rfl,_,_,hn,_⟩
 ·exact ⟨none,0,by rw [h0],by omega⟩
 ·exact ⟨_,_,rfl,hn⟩
theorem OwnE.below {base:Nat} {w w':World} {v:Value} {l:List SE} (h:OwnE base w v l) (hb:Below w.heap.size w w'):OwnE base w' v l:=by
 refine World.ownsRow.kept h (grownBy_of_below (r:=none) hb) ?_
 cases v.ownBlock with
 |none=>exact .inl rfl
 |some x=>exact .inr (by simp)
theorem OwnE.has {base:Nat} {w:World} {A:Option Addr} {n c:Nat} {l:List SE} (h:OwnE base w (.slice A n c) l):HasE w A l:=fun hl=>by
 have hl':0<l.length:=List.length_pos_iff.2 hl
 rcases h.2 with ⟨e,h0⟩|⟨g,cap,cur,e,_,hg,hn,_⟩
 ·omega
 ·cases e
  refine ⟨g,0,rfl,(geS.1 hg).1,fun j hj i u hu=>?_⟩;have c0:=World.ownsRow.cells h (g:=g) rfl (j*4+i) _ (cellsE_get l j hj i u hu);rw [addr_add] at c0;rw [Nat.add_assoc];exact c0
theorem OwnE.ge {base:Nat} {w:World} {v:Value} {l:List SE} (h:OwnE base w v l) (k:Nat) (hk:v.ownBlock=some k):base<=k:=by
 rcases h.2 with ⟨rfl,_⟩|⟨g,cap,cur,rfl,hg,_⟩
 ·cases hk
 ·have:g=k:=by simpa [Value.ownBlock] using hk
  omega
theorem OwnE.nil (base:Nat) (w:World):OwnE base w (.slice none 0 0) []:=World.ownsRow_nil _ _ _ _
theorem infoE:(Tryz.prog.info? 84).map (fun i=>(i.zero,i.size,i.bytes))=some (some (.agg #[.int .u32 0,.int .u32 0,.int .u8 0,.string ⟨#[]⟩]),4,32):=by kernel_rfl
theorem infoE_parts:∃i,Tryz.prog.info? 84=some i/\i.zero=some (.agg #[.int .u32 0,.int .u32 0,.int .u8 0,.string ⟨#[]⟩])/\i.size=4/\i.bytes=32:=by
 have h:=infoE
 cases hi:Tryz.prog.info? 84 with
 |none=>rw [hi] at h;cases h
 |some i=>rw [hi] at h;simp at h;exact ⟨i,rfl,h.1,h.2.1,h.2.2⟩
theorem wpList_append_E {ops:Array Oper} {rest:List Oper} {o:Oper} {a:Act} {w:World} {Q:Exit->Act->World->Prop} (hgd:o.guard=none) (s x:Operand)
 (ho:o.op=.call {callee:=.builtin .append,args:=#[s,x],argTypes:=#[29,29]}) (base:Nat) (v:Value) (l:List SE) (hs:a.eval s=v) (hown:OwnE base w v l)
 (A:Option Addr) (m c:Nat) (l2:List SE) (hx:a.eval x=.slice A m c) (hm:m=l2.length) (hA:HasE w A l2) (hlen:l.length+m<=1000000) (hbase:base<=w.heap.size)
 (h:∀v' w',OwnE base w' v' (l++l2)->w.grownBy w' v.ownBlock->wpList Tryz.prog ops Q rest (a.put o.dst v') w'):wpList Tryz.prog ops Q (o::rest) a w:=by
 obtain ⟨i,hi,hz,hsz,hby⟩:=infoE_parts
 by_cases h0:l2=[]
 ·subst h0;obtain rfl:m=0:=hm;refine wpList_plain hgd fun K hK=>?_
  have hrun:(Builtin.append_ #[29,29] o.type #[v,.slice A 0 c]).run Tryz.prog w=.ok v w:=by
   have hfc:∀k,(Builtin.firstCells 4 0 (.slice A 0 k)).run Tryz.prog w=.ok #[] w:=fun k=>by
    cases A<;>simp [Builtin.firstCells,loadCells,loadCellsFrom]
   rcases hown.2 with ⟨rfl,_⟩|⟨g,cap,cur,rfl,_,hg,hnc,_⟩
   ·simp [Builtin.append_,run_underlying Tryz.underlying29,sizeOf,typeInfo,hi,Builtin.lenOf,hsz,hfc]
   ·simp [Builtin.append_,run_underlying Tryz.underlying29,sizeOf,typeInfo,hi,Builtin.lenOf,hsz,hfc,hnc,storeCells]
  unfold Oper.wp execOp;simp only [ho,resolve,invoke,builtin,Sem.run_bind,Sem.run_pure,Result.andThen_ok,List.map_toArray,List.map_cons,List.map_nil,hs,hx,hrun];exact hK _ _ (h v w (by rw [List.append_nil];exact hown) ⟨rfl,rfl,rfl,nLr _,fun _ _ _=>rfl⟩)
 ·obtain ⟨b,o',rfl,hb,hc⟩:=hA h0;refine wpList_append_own_at w hgd s x 29 ho base 84 i _ 4 32 Tryz.underlying29 hi hz hsz hby rfl (by omega) v l.length (cellsE l) hs hown ⟨b,o',none⟩ m c (cellsE l2) hx (by rw [cellsE_len,hm]) (fun j u hj=>?_) (cellsE_one l2) (by simp only [maxLen];omega) (by omega) hbase ?_
  ·obtain ⟨h1,h2⟩:=cellsE_inv l2 hj;rw [addr_add];have:=hc (j/4) h1 (j%4) u h2
   rwa [show o'+j/4*4+j%4=o'+j by omega] at this
  ·intro v' w' h1 h2 _ _;refine h v' w' ?_ h2;unfold OwnE;rw [cellsE_append,List.length_append,<-hm];exact h1
theorem run_append_E (w:World) (ty:TypeId) (base:Nat) (v:Value) (l:List SE) (hown:OwnE base w v l) (A:Option Addr) (m c:Nat) (l2:List SE) (hm:m=l2.length) (hA:HasE w A l2) (hlen:l.length+m<=1000000) (hbase:base<=w.heap.size):
 ∃v' w',(Builtin.append_ #[29,29] ty #[v,.slice A m c]).run Tryz.prog w=.ok v' w'/\OwnE base w' v' (l++l2)/\w.grownBy w' v.ownBlock:=by
 obtain ⟨i,hi,hz,hsz,hby⟩:=infoE_parts
 by_cases h0:l2=[]
 ·subst h0;obtain rfl:m=0:=hm
  have hfc:∀k,(Builtin.firstCells 4 0 (.slice A 0 k)).run Tryz.prog w=.ok #[] w:=fun k=>by
   cases A<;>simp [Builtin.firstCells,loadCells,loadCellsFrom]
  refine ⟨v,w,?_,by rw [List.append_nil];exact hown,⟨rfl,rfl,rfl,nLr _,fun _ _ _=>rfl⟩⟩
  rcases hown.2 with ⟨rfl,_⟩|⟨g,cap,cur,rfl,_,hg,hnc,_⟩
  ·simp [Builtin.append_,run_underlying Tryz.underlying29,sizeOf,typeInfo,hi,Builtin.lenOf,hsz,hfc]
  ·simp [Builtin.append_,run_underlying Tryz.underlying29,sizeOf,typeInfo,hi,Builtin.lenOf,hsz,hfc,hnc,storeCells]
 ·obtain ⟨b,o',rfl,hb,hc⟩:=hA h0
  obtain ⟨v',w',h1,h2,h3,_,_⟩:=run_append_own_at (P:=Tryz.prog) w base 29 ty 84 i _ 4 32 Tryz.underlying29 hi hz hsz hby rfl (by omega) v l.length (cellsE l) hown ⟨b,o',none⟩ m c (cellsE l2) (by rw [cellsE_len,hm]) (fun j u hj=>by
   obtain ⟨h1,h2⟩:=cellsE_inv l2 hj;rw [addr_add];have:=hc (j/4) h1 (j%4) u h2
   rwa [show o'+j/4*4+j%4=o'+j by omega] at this) (cellsE_one l2) (by simp only [maxLen];omega) (by omega) hbase
  refine ⟨v',w',h1,?_,h3⟩;unfold OwnE;rw [cellsE_append,List.length_append,<-hm];exact h2
end Go.Proofs.YtfjmdkhemnmkpaaGreatDoor
