/- Parts of the proof: WxAskR, WvCut, WxAsk, WxCutR, WxCut, WxWave, WxCl. -/
import Derived.Test.YtfjmdkhemnmkpaaGreatDoorR02
import Derived.Test.YtfjmdkhemnmkpaaGreatDoorR27
import Derived.Test.YtfjmdkhemnmkpaaGreatDoorR14
import Derived.Test.YtfjmdkhemnmkpaaGreatDoorR24
import Derived.Laws.Append
import Derived.Test.YtfjmdkhemnmkpaaGreatDoorR16
import Derived.Recover
import Derived.Test.YtfjmdkhemnmkpaaGreatDoorR03
import Derived.Test.YtfjmdkhemnmkpaaGreatDoorR04
import Derived.Lib.AppendZeros
set_option maxRecDepth 100000
set_option maxHeartbeats 8000000
namespace Go.Proofs.YtfjmdkhemnmkpaaGreatDoor
open Go.RowKit
theorem run_fdW2 (w:World) (g:Nat):(Instr.fieldAt 73 (.pointer (some ⟨g,0,none⟩)) 2).run Tryz.prog w=.ok (.pointer (some ⟨g,2,none⟩)) w:=by
 first
  |kernel_rfl
  |(simp [go_sem,Instr.fieldAt];done)
theorem run_ldFn (w:World) (p:Addr) (v:Value) (h:w.cell? p=some v):(Instr.loadAt 42 (.pointer (some p))).run Tryz.prog w=.ok v w:=by
 simp [go_sem,h]
section
variable {n:Nat} {Q:Exit->Act->World->Prop} {ops:Array Oper} {i:Nat} {o:Oper} {a:Act} {w:World} {K:Act->World->Prop}
theorem step_callV {f:FuncId} {x:Operand} {fi ca:Array Value} {xs:Array Operand} {ts:Array TypeId} {vs:Array Value} (hi:ops[i]?=some o) (hw:Region.wanted o (yielded ops a.tmps)=true)
 (ho:o.op=.call {callee:=.value x,args:=xs,argTypes:=ts}) (hx:a.eval x=.func (.func f) fi ca) (eg:∀args w,(callFunc f args).run Tryz.prog w=.ok (.enter f args) w) (hxs:xs.map a.eval=vs)
 (hc:Calls Tryz.prog f (fi++vs++ca) w fun e w'=>∃v,e=.returned v/\K (a.put o.dst v) w'):wpOpIn Fence.wide n Tryz.prog ops Q i K a w:=by
 unfold wpOpIn;simp only [hi,hw,if_true]
 have hres:(resolve a.eval {callee:=.value x,args:=xs,argTypes:=ts} o.type).run Tryz.prog w=.ok {target:=.fn (.func f) ca,args:=fi++vs} w:=by
  simp [resolve,hx,hxs,Deferred.ofValue]
 refine ⟨fun g hg=>?_,?_⟩
 ·simp [Oper.about,ho,hres,Target.leads] at hg;subst hg;trivial
 ·rw [Oper.semAt_plain _ _ _ (by rw [ho];intro c hc';cases hc')]
  have hex:(execOp a.eval o).run Tryz.prog w=.ok (.enter f (fi++vs++ca)) w:=by
   simp [execOp,ho,hres,invoke,eg]
  rw [hex];refine ⟨fun h=>(by cases h),(callsIn_wide.2 hc).mono ?_⟩;rintro e w' ⟨v,rfl,h⟩;exact h
end
noncomputable def opsWxA:List Oper:=opsOf Tryz.f50 2
def wsWxA (_r _wv _k _n _p5 _p6 _p7 p8:Nat) (p:Int) (_fid:Nat) (_fi _ca:Array Value) (W0:World) (L:Nat->Bool) (_u:Value) (w:World):Prop:=(L 7=false->w=W0)/\(L 7=true->L 8=false->Below W0.heap.size W0 w)/\(L 8=true->∃W1,Below W0.heap.size W0 W1/\w=W1.setCell ⟨p8,0,none⟩ (.int .i64 p))
theorem wsWxA_same (r wv k n p5 p6 p7 p8:Nat) (p:Int) (fid:Nat) (fi ca:Array Value) {W0:World} {L:Nat->Bool} {i:Nat} {u:Value} {w:World} (k7:((7:Nat)==i)=false) (k8:((8:Nat)==i)=false) (h:wsWxA r wv k n p5 p6 p7 p8 p fid fi ca W0 L u w):wsWxA r wv k n p5 p6 p7 p8 p fid fi ca W0 (fun j=>L j||j==i) u w:=by
 unfold wsWxA at h ⊢;simp only [beq_noF k7,beq_noF k8];exact h
theorem wxask (r wv k n p5 p6 p7 p8:Nat) (p:Int) (fid:Nat) (fi ca:Array Value) (a:Act) (w:World) (Q:Exit->Act->World->Prop) (hN:a.tmps.size=18) (h0:a.tmps.getD 0 undef=.pointer (some ⟨r,0,none⟩)) (h5:a.tmps.getD 5 undef=.pointer (some ⟨p5,0,none⟩)) (h6:a.tmps.getD 6 undef=.pointer (some ⟨p6,0,none⟩)) (h7:a.tmps.getD 7 undef=.pointer (some ⟨p7,0,none⟩)) (h8:a.tmps.getD 8 undef=.pointer (some ⟨p8,0,none⟩)) (x2:w.drew.cell? ⟨r,2,none⟩=some (.func (.func fid) fi ca)) (x5:w.drew.cell? ⟨p5,0,none⟩=some (.int .i64 (wv:Int))) (x6:w.drew.cell? ⟨p6,0,none⟩=some (.int .i64 (k:Int))) (x7:w.drew.cell? ⟨p7,0,none⟩=some (.int .i64 (n:Int))) (k8:w.drew.heap[p8]?=some (.cells #[.int .i64 0] 3 (0,0))) (hcf:∀args w,(callFunc fid args).run Tryz.prog w=.ok (.enter fid args) w) (hC:Calls Tryz.prog fid (fi++#[.int .i64 (wv:Int),.int .i64 (k:Int),.int .i64 (n:Int)]++ca) w.drew fun e w'=>e=.returned (.int .i64 p)/\Below w.drew.heap.size w.drew w') (hW0:wsWxA r wv k n p5 p6 p7 p8 p fid fi ca w.drew (fun _=>false) undef w.drew) (hQ:∀(u:Value) w',wsWxA r wv k n p5 p6 p7 p8 p fid fi ca w.drew (fun _=>true) u w'->Q .normal (puts [(10,.pointer (some ⟨r,0,none⟩)),(11,.pointer (some ⟨r,0,none⟩)),(12,.pointer (some ⟨r,2,none⟩)),(13,.func (.func fid) fi ca),(14,.int .i64 (wv:Int)),(15,.int .i64 (k:Int)),(16,.int .i64 (n:Int)),(17,.int .i64 p)] a) w')
 :(Code.region 2 opsWxA.toArray true).wp Tryz.prog Q a w:=by
 refine region_c (U:=Value) 18 opsWxA [(0,.pointer (some ⟨r,0,none⟩)),(5,.pointer (some ⟨p5,0,none⟩)),(6,.pointer (some ⟨p6,0,none⟩)),(7,.pointer (some ⟨p7,0,none⟩)),(8,.pointer (some ⟨p8,0,none⟩))] [7,8] (fun _=>[.pointer (some ⟨r,0,none⟩),.pointer (some ⟨r,0,none⟩),.pointer (some ⟨r,2,none⟩),.func (.func fid) fi ca,.int .i64 (wv:Int),.int .i64 (k:Int),.int .i64 (n:Int),.int .i64 p,undef]) (wsWxA r wv k n p5 p6 p7 p8 p fid fi ca w.drew) undef follows (by kernel_rfl) hN ⟨h0,h5,h6,h7,h8,trivial⟩ (fun _=>nBl rfl) hW0 (fun _ _ _ _ hi h=>wsWxA_same _ _ _ _ _ _ _ _ _ _ _ _ (key_ne hi rfl) (key_ne hi rfl) h) ?_ ?_ ?_
 ·intro L u w' hW hcl;have nL:∀i,reachB opsWxA 30 7 i=true->L i=false->L 7=false:=fun i h n=>not_yetF hcl 30 h n
  exact ⟨fun _=>rfl,fun _=>rfl,fun _=>ob_fld (run_fdW2 _ _),fun n=>ob_load (by rw [hW.1 (nL 3 (by kernel_rfl) n)];exact run_ldFn _ _ _ x2),fun n=>ob_load (by rw [hW.1 (nL 4 (by kernel_rfl) n)];exact run_ldIt _ _ _ x5),fun n=>ob_load (by rw [hW.1 (nL 5 (by kernel_rfl) n)];exact run_ldIt _ _ _ x6),fun n=>ob_load (by rw [hW.1 (nL 6 (by kernel_rfl) n)];exact run_ldIt _ _ _ x7),trivial,trivial,trivial⟩
 ·refine ⟨?_,?_,trivial⟩
  ·rintro o ho L u a' w' hLi hpre hcl hR hW fin;have hio:=(nthO_eq _ _).symm.trans ho
   cases ho
   have q3:a'.tmps.getD 13 undef=.func (.func fid) fi ca:=hR.val 3 _ 13 rfl rfl (edge_ofF hpre 3 rfl);have q4:a'.tmps.getD 14 undef=.int .i64 (wv:Int):=hR.val 4 _ 14 rfl rfl (edge_ofF hpre 4 rfl);have q5:a'.tmps.getD 15 undef=.int .i64 (k:Int):=hR.val 5 _ 15 rfl rfl (edge_ofF hpre 5 rfl);have q6:a'.tmps.getD 16 undef=.int .i64 (n:Int):=hR.val 6 _ 16 rfl rfl (edge_ofF hpre 6 rfl);have n8:L 8=false:=not_yetF hcl 30 (show reachB opsWxA 30 8 7=true by kernel_rfl) hLi;have hw:=hW.1 hLi;refine step_callV (vs:=#[.int .i64 (wv:Int),.int .i64 (k:Int),.int .i64 (n:Int)]) hio rfl rfl q3 hcf (show Array.map a'.eval #[.tmp 14,.tmp 15,.tmp 16]=_ from by simp only [List.map_toArray,List.map_cons,List.map_nil,Act.eval,q4,q5,q6]) ?_;rw [hw];refine hC.mono ?_;rintro e w'' ⟨rfl,hb⟩
   have hW2:wsWxA r wv k n p5 p6 p7 p8 p fid fi ca w.drew (fun j=>L j||j==7) u w'':=by
    refine ⟨fun h=>?_,fun _ _=>hb,fun h=>?_⟩
    ·simp at h
    ·have h':L 8=true:=by simpa using h
     rw [n8] at h'
     cases h'
   exact ⟨_,rfl,(fin (u) (.int .i64 p) _ (fun _=>rfl) (fun _ _=>rfl) (hW2))⟩
  ·rintro o ho L u a' w' hLi hpre hcl hR hW fin;have hio:=(nthO_eq _ _).symm.trans ho
   cases ho
   have hF:=hR.frm;have q7:a'.tmps.getD 17 undef=.int .i64 p:=hR.val 7 _ 17 rfl rfl (edge_ofF hpre 7 rfl);have hb:=hW.2.1 (edge_ofF hpre 7 rfl) hLi;have hx1:a'.eval (.tmp 8)=.pointer (some ⟨p8,0,none⟩):=hF.at 8 rfl h8;have hx2:a'.eval (.tmp 17)=.int .i64 p:=q7;have hb8:=(hb.block p8 (geS.1 k8).1).trans k8;have c8:=blk_cell hb8 0;have f8:=blk_frozen hb8 0;have hst:(Instr.storeAt 3 (.pointer (some ⟨p8,0,none⟩)) (.int .i64 p)).run Tryz.prog w'=.ok () (w'.setCell ⟨p8,0,none⟩ (.int .i64 p)):=by simp [go_sem,c8,f8]
   refine step_skip hio rfl (by intro c h;cases h) (by simp [Oper.about]) (w':=w'.setCell ⟨p8,0,none⟩ (.int .i64 p)) (by
    unfold execOp;simp only [hx1,hx2,Sem.run_bind,hst,Result.andThen_ok]
    rfl) ?_
   have hW2:wsWxA r wv k n p5 p6 p7 p8 p fid fi ca w.drew (fun j=>L j||j==8) u (w'.setCell ⟨p8,0,none⟩ (.int .i64 p)):=by
    refine ⟨fun h=>?_,fun _ h=>?_,fun _=>⟨w',hb,rfl⟩⟩
    ·have h':L 7=false:=by simpa using h
     rw [edge_ofF hpre 7 rfl] at h'
     cases h'
    ·simp at h
   exact (fin (u) _ _ (fun h=>(by cases h)) (fun _ _=>rfl) (hW2))
 ·intro L u w' hl hW;refine hQ u w' ?_;unfold wsWxA at hW ⊢;simp only [hl 7 (nBl rfl),hl 8 (nBl rfl)] at hW ⊢;exact hW
theorem cellsI_at {w:World} {A:Addr} {l:List Nat} (h:HasI w (some A) l):∀j u,(cellsI l)[j]?=some u->w.cell? (A.add j)=some u:=by
 intro j u hj;unfold cellsI at hj;rw [List.getElem?_map] at hj;obtain ⟨t,ht,rfl⟩:=Option.map_eq_some_iff.1 hj;obtain ⟨hl,rfl⟩:=List.getElem?_eq_some_iff.1 ht;obtain ⟨b,o,e,_,hc⟩:=h (by rintro rfl;simp at hl)
 cases e
 rw [addr_add];exact hc j hl
theorem hasI_new {w:World} {l:List Nat} {r:Array Value} {t:TypeId}:HasI (w.drew.alloc (.cells ((cellsI l).toArray++r) t)) (some ⟨w.heap.size,0,none⟩) l:=fun _=>by
 have hb:(w.drew.alloc (.cells ((cellsI l).toArray++r) t)).heap[w.heap.size]?=some (.cells ((cellsI l).toArray++r) t (0,0)):=wAh w.drew _;refine ⟨w.heap.size,0,rfl,(geS.1 hb).1,fun j hj=>?_⟩;rw [blk_cell hb,Array.getElem?_append_left (by simp [cellsI];omega)];simp [cellsI,hj]
theorem run_append_fullI (w:World) (ty:TypeId) (A1 A2:Option Addr) (n m c2:Nat) (l1 l2:List Nat) (h1:HasI w A1 l1) (h2:HasI w A2 l2) (hn:n=l1.length) (hm:m=l2.length) (hl:n+m<=1000000):
 ∃A' c' W',(Builtin.append_ #[23,23] ty #[.slice A1 n n,.slice A2 m c2]).run Tryz.prog w=.ok (.slice A' (n+m) c') W'/\n+m<=c'/\Below w.heap.size w W'/\HasI W' A' (l1++l2)/\(A'=A1\/A'=some ⟨w.heap.size,0,none⟩):=by
 obtain ⟨i,hi,hz,hsz,hby⟩:=infoI_parts;have hnew:∀o,Below w.heap.size w (w.drew.alloc o):=fun o=>((Below.refl _ w).drew).alloc (nLr _) o
 by_cases h0:l2=[]
 ·subst h0;obtain rfl:m=0:=hm
  have hfc:∀k,(Builtin.firstCells 1 0 (.slice A2 0 k)).run Tryz.prog w=.ok #[] w:=fun k=>by
   cases A2<;>simp [Builtin.firstCells,loadCells,loadCellsFrom]
  refine ⟨A1,n,w,?_,nLr _,Below.refl _ w,by rw [List.append_nil];exact h1,.inl rfl⟩
  cases A1 with
  |none=>
   have e:l1=[]:=by
    cases l1 with
    |nil=>rfl
    |cons x l=>obtain ⟨b,o,e,_⟩:=h1 (by simp);cases e
   subst e;obtain rfl:n=0:=hn;simp [Builtin.append_,run_underlying Tryz.underlying23,sizeOf,typeInfo,hi,Builtin.lenOf,hsz,hfc]
  |some b=>simp [Builtin.append_,run_underlying Tryz.underlying23,sizeOf,typeInfo,hi,Builtin.lenOf,hsz,hfc,storeCells]
 ·have hmp:0<m:=by rw [hm];exact List.length_pos_iff.2 h0
  obtain ⟨b2,o2,rfl,_,_⟩:=h2 h0;have c2':=cellsI_at h2
  cases A1 with
  |none=>
   have e:l1=[]:=by
    cases l1 with
    |nil=>rfl
    |cons x l=>obtain ⟨b,o,e,_⟩:=h1 (by simp);cases e
   subst e;obtain rfl:n=0:=hn;have hr:=run_append_nil (P:=Tryz.prog) w 23 ty 3 i _ Tryz.underlying23 hi hz ⟨b2,o2,none⟩ m c2 (cellsI l2) (by simp [cellsI,hm,hsz]) c2' hmp (by omega) (by rw [hby];omega);refine ⟨_,_,_,by rw [Nat.zero_add];exact hr,by rw [Nat.zero_add];exact grownCap_ge _ _ _ _,hnew _,hasI_new,.inr rfl⟩
  |some A1=>
   have hr:=run_append_grow (P:=Tryz.prog) w 23 ty 3 i _ Tryz.underlying23 hi hz A1 n n (cellsI l1) (by simp [cellsI,hn,hsz]) (cellsI_at h1) ⟨b2,o2,none⟩ m c2 (cellsI l2) (by simp [cellsI,hm,hsz]) c2' (by omega) (by omega) (growslice_fits (by omega) (by rw [hby];omega));refine ⟨_,_,_,hr,grownCap_ge _ _ _ _,hnew _,?_,.inr rfl⟩;have e:(cellsI l1).toArray++(cellsI l2).toArray=(cellsI (l1++l2)).toArray:=by simp [cellsI]
   rw [e];exact hasI_new
theorem run_cutI (w:World) (ty:TypeId) (A1 A2:Option Addr) (k m c2:Nat) (l:List Nat) (hk:k<l.length) (h1:HasI w A1 (l.take k)) (h2:HasI w A2 (l.drop (k+1))) (hm:m=l.length - (k+1)) (hl:l.length<=1000000):
 ∃A' c' W',(Builtin.append_ #[23,23] ty #[.slice A1 k k,.slice A2 m c2]).run Tryz.prog w=.ok (.slice A' (l.length - 1) c') W'/\l.length - 1<=c'/\Below w.heap.size w W'/\HasI W' A' (l.eraseIdx k)/\(A'=A1\/A'=some ⟨w.heap.size,0,none⟩):=by
 obtain ⟨A',c',W',h3,h4,h5,h6,h7⟩:=run_append_fullI w ty A1 A2 k m c2 _ _ h1 h2 (by rw [List.length_take];omega) (by rw [List.length_drop,hm]) (by omega);have e:k+m=l.length - 1:=by omega
 rw [e] at h3 h4;exact ⟨A',c',W',h3,h4,h5,by rw [List.eraseIdx_eq_take_drop_succ];exact h6,h7⟩
def placeN (p:Int) (n:Nat):Nat:=(p%(n:Int)).toNat
theorem place_tmod (p:Int) {n:Nat} (h:0<n):(if p.tmod n<0 then p.tmod n+n else p.tmod n)=(placeN p n:Int):=by
 have h1:=Int.emod_nonneg p (show (n:Int)≠0 by omega);have h2:=Int.emod_lt_of_pos p (show 0<(n:Int) by omega);unfold placeN;rw [Int.toNat_of_nonneg h1,Int.tmod_eq_emod]
 split<;>rename_i hp<;>simp at hp ⊢<;>intro hh<;>omega
theorem place_lt (p:Int) {n:Nat} (h:0<n):placeN p n<n:=pick_lt p h
theorem orderG_at (pk:Nat->Nat->Int) (k:Nat) {l:List Nat} (h:0<l.length):
 orderG pk l.length k l=(l[placeN (pk k l.length) l.length]'(place_lt _ h))::orderG pk (l.eraseIdx (placeN (pk k l.length) l.length)).length (k+1) (l.eraseIdx (placeN (pk k l.length) l.length)):=by
 have hi:=place_lt (pk k l.length) h;obtain ⟨n,hn⟩:∃n,n=l.length:=⟨_,rfl⟩
 cases l with
 |nil=>cases h
 |cons x l=>
  have e:((x::l).eraseIdx (placeN (pk k (x::l).length) (x::l).length)).length=l.length:=by
   rw [List.length_eraseIdx_of_lt hi];simp
  rw [e];show (((x::l)[(pk k (x::l).length%((x::l).length:Int)).toNat]?.getD 0)::orderG pk l.length (k+1) ((x::l).eraseIdx (pk k (x::l).length%((x::l).length:Int)).toNat))=_;rw [List.getElem?_eq_getElem (show (pk k (x::l).length%((x::l).length:Int)).toNat<(x::l).length from hi),Option.getD_some]
  rfl
def LeftW (pk:Nat->Nat->Nat->Int) (ord:List Nat) (t wv k:Nat) (left:List Nat) (gs:List (List Nat)):Prop:=ord.drop t=orderG (pk wv) left.length k left++orderW pk (wv+1) gs
theorem LeftW.start {pk:Nat->Nat->Nat->Int} {ord:List Nat} {t wv:Nat} {g:List Nat} {gs:List (List Nat)} (h:ord.drop t=orderW pk wv (g::gs)):LeftW pk ord t wv 0 g gs:=h
theorem LeftW.fin {pk:Nat->Nat->Nat->Int} {ord:List Nat} {t wv k:Nat} {gs:List (List Nat)} (h:LeftW pk ord t wv k [] gs):ord.drop t=orderW pk (wv+1) gs:=h
theorem LeftW.step {pk:Nat->Nat->Nat->Int} {ord:List Nat} {t wv k:Nat} {left:List Nat} {gs:List (List Nat)} (h:LeftW pk ord t wv k left gs) (h0:0<left.length):
 ∃ht:t<ord.length,ord[t]=left[placeN (pk wv k left.length) left.length]'(place_lt _ h0)/\LeftW pk ord (t+1) wv (k+1) (left.eraseIdx (placeN (pk wv k left.length) left.length)) gs:=by
 unfold LeftW at h;rw [orderG_at (pk wv) k h0,List.cons_append] at h
 have ht:t<ord.length:=by
  have:=congrArg List.length h;rw [List.length_drop,List.length_cons] at this;omega
 rw [List.drop_eq_getElem_cons ht] at h;exact ⟨ht,(List.cons.inj h).1,(List.cons.inj h).2⟩
end Go.Proofs.YtfjmdkhemnmkpaaGreatDoor
namespace Go.Proofs.YtfjmdkhemnmkpaaGreatDoor
open Go.Maps Go.RowKit
theorem first_any (x y z:Int) (w:World):Calls Tryz.prog 26 #[.int .i64 x,.int .i64 y,.int .i64 z] w fun e W'=>e=.returned (.int .i64 0)/\W'=w:=by
 go_enter Tryz.func26,Tryz.ntmps26;go_wp2;go_ret;exact ⟨rfl,rfl⟩
theorem firstF (F:Nat->Prop) (w0:World):PickF F w0 (.func (.func 26) #[] #[]) (picksM []):=
 ⟨⟨_,_,_,rfl,enters_of Tryz.func26 (by kernel_rfl) rfl,fun wv k n W _ _ _ _=>(first_any wv k n W).mono (by
  rintro e W' ⟨rfl,rfl⟩;exact ⟨by simp [picksM],Below.refl _ _⟩)⟩,picksM_lim (fun _ h=>by simp at h)⟩
theorem modulo_any (p:Int) (n:Nat) (h0:0<n) (hn:n<=100) (w:World):Calls Tryz.prog 49 #[.int .i64 p,.int .i64 (n:Int)] w fun e W'=>e=.returned (.int .i64 (placeN p n:Int))/\W'=w:=by
 have HP:=hiD (place_tmod p h0);have hni:¬(n:Int)=0:=by omega
 have hq1: -100<p.tmod (n:Int):=by have:=Int.lt_tmod_of_pos p (show (0:Int)<n by omega);omega
 have hq2:p.tmod (n:Int)<100:=by have:=Int.tmod_lt_of_pos p (show (0:Int)<n by omega);omega
 have hni2:(n:Int)<=100:=by omega
 by_cases hq0:p.tmod (n:Int)<0
 ·have hP:=HP.out;rw [if_pos hq0] at hP;have HP2:=hiD hP;clear hP;go_enter Tryz.func49,Tryz.ntmps49;go_wp2;rw [HP2.out];go_ret;exact ⟨rfl,rfl⟩
 ·have hP:=HP.out;rw [if_neg hq0] at hP;have HP2:=hiD hP;clear hP;go_enter Tryz.func49,Tryz.ntmps49;go_wp2;rw [HP2.out];go_ret;exact ⟨rfl,rfl⟩
theorem catch_idle (p5 p6 p7 p8:Nat) (w:World):
 CallsD Tryz.prog 79 #[.pointer (some ⟨p5,0,none⟩),.pointer (some ⟨p6,0,none⟩),.pointer (some ⟨p7,0,none⟩),.pointer (some ⟨p8,0,none⟩)] .returning w fun e u' w'=>e=.returned (.tuple #[])/\u'=.returning/\w'=w:=by
 refine callsD_of_wpS Tryz.func79 rfl fun c₀ cs hu=>?_
 apply wpS_seq
 apply wpS_region
 simp [wpOpsS,go_sem,recoverD,hu,Tryz.ntmps79,Exit.thenS];refine wpS_cond (t:=false) (by simp [Act.eval,Array.replicate]) ?_;simp only [Bool.false_eq_true,if_false];refine wpS_of_wp (wp_skip ?_)
 cases c₀
 simp_all [bodyPostS,results,Tryz.results79]
theorem ask_any {F:Nat->Prop} {w W:World} {R b r:Nat} {A:Option Addr} {L c:Nat} {f:Value} {a:AM} {T:Nat->DV} {t:Nat} {pk:Nat->Nat->Nat->Int} (h:RunQ F w R b r A L c f a T t W) (hf:PickF F w f pk) (wv k n:Nat) (hw:wv<=1000) (hk:k<=1000) (hn:n<=1000):
 Calls Tryz.prog 50 #[.pointer (some ⟨r,0,none⟩),.int .i64 (wv:Int),.int .i64 (k:Int),.int .i64 (n:Int)] W fun e W'=>e=.returned (.int .i64 (pk wv k n))/\Below W.heap.size W W':=by
 obtain ⟨_,_,x2,_,_⟩:=h.at;have hrl:=h.lt;obtain ⟨fid,fi,ca,rfl,hcf,hcall⟩:=hf.ex;obtain ⟨p,hp⟩:∃p,p=pk wv k n:=⟨_,rfl⟩
 have HC:=hiD (show ∀V,Below W.heap.size W V->Calls Tryz.prog fid (fi++#[.int .i64 (wv:Int),.int .i64 (k:Int),.int .i64 (n:Int)]++ca) V fun e W'=>e=.returned (.int .i64 p)/\Below V.heap.size V W' from fun V hb=>by
  rw [hp];exact hcall wv k n V (by omega) (by omega) (by omega) (h.go.only.grew hb))
 have HX:=hiD (aI x2 (aI hrl hcf));rw [<-hp];clear h hf hcall hp x2 hrl hcf;have hmf:∀(fn:Fn) (first cap:Array Value) (w:World),(Instr.makeFunc fn first cap).run Tryz.prog w=.ok (.func fn first cap) w:=fun _ _ _ _=>rfl
 go_enter_defers Tryz.func50,Tryz.ntmps50
 go_upto_region 1 with (fail)
 obtain ⟨V1,hV1⟩:∃x,x=W.alloc (.cells #[.int .i64 (wv:Int)] 3):=⟨_,rfl⟩;rw [<-hV1];obtain ⟨V2,hV2⟩:∃x,x=V1.alloc (.cells #[.int .i64 (k:Int)] 3):=⟨_,rfl⟩;rw [<-hV2];obtain ⟨V3,hV3⟩:∃x,x=V2.alloc (.cells #[.int .i64 (n:Int)] 3):=⟨_,rfl⟩;rw [<-hV3];obtain ⟨V4,hV4⟩:∃x,x=V3.alloc (.cells #[.int .i64 0] 3):=⟨_,rfl⟩;rw [<-hV4];have s1:V1.heap.size=W.heap.size+1:=by rw [hV1];exact World.size_alloc _ _
 have s2:V2.heap.size=W.heap.size+1+1:=by rw [hV2,World.size_alloc,s1]
 have s3:V3.heap.size=W.heap.size+1+1+1:=by rw [hV3,World.size_alloc,s2]
 have b1:Below W.heap.size W V1:=by rw [hV1];exact (Below.refl _ _).alloc (nLr _) _
 have b2:Below V1.heap.size V1 V2:=by rw [hV2];exact (Below.refl _ _).alloc (nLr _) _
 have b3:Below V2.heap.size V2 V3:=by rw [hV3];exact (Below.refl _ _).alloc (nLr _) _
 have b4:Below V3.heap.size V3 V4:=by rw [hV4];exact (Below.refl _ _).alloc (nLr _) _
 have k5:V4.heap[W.heap.size]?=some (.cells #[.int .i64 (wv:Int)] 3 (0,0)):=(b4.block _ (by omega)).trans ((b3.block _ (by omega)).trans ((b2.block _ (by omega)).trans (by rw [hV1];exact wAh W _)));have k6:V4.heap[W.heap.size+1]?=some (.cells #[.int .i64 (k:Int)] 3 (0,0)):=(b4.block _ (by omega)).trans ((b3.block _ (by omega)).trans (by rw [hV2,<-s1];exact wAh V1 _));have k7:V4.heap[W.heap.size+1+1]?=some (.cells #[.int .i64 (n:Int)] 3 (0,0)):=(b4.block _ (by omega)).trans (by rw [hV3,<-s2];exact wAh V2 _);have k8:V4.heap[W.heap.size+1+1+1]?=some (.cells #[.int .i64 0] 3 (0,0)):=by rw [hV4,<-s3];exact wAh V3 _
 have bb:Below W.heap.size W V4:=((b1.trans (Below.mono b2 (by omega))).trans (Below.mono b3 (by omega))).trans (Below.mono b4 (by omega));obtain ⟨p5,e5⟩:∃x,x=W.heap.size:=⟨_,rfl⟩;rw [<-e5] at k5 k6 k7 k8 ⊢;obtain ⟨p6,e6⟩:∃x,x=p5+1:=⟨_,rfl⟩;rw [<-e6] at k6 k7 k8 ⊢;obtain ⟨p7,e7⟩:∃x,x=p6+1:=⟨_,rfl⟩;rw [<-e7] at k7 k8 ⊢;obtain ⟨p8,e8⟩:∃x,x=p7+1:=⟨_,rfl⟩;rw [<-e8] at k8 ⊢;have HV:=hiD (aI k5 (aI k6 (aI k7 (aI k8 (aI bb (show W.heap.size<=p8 by omega))))));clear hV1 hV2 hV3 hV4 s1 s2 s3 b1 b2 b3 b4 k5 k6 k7 k8 bb e5 e6 e7 e8;go_upto_region 2 with (fail)
 refine wxask r wv k n p5 p6 p7 p8 p fid fi ca _ V4 _ rfl rfl rfl rfl rfl rfl ((HV.out.2.2.2.2.1.cell (p:=⟨r,2,none⟩) HX.out.2.1).trans HX.out.1) (blk_cell (w:=V4) HV.out.1 0) (blk_cell (w:=V4) HV.out.2.1 0) (blk_cell (w:=V4) HV.out.2.2.1 0) HV.out.2.2.2.1 HX.out.2.2 (HC.out _ HV.out.2.2.2.2.1.drew) ⟨fun _=>rfl,fun h=>(by cases h),fun h=>(by cases h)⟩ ?_;intro u V6 hws;obtain ⟨V5,hb5,rfl⟩:=hws.2.2 rfl;have h8:=(hb5.block p8 (geS.1 HV.out.2.2.2.1).1).trans HV.out.2.2.2.1;have H5:=hiD (aI (Below.trans HV.out.2.2.2.2.1.drew (Below.mono hb5 (nLt HV.out.2.2.2.2.1.size (nLr _)))) h8);simp only [puts,List.foldl_cons,List.foldl_nil,Act.put,List.setIfInBounds_toArray,List.set_cons_succ,List.set_cons_zero];clear hws hb5 h8 HC HX;go_wp2;refine leaves_cons (f:=79) (args:=#[.pointer (some ⟨p5,0,none⟩),.pointer (some ⟨p6,0,none⟩),.pointer (some ⟨p7,0,none⟩),.pointer (some ⟨p8,0,none⟩)]) (by simp) (by simp [go_sem]) ?_;refine (catch_idle p5 p6 p7 p8 _).mono ?_;rintro e u' w'' ⟨rfl,rfl,rfl⟩;have c8:(V5.setCell ⟨p8,0,none⟩ (.int .i64 p)).cell? ⟨p8,0,none⟩=some (.int .i64 p):=by rw [blk_cell (blk_set H5.out.2 0 _) 0];rfl
 have hb:Below W.heap.size W (V5.setCell ⟨p8,0,none⟩ (.int .i64 p)):=((Only.refl (fun _=>False) W).grew H5.out.1).setCell (p:=⟨p8,0,none⟩) (.inr HV.out.2.2.2.2.2) _ |>.below (nLr _) (fun _ h=>h.elim);refine ⟨.int .i64 p,?_,rfl,hb⟩;simp [results,Tryz.results50,go_sem,c8]
end Go.Proofs.YtfjmdkhemnmkpaaGreatDoor
namespace Go.Proofs.YtfjmdkhemnmkpaaGreatDoor
open Go.RowKit
theorem run_fullI (w:World) (A:Option Addr) (L c N:Nat) (h:N<=c):(Instr.sliceAt 23 (.slice A L c) none (some (.int .i64 (N:Int))) (some (.int .i64 (N:Int)))).run Tryz.prog w=.ok (.slice A N N) w:=by
 have h1:(N:Int)<=c:=by omega
 cases A<;>simp [go_sem,h1]
theorem run_addOne (w:World) (k:Nat) (h:k<=1000000):(binOp .add 3 (.int .i64 (k:Int)) (.int .i64 1)).run Tryz.prog w=.ok (.int .i64 ((k+1:Nat):Int)) w:=by
 have h1:IntKind.i64.wrap ((k:Int)+1)=((k+1:Nat):Int):=by rw [IntKind.wrap_i64]<;>omega
 simp [go_sem];omega
section
variable {n:Nat} {Q:Exit->Act->World->Prop} {ops:Array Oper} {i:Nat} {o:Oper} {a:Act} {w:World} {K:Act->World->Prop}
theorem step_appI {x y:Operand} {vx vy v:Value} {w':World} (hi:ops[i]?=some o) (hw:Region.wanted o (yielded ops a.tmps)=true) (ho:o.op=.call {callee:=.builtin .append,args:=#[x,y],argTypes:=#[23,23]}) (hx:a.eval x=vx) (hy:a.eval y=vy) (hr:(Builtin.append_ #[23,23] o.type #[vx,vy]).run Tryz.prog w=.ok v w') (h:K (a.put o.dst v) w'):wpOpIn Fence.wide n Tryz.prog ops Q i K a w:=by
 refine step_run hi hw ?_ (by simp [Oper.about,ho,resolve,Target.leads,Sem.run_pure]) (v:=v) (w':=w') ?_ h
 ·rw [ho];intro c h
  cases h
 ·unfold execOp;simp only [ho,resolve,invoke,builtin,Sem.run_bind,Sem.run_pure,Result.andThen_ok,List.map_toArray,List.map_cons,List.map_nil,hx,hy,hr]
end
noncomputable def opsWxC:List Oper:=opsOf Tryz.f51 3
def wsWxC (_A _A2 _E:Option Addr) (_n _c _kk _m _c2 _e _c3:Nat) (W1:World) (W0:World) (L:Nat->Bool) (_u:Value) (w:World):Prop:=(L 8=false->w=W0)/\(L 8=true->w=W1)
theorem wsWxC_same (A A2 E:Option Addr) (n c kk m c2 e c3:Nat) (W1:World) {W0:World} {L:Nat->Bool} {i:Nat} {u:Value} {w:World} (k8:((8:Nat)==i)=false) (h:wsWxC A A2 E n c kk m c2 e c3 W1 W0 L u w):wsWxC A A2 E n c kk m c2 e c3 W1 W0 (fun j=>L j||j==i) u w:=by
 unfold wsWxC at h ⊢;simp only [beq_noF k8];exact h
theorem wvcutC (A A2 E:Option Addr) (n c kk m c2 e c3:Nat) (W1:World) (a:Act) (w:World) (Q:Exit->Act->World->Prop) (hN:a.tmps.size=18) (h0:a.tmps.getD 0 undef=.slice A n c) (h1:a.tmps.getD 1 undef=.int .i64 (kk:Int)) (hkc:kk<=c) (hkm:kk<=1000000) (hfr:∀w:World,(Instr.sliceAt 23 (.slice A n c) (some (.int .i64 ((kk+1:Nat):Int))) none none).run Tryz.prog w=.ok (.slice A2 m c2) w) (hap:(Builtin.append_ #[23,23] 23 #[.slice A kk kk,.slice A2 m c2]).run Tryz.prog w.drew=.ok (.slice E e c3) W1) (hW0:wsWxC A A2 E n c kk m c2 e c3 W1 w.drew (fun _=>false) undef w.drew) (hQ:∀(u:Value) w',wsWxC A A2 E n c kk m c2 e c3 W1 w.drew (fun _=>true) u w'->Q .normal (puts [(9,.slice A n c),(10,.int .i64 (kk:Int)),(11,.int .i64 (kk:Int)),(12,.slice A kk kk),(13,.slice A n c),(14,.int .i64 (kk:Int)),(15,.int .i64 ((kk+1:Nat):Int)),(16,.slice A2 m c2),(17,.slice E e c3),(4,.slice E e c3)] a) w')
 :(Code.region 3 opsWxC.toArray true).wp Tryz.prog Q a w:=by
 refine region_c (U:=Value) 18 opsWxC [(0,.slice A n c),(1,.int .i64 (kk:Int))] [8] (fun _=>[.slice A n c,.int .i64 (kk:Int),.int .i64 (kk:Int),.slice A kk kk,.slice A n c,.int .i64 (kk:Int),.int .i64 ((kk+1:Nat):Int),.slice A2 m c2,.slice E e c3,.slice E e c3]) (wsWxC A A2 E n c kk m c2 e c3 W1 w.drew) undef follows (by kernel_rfl) hN ⟨h0,h1,trivial⟩ (fun _=>nBl rfl) hW0 (fun _ _ _ _ hi h=>wsWxC_same _ _ _ _ _ _ _ _ _ _ _ (key_ne hi rfl) h) ?_ ?_ ?_
 ·intro L u w' hW _;exact ⟨fun _=>rfl,fun _=>rfl,fun _=>rfl,fun _=>ob_sl (run_fullI _ _ _ _ _ hkc),fun _=>rfl,fun _=>rfl,fun _=>ob_bin (guard_int _ _ _ _ _ _ _ _ _) (run_addOne _ _ hkm),fun _=>ob_sl (hfr _),trivial,fun _=>rfl,trivial⟩
 ·refine ⟨?_,trivial⟩
  ·rintro o ho L u a' w' hLi hpre hcl hR hW fin;have hio:=(nthO_eq _ _).symm.trans ho
   cases ho
   have q3:a'.tmps.getD 12 undef=.slice A kk kk:=hR.val 3 _ 12 rfl rfl (edge_ofF hpre 3 rfl);have q7:a'.tmps.getD 16 undef=.slice A2 m c2:=hR.val 7 _ 16 rfl rfl (edge_ofF hpre 7 rfl);have hw:=hW.1 hLi;refine step_appI hio rfl rfl q3 q7 (by rw [hw];exact hap) ?_;have hW2:wsWxC A A2 E n c kk m c2 e c3 W1 w.drew (fun j=>L j||j==8) u W1:=⟨fun h=>by simp at h,fun _=>rfl⟩;exact (fin (u) (.slice E e c3) _ (fun _=>rfl) (fun _ _=>rfl) (hW2))
 ·intro L u w' hl hW;refine hQ u w' ?_;unfold wsWxC at hW ⊢;simp only [hl 8 (nBl rfl)] at hW ⊢;exact hW
theorem without_any (A:Option Addr) (L c:Nat) (l:List Nat) (k:Nat) (w:World) (hL:L=l.length) (hc:L<=c) (hk:k<L) (hm:L<=100) (hA:HasI w A l):
 Calls Tryz.prog 51 #[.slice A L c,.int .i64 (k:Int)] w fun e W'=>∃E c',e=.returned (.slice E (L - 1) c')/\L - 1<=c'/\HasI W' E (l.eraseIdx k)/\Below w.heap.size w W'/\(1<L->∀x o m,E=some ⟨x,o,m⟩->w.heap.size<=x\/∃o',A=some ⟨x,o',none⟩):=by
 have HL:=hiD hL;have HA:=hiD hA
 by_cases hk0:k=0
 ·subst hk0;obtain ⟨A2,hfr,hA2⟩:=run_fromI A L c 1 (by omega) hc (by omega);obtain ⟨lb,lo,hAe,_,_⟩:=hA (by rintro rfl;simp at hL;omega)
  have h2:HasI w A2 (l.eraseIdx 0):=by
   have:=hA.drop (n:=1) (A':=A2) (fun b o e h=>hA2 b o e (by omega))
   rwa [List.eraseIdx_eq_take_drop_succ]
  have HE:=hiD (show HasI w A2 (l.eraseIdx 0)/\(1<L->∀x o m,A2=some ⟨x,o,m⟩->w.heap.size<=x\/∃o',A=some ⟨x,o',none⟩) from ⟨h2,fun h x o m e=>by
   have e2:=hA2 lb lo hAe h;rw [e2] at e
   cases e
   exact .inr ⟨lo,hAe⟩⟩)
  have hfr':∀w:World,(Instr.sliceAt 23 (.slice A L c) (some (.int .i64 1)) none none).run Tryz.prog w=.ok (.slice A2 (L - 1) (c - 1)) w:=hfr;have hc1:L - 1<=c - 1:=by omega
  have HC1:=hiD hc1;clear hL hA hfr hA2 hAe h2 hc1 hc hk hm;go_enter Tryz.func51,Tryz.ntmps51;go_wp2;go_ret;exact ⟨A2,c - 1,rfl,HC1.out,HE.out.1,Below.refl _ _,HE.out.2⟩
 ·have hk0i:¬(k:Int)=0:=by omega
  have hAd:HasI w.drew A l:=hA.below (Below.refl _ w).drew;obtain ⟨lb,lo,hAe,_,_⟩:=hA (by rintro rfl;simp at hL;omega);obtain ⟨A2,hfr,hA2⟩:=run_fromI A L c (k+1) (by omega) hc (by omega);obtain ⟨E',c',W4,hap,hc',hb4,hI4,hE'⟩:=run_cutI w.drew 23 A A2 k (L - (k+1)) (c - (k+1)) l (by omega) (hAd.take k) (hAd.drop (fun b o e h=>hA2 b o e (by omega))) (by omega) (by omega);rw [<-hL] at hap hc'
  have HR:=hiD (show L - 1<=c'/\HasI W4 E' (l.eraseIdx k)/\Below w.heap.size w W4/\(1<L->∀x o m,E'=some ⟨x,o,m⟩->w.heap.size<=x\/∃o',A=some ⟨x,o',none⟩) from ⟨hc',hI4,(Below.refl _ w).drew.trans hb4,fun _ x o m e=>by
   rcases hE' with e'|e'
   ·rw [e',hAe] at e
    cases e
    exact .inr ⟨lo,hAe⟩
   ·rw [e'] at e
    cases e
    exact .inl (nLr _)⟩)
  have hfr2:=hiD hfr;have hap2:=hiD hap;have HK:=hiD (show k<=c/\k<=1000000 from ⟨by omega,by omega⟩);clear hL hA hAd hfr hA2 hap hc' hb4 hI4 hE' hAe hc hk hm hk0;go_enter Tryz.func51,Tryz.ntmps51;go_upto_region 3 with (fail)
  refine wvcutC A A2 E' L c k (L - (k+1)) (c - (k+1)) (L - 1) c' W4 _ w _ rfl rfl rfl HK.out.1 HK.out.2 hfr2.out hap2.out ⟨fun _=>rfl,fun h=>(by cases h)⟩ ?_;intro _ W5 hws;obtain rfl:W5=W4:=hws.2 rfl;clear hws;simp only [puts,List.foldl_cons,List.foldl_nil,Act.put,List.setIfInBounds_toArray,List.set_cons_succ,List.set_cons_zero];go_wp2;go_ret;exact ⟨E',c',rfl,HR.out.1,HR.out.2.1,HR.out.2.2.1,HR.out.2.2.2⟩
end Go.Proofs.YtfjmdkhemnmkpaaGreatDoor
namespace Go.Proofs.YtfjmdkhemnmkpaaGreatDoor
open Go.Maps Go.RowKit
noncomputable def rowW (pk:Nat->Nat->Nat->Int) (ms:List CM) (a:AM) (t:Nat) (j:Nat):DV:=if j∈(orderM pk ms).take t then ⟨(toldO (runO (atM ms) ((orderM pk ms).take t) a).2 j).1.1,(toldO (runO (atM ms) ((orderM pk ms).take t) a).2 j).1.2,(toldO (runO (atM ms) ((orderM pk ms).take t) a).2 j).2,waveI ms j,(orderM pk ms).idxOf j⟩ else D0
theorem orderM_nodup (pk:Nat->Nat->Nat->Int) (ms:List CM):(orderM pk ms).Nodup:=(orderM_perm pk ms).nodup_iff.2 List.nodup_range
theorem rowW_zero (pk:Nat->Nat->Nat->Int) (ms:List CM) (a:AM):rowW pk ms a 0=fun _=>D0:=by
 funext j
 simp [rowW]
theorem runW_succ {pk:Nat->Nat->Nat->Int} {ms:List CM} {a:AM} {t:Nat} (h:t<(orderM pk ms).length):
 (runO (atM ms) ((orderM pk ms).take (t+1)) a).1=(doA (runO (atM ms) ((orderM pk ms).take t) a).1 (atM ms (orderM pk ms)[t])).1/\
 rowW pk ms a (t+1)=updT (rowW pk ms a t) (orderM pk ms)[t] ⟨(doA (runO (atM ms) ((orderM pk ms).take t) a).1 (atM ms (orderM pk ms)[t])).2.1.1,(doA (runO (atM ms) ((orderM pk ms).take t) a).1 (atM ms (orderM pk ms)[t])).2.1.2,(doA (runO (atM ms) ((orderM pk ms).take t) a).1 (atM ms (orderM pk ms)[t])).2.2,waveI ms (orderM pk ms)[t],t⟩:=by
 have hn:=orderM_nodup pk ms;have hs:=runO_snoc (atM ms) (orderM pk ms)[t] ((orderM pk ms).take t) a (nodup_fresh hn h);rw [<-List.take_succ_eq_append_getElem h] at hs;refine ⟨hs.1,?_⟩;have hi:=hn.idxOf_getElem t h;obtain ⟨q,hq⟩:∃q,q=(orderM pk ms)[t]:=⟨_,rfl⟩
 have hm:∀j,j∈(orderM pk ms).take (t+1)<->j∈(orderM pk ms).take t\/j=q:=fun j=>by
  rw [List.take_succ_eq_append_getElem h,List.mem_append,List.mem_singleton,hq]
 rw [<-hq] at hs hi ⊢
 funext j
 unfold updT rowW
 by_cases hj:j=q
 ·subst hj;rw [if_pos ((hm j).2 (.inr rfl)),if_pos rfl,hs.2,hi];simp [updT]
 ·rw [if_neg hj]
  by_cases hl:j∈(orderM pk ms).take t
  ·rw [if_pos ((hm j).2 (.inl hl)),if_pos hl,hs.2];simp [updT,hj]
  ·rw [if_neg (fun h=>((hm j).1 h).elim hl hj),if_neg hl]
abbrev RunT (F:Nat->Prop) (w:World) (R b r:Nat) (A:Option Addr) (L c:Nat) (f:Value) (pk:Nat->Nat->Nat->Int) (ms:List CM) (a:AM) (t:Nat) (W:World):Prop:=RunQ F w R b r A L c f (runO (atM ms) ((orderM pk ms).take t) a).1 (rowW pk ms a t) t W
theorem wwave_any {F:Nat->Prop} {w W:World} {R b r:Nat} {A:Option Addr} {L c:Nat} {f:Value} {pk:Nat->Nat->Nat->Int} {ms:List CM} {a:AM} {l:List CmdV} {t0:Nat} (H:RunT F w R b r A L c f pk ms a t0 W) (hT:TabK w) (h0:AppQ F w R a) (hlim:LimAn 1000 a) (hms:ms=l.map (·.m)) (hL:L=l.length) (hm:L<=100) (hA:CmdQ r b W A l) (hng:∀v∈l,¬v.great) (hf:PickF F w f pk)
 (wv:Nat) (hwv:wv<=1000) (g:List Nat) (gs:List (List Nat)) (gA:Option Addr) (gc:Nat) (hg:HasI W gA g) (hgo:OffB r b gA) (hgc:g.length<=gc) (hgl:g.length<=100) (hlw:LeftW pk (orderM pk ms) t0 wv 0 g gs) (hgw:∀i∈g,waveI ms i=wv):
 Calls Tryz.prog 29 #[.pointer (some ⟨r,0,none⟩),.int .i64 (wv:Int),.slice gA g.length gc] W fun e W'=>e=.returned (.tuple #[])/\∃t1,(orderM pk ms).drop t1=orderW pk (wv+1) gs/\RunT F w R b r A L c f pk ms a t1 W'/\FarW r b W W':=by
 have HS:=hiD (aI H (aI hg (aI hgo hlw)));have HG:=hiD (aI hT (aI h0 (aI hlim (aI hms (aI hA (aI hng (aI hf (aI hgw hL))))))));obtain ⟨G,hG⟩:∃x,x=g.length:=⟨_,rfl⟩;rw [<-hG] at hgc hgl ⊢;have HGG:=hiD hG;have hGi:(G:Int)<=100:=by omega
 have hrl:=H.lt;have hbl:=H.go.lt;have HRB:=hiD (aI hrl hbl);clear H hT h0 hlim hms hA hng hf hg hgo hlw hgw hL hG hrl hbl;go_enter Tryz.func29,Tryz.ntmps29;go_wp2
 go_loopw [6,13] (fun s i wr=>∃(t k:Nat) (left:List Nat) (E:Option Addr) (ec:Nat),s=.slice E left.length ec/\left.length<=ec/\i=.int .i64 (k:Int)/\k+left.length=G/\Hid (RunT F w R b r A L c f pk ms a t wr/\LeftW pk (orderM pk ms) t wv k left gs/\HasI wr E left/\(left≠[]->OffB r b E)/\(∀j∈left,j∈g)/\FarW r b W wr)) (fun _ i _=>G - (intOf i).toNat)
 case atStart=>exact ⟨t0,0,g,gA,gc,by rw [HGG.out],by rw [<-HGG.out];exact hgc,rfl,by rw [HGG.out];omega,hiD ⟨HS.out.1,HS.out.2.2.2,HS.out.2.1,fun _=>HS.out.2.2.1,fun _ h=>h,FarW.below (Below.refl _ W)⟩⟩
 case round=>
  obtain ⟨t,k,left,E,ec,rfl,hec,rfl,hkl,HK⟩:=hrel;obtain ⟨n,hn⟩:∃n,n=left.length:=⟨_,rfl⟩;rw [<-hn] at hec hkl ⊢
  by_cases hlt:k<G
  ·have hki:(k:Int)<G:=by omega
   have hn0:0<n:=by omega
   have hl0:0<left.length:=by omega
   obtain ⟨pp,hpp⟩:∃pp,pp=pk wv k n:=⟨_,rfl⟩;obtain ⟨p,hp⟩:∃p,p=placeN (pk wv k left.length) left.length:=⟨_,rfl⟩;have hpn:p<left.length:=by rw [hp];exact place_lt _ hl0
   obtain ⟨ht,hot,hls⟩:=HK.out.2.1.step hl0;have hq0:(orderM pk ms)[t]=left[p]:=by rw [hot];simp only [hp]
   rw [<-hp] at hls;obtain ⟨q,hq⟩:∃q,q=left[p]:=⟨_,rfl⟩;have hqg:q∈g:=HK.out.2.2.2.2.1 q (by rw [hq];exact List.getElem_mem hpn);have hmsl:ms.length=l.length:=by rw [HG.out.2.2.2.1,List.length_map]
   have htl:t<l.length:=by rw [orderM_len] at ht;omega
   have hql:q<l.length:=by
    have h1:(orderM pk ms)[t]∈orderM pk ms:=List.getElem_mem ht;rw [hq0,<-hq] at h1;have:=List.mem_range.1 ((orderM_perm pk ms).mem_iff.1 h1);omega
   have hqL:q<L:=by have:=HG.out.2.2.2.2.2.2.2.2;omega
   have hLl:l.length<=100:=by have:=HG.out.2.2.2.2.2.2.2.2;omega
   have HP:=hiD (ask_any HK.out.1 HG.out.2.2.2.2.2.2.1 wv k n (by omega) (by omega) (by omega));rw [<-hpp] at HP
   have hmo:∀V,Calls Tryz.prog 49 #[.int .i64 pp,.int .i64 (n:Int)] V fun e W'=>e=.returned (.int .i64 (p:Int))/\W'=V:=fun V=>by
    have:=modulo_any pp n hn0 (by omega) V;rw [hpp] at this ⊢;rw [hp,<-hn];exact this
   have HMO:=hiD hmo;obtain ⟨lb,lo,hE,hlb,hlc⟩:=HK.out.2.2.1 (by rintro rfl;simp at hl0);subst hE;have hcq:=hlc p hpn;rw [<-hq] at hcq;have HLC:=hiD (aI hlb hcq);have hstep:=runW_succ (a:=a) ht;rw [hq0,<-hq] at hstep;have hxm:atM ms q=(l[q]).m:=by rw [atM_get (by omega)];simp [HG.out.2.2.2.1]
   rw [hxm,HG.out.2.2.2.2.2.2.2.1 q hqg] at hstep
   have hlimt:LimA (runO (atM ms) ((orderM pk ms).take t) a).1:=by
    rw [runO_one];refine (oneO_lim HG.out.2.2.1 _ (by simp;omega) fun m hm=>?_).lim (by simp;omega);obtain ⟨j,hj,rfl⟩:=List.mem_map.1 hm;have hjl:j<ms.length:=List.mem_range.1 ((orderM_perm pk ms).mem_iff.1 (List.mem_of_mem_take hj));rw [atM_get hjl];have hjl2:j<l.length:=by omega
    have hjm:ms[j]=(l[j]).m:=by simp [HG.out.2.2.2.1]
    rw [hjm];obtain ⟨_,_,_,_,hf⟩:=HG.out.2.2.2.2.1.has (by rintro rfl;simp at hjl2);exact ⟨(hf j hjl2).2.cl,(hf j hjl2).2.sq⟩
   have hgy:(l[q]).ks.length<=100:=by
    have hn:=HG.out.2.2.2.2.2.1 l[q] (List.getElem_mem hql);have:¬100<(l[q]).ks.length:=fun hh=>hn (.inr (.inr (.inl hh)))
    omega
   have HD:Hid (∀V,Below wr.heap.size wr V->Calls Tryz.prog 39 #[.pointer (some ⟨r,0,none⟩),.int .i64 (q:Int),.int .i64 (wv:Int)] V fun e W'=>e=.returned (.tuple #[])/\RunT F w R b r A L c f pk ms a (t+1) W'/\FarW r b V W'):=hiD (fun V hb=>by
    have HV:=HK.out.1.grew hb;obtain ⟨cb,co,hAe,hcb,hfc⟩:=(HG.out.2.2.2.2.1.far (HK.out.2.2.2.2.2.trans (FarW.below hb))).has (by rintro rfl;simp at hql);subst hAe;obtain ⟨g1,g2⟩:=hfc q hql;have:=wdo_any HV HG.out.1 HG.out.2.1 hlimt q wv l[q] hqL hcb (fun j u hu=>g1 j u hu) g2 hgy (by omega);refine this.mono ?_;rintro e W' ⟨rfl,k1,k2⟩;refine ⟨rfl,?_,k2⟩;unfold RunT;rw [hstep.1,hstep.2];exact k1)
   have HN:=hiD (aI hn (aI hls (aI hq hpn)));have hpi:(p:Int)<n:=by omega
   have hp0:(0:Int)<=(p:Int):=by omega
   have hki2:(k:Int)<=100:=by omega
   clear hstep hlimt hgy hlc hxm hls hq0 hot hq hp hqg hcq hlb hpp hmo hn
   go_wp2_with fail
   refine HP.out.mono ?_;rintro e W2 ⟨rfl,hb2⟩;have c2:W2.cell? ⟨lb,lo+p,none⟩=some (.int .i64 (q:Int)):=(hb2.cell (p:=⟨lb,lo+p,none⟩) HLC.out.1).trans HLC.out.2;have HD2:=hiD (HD.out W2 hb2);have HB2:=hiD hb2;clear hb2
   go_wp2_with fail
   refine (HMO.out W2).mono ?_;rintro e W2' ⟨rfl,hWe⟩;obtain rfl:W2'=W2:=hWe
   go_wp2_with fail
   refine HD2.out.mono ?_;rintro e W3 ⟨rfl,k1,k2⟩;have hF3:FarW r b wr W3:=(FarW.below HB2.out).trans k2;have hI3:HasI W3 (some ⟨lb,lo,none⟩) left:=HK.out.2.2.1.far hF3 (HK.out.2.2.2.1 (by rintro rfl;have:=HN.out.2.2.2;simp at this));have HWo:=hiD (without_any (some ⟨lb,lo,none⟩) n ec left p W3 HN.out.1 hec (by have:=HN.out.1;have:=HN.out.2.2.2;omega) (by omega) hI3);have HK3:=hiD (aI k1 (aI hF3 k2));clear k1 k2 hF3 hI3 c2 HP HD HD2
   go_wp2_with fail
   refine HWo.out.mono ?_;rintro e W4 ⟨E',c',rfl,hc',hI4,hb4,hE'⟩;have hlen:(left.eraseIdx p).length=n - 1:=by rw [List.length_eraseIdx_of_lt HN.out.2.2.2,HN.out.1]
   have H4:=hiD (aI (HK3.out.1.grew hb4) (aI HN.out.2.1 (aI hI4 (aI (show left.eraseIdx p≠[]->OffB r b E' from fun hne x o m e=>by
    have h1:1<n:=by
     have:=List.length_pos_iff.2 hne;omega
    rcases hE' h1 x o m e with h2|⟨o',h2⟩
    ·have h3:=HK3.out.2.1.1;have h4:=HK3.out.1.lt;have h5:=HK3.out.1.go.lt;exact ⟨by omega,by omega⟩
    ·exact HK.out.2.2.2.1 (by rintro rfl;have:=HN.out.2.2.2;simp at this) x o' none h2) (aI (fun (j:Nat) (hj:j∈left.eraseIdx p)=>HK.out.2.2.2.2.1 j (List.mem_of_mem_eraseIdx hj)) ((HK.out.2.2.2.2.2.trans HK3.out.2.1).trans (FarW.below hb4)))))))
   have HL4:=hiD (aI hlen hc');clear hc' hI4 hb4 hE' hlen HWo;go_wp2;have hnn:=HN.out.1;refine ⟨⟨t+1,k+1,left.eraseIdx p,E',c',by rw [HL4.out.1],by rw [HL4.out.1];exact HL4.out.2,by congr 1,by rw [HL4.out.1];omega,hiD H4.out⟩,?_⟩;simp only [intOf];omega
  ·have hki:¬(k:Int)<G:=by omega
   obtain rfl:left=[]:=List.length_eq_zero_iff.1 (by omega);have HE:=hiD HK.out;clear HK;go_wp2;go_end0;exact ⟨rfl,t,HE.out.2.1.fin,HE.out.1,HE.out.2.2.2.2.2⟩
end Go.Proofs.YtfjmdkhemnmkpaaGreatDoor
namespace Go.Proofs.YtfjmdkhemnmkpaaGreatDoor
open Go.RowKit
theorem run_append_copy {P:Program} (w:World) (t ty e:TypeId) (i:TypeInfo) (z:Value) (ht:P.underlying t=some (.slice e)) (hi:P.info? e=some i) (hz:i.zero=some z) (g:Nat) (a:Addr) (n c:Nat) (news:List Value) (hl:news.length=n*i.size) (hnews:∀j v,news[j]?=some v->w.cell? (a.add j)=some v) (hn:n<=1000) (hby:i.bytes<=1000):
 ∃A' c' W',(Builtin.append_ #[t,t] ty #[.slice (some ⟨g,0,none⟩) 0 0,.slice (some a) n c]).run P w=.ok (.slice A' n c') W'/\n<=c'/\Below w.heap.size w W'/\(n≠0->A'=some ⟨w.heap.size,0,none⟩/\∃rest,W'.heap[w.heap.size]?=some (.cells (news.toArray++rest) e (0,0)))/\∀x o m,A'=some ⟨x,o,m⟩->x=g\/(w.heap.size<=x/\x<W'.heap.size):=by
 by_cases h0:n=0
 ·subst h0;have hfc:∀k,(Builtin.firstCells i.size 0 (.slice (some a) 0 k)).run P w=.ok #[] w:=fun k=>by simp [Builtin.firstCells,loadCells,loadCellsFrom]
  refine ⟨some ⟨g,0,none⟩,0,w,?_,nLr _,Below.refl _ w,fun h=>absurd rfl h,fun x o m e=>.inl (by cases e;rfl)⟩;simp [Builtin.append_,run_underlying ht,sizeOf,typeInfo,hi,Builtin.lenOf,hfc,storeCells]
 ·have hfit:Builtin.nextslicecap (0+n) 0*i.bytes<=281474976710656:=growslice_fits (by omega) (by
   have:(0+n)*i.bytes<=1000*1000:=Nat.mul_le_mul (by omega) hby;omega)
  have hr:=run_append_grow (P:=P) w t ty e i z ht hi hz ⟨g,0,none⟩ 0 0 [] (by simp) (fun j v h=>by simp at h) a n c news hl hnews (by omega) (by omega) hfit;rw [Nat.zero_add] at hr;refine ⟨_,_,_,hr,grownCap_ge _ _ _ _,((Below.refl _ w).drew).alloc (nLr _) _,fun _=>⟨rfl,Builtin.zeroCells z.cells (grownCap w n 0 e - n),?_⟩,fun x o m e=>.inr (by cases e;exact ⟨nLr _,by rw [World.size_alloc];exact Nat.lt_succ_self _⟩)⟩;have:=wAh w.drew (.cells (([]:List Value).toArray++news.toArray++Builtin.zeroCells z.cells (grownCap w n 0 e - n)) e)
  simpa [Array.append_assoc] using this
theorem cellsS_at {w:World} {A:Addr} {l:List ByteArray} (h:HasS w (some A) l):∀j u,(cellsS l)[j]?=some u->w.cell? (A.add j)=some u:=by
 intro j u hj;unfold cellsS at hj;rw [List.getElem?_map] at hj;obtain ⟨t,ht,rfl⟩:=Option.map_eq_some_iff.1 hj;obtain ⟨hl,rfl⟩:=List.getElem?_eq_some_iff.1 ht;obtain ⟨b,o,e,_,hc⟩:=h (by rintro rfl;simp at hl)
 cases e
 rw [addr_add];exact hc j hl
def rowC (l:List CmdV):List Value:=l.flatMap fun v=>v.cells.toList
theorem rowC_len:∀l:List CmdV,(rowC l).length=l.length*7
 |[]=>rfl
 |v::l=>by
  have:=rowC_len l;simp only [rowC,List.flatMap_cons,List.length_append,List.length_cons] at this ⊢;rw [this];simp [CmdV.cells];omega
theorem rowC_get:∀(l:List CmdV) (j:Nat) (hj:j<l.length) (i:Nat),i<7->(rowC l)[j*7+i]?=l[j].cells[i]?
 |v::l,0,_,i,hi=>by
  rw [rowC,List.flatMap_cons,List.getElem?_append_left (by simp [CmdV.cells];omega)];simp
 |v::l,j+1,hj,i,hi=>by
  have:=rowC_get l j (by simpa using hj) i hi;rw [rowC] at this;rw [rowC,List.flatMap_cons,List.getElem?_append_right (by simp [CmdV.cells];omega)];rw [show (j+1)*7+i - v.cells.toList.length=j*7+i by simp [CmdV.cells];omega,this];simp
theorem rowC_at {w:World} {A:Addr} {l:List CmdV} (h:HasC w (some A) l):∀j u,(rowC l)[j]?=some u->w.cell? (A.add j)=some u:=by
 intro j u hj;have hlt:=(List.getElem?_eq_some_iff.1 hj).1;rw [rowC_len] at hlt;obtain ⟨b,o,e,_,hc⟩:=h (by rintro rfl;simp at hlt)
 cases e
 have h1:j/7<l.length:=by omega
 have h2:=rowC_get l (j/7) h1 (j%7) (Nat.mod_lt _ (by decide));rw [show j/7*7+j%7=j by omega,hj] at h2;have:=(hc (j/7) h1).1 (j%7) u h2.symm;rw [addr_add];rw [show o+j/7*7+j%7=o+j by omega] at this;exact this
theorem infoX:(Tryz.prog.info? 57).map (fun i=>(i.zero,i.size,i.bytes))=some (some (.agg #[.int .u32 0,.int .u32 0,.int .u8 0,.slice none 0 0,.string ⟨#[]⟩,.string ⟨#[]⟩,.int .i64 0]),7,80):=by kernel_rfl
theorem infoX_parts:∃i,Tryz.prog.info? 57=some i/\i.zero=some (.agg #[.int .u32 0,.int .u32 0,.int .u8 0,.slice none 0 0,.string ⟨#[]⟩,.string ⟨#[]⟩,.int .i64 0])/\i.size=7/\i.bytes=80:=by
 have h:=infoX
 cases hi:Tryz.prog.info? 57 with
 |none=>rw [hi] at h;cases h
 |some i=>rw [hi] at h;simp at h;exact ⟨i,rfl,h.1,h.2.1,h.2.2⟩
theorem cloneS_any (A:Option Addr) (L c:Nat) (ks:List ByteArray) (w:World) (hL:L=ks.length) (hm:L<=1000) (hA:HasS w A ks):
 Calls Tryz.prog 76 #[.slice A L c] w fun e W'=>∃A' c',e=.returned (.slice A' L c')/\L<=c'/\HasS W' A' ks/\Below w.heap.size w W'/\∀x o m,A'=some ⟨x,o,m⟩->w.heap.size<=x/\x<W'.heap.size:=by
 obtain ⟨i,hi,hz,hsz,hby⟩:=infoS_parts;have HL:=hiD hL;clear hL
 cases A with
 |none=>
  have hks:ks=[]:=Classical.byContradiction fun hn=>by obtain ⟨_,_,h,_⟩:=hA hn;cases h
  have h0:L=0:=by rw [HL.out,hks];rfl
  subst h0;have hq:∀W,(binOp .eql 55 (.slice none 0 c) (.slice none 0 0)).run Tryz.prog W=.ok (.bool true) W:=fun W=>Lib.run_eql_slice_nil W _ _ none 0 c 0 0 Tryz.underlying55
  have HK:=hiD hks;clear hA hks;go_enter Tryz.func76,Tryz.ntmps76;go_wp2;go_ret;exact ⟨none,0,rfl,nLr _,by rw [HK.out];exact fun h=>absurd rfl h,Below.refl _ _,fun _ _ _ e=>by cases e⟩
 |some a=>
  obtain ⟨W1,hW1⟩:∃x,x=w.alloc (.cells #[] 9):=⟨_,rfl⟩;have hb1:Below w.heap.size w W1:=by rw [hW1];exact (Below.refl _ w).alloc (nLr _) _
  have hs1:W1.heap.size=w.heap.size+1:=by rw [hW1];exact World.size_alloc _ _
  obtain ⟨A',c',W2,hr,hc',hb2,hn,hx⟩:=run_append_copy (P:=Tryz.prog) W1 55 55 9 i _ Tryz.underlying55 hi hz w.heap.size a L c (cellsS ks) (by simp [cellsS,HL.out,hsz]) (cellsS_at (hA.below hb1)) hm (by rw [hby];omega);have HR:=hiD hr
  have hS:HasS W2 A' ks:=fun hne=>by
   have h0:L≠0:=by rw [HL.out];exact fun h=>hne (List.length_eq_zero_iff.1 h)
   obtain ⟨e,rest,h1⟩:=hn h0;refine ⟨_,0,e,(geS.1 h1).1,fun j hj=>?_⟩;rw [blk_cell h1,Array.getElem?_append_left (by simp [cellsS];omega)];simp [cellsS,hj]
  have HF:=hiD (show L<=c'/\HasS W2 A' ks/\Below w.heap.size w W2/\∀x o m,A'=some ⟨x,o,m⟩->w.heap.size<=x/\x<W2.heap.size from ⟨hc',hS,hb1.trans (Below.mono hb2 hb1.size),fun x o m e=>by
   have h2:=hb2.size
   rcases hx x o m e with rfl|⟨h3,h4⟩
   ·exact ⟨nLr _,by omega⟩
   ·exact ⟨by omega,h4⟩⟩)
  have hq:∀W,(binOp .eql 55 (.slice (some a) L c) (.slice none 0 0)).run Tryz.prog W=.ok (.bool false) W:=fun W=>Lib.run_eql_slice_nil W _ _ (some a) L c 0 0 Tryz.underlying55
  clear hA hr hc' hn hx hS hb1 hb2 hs1;go_enter Tryz.func76,Tryz.ntmps76
  go_wp2_with (at_builtin;refine Lib.wpList_append_run _ rfl (.tmp 5) (.tmp 6) 55 55 rfl _ _ rfl rfl _ _ (by rw [<-hW1];exact HR.out) ?_)
  go_ret;exact ⟨A',c',rfl,HF.out.1,HF.out.2.1,HF.out.2.2.1,HF.out.2.2.2⟩
theorem cloneC_any (A:Option Addr) (L c:Nat) (l:List CmdV) (w:World) (hL:L=l.length) (hm:L<=1000) (hA:HasC w A l):
 Calls Tryz.prog 75 #[.slice A L c] w fun e W'=>∃A' c',e=.returned (.slice A' L c')/\L<=c'/\(L≠0->∃g cs,A'=some ⟨g,0,none⟩/\W'.heap[g]?=some (.cells cs 57 (0,0))/\∀j (h:j<l.length) i u,l[j].cells[i]?=some u->cs[j*7+i]?=some u)/\Below w.heap.size w W'/\∀x o m,A'=some ⟨x,o,m⟩->w.heap.size<=x/\x<W'.heap.size:=by
 obtain ⟨i,hi,hz,hsz,hby⟩:=infoX_parts;have HL:=hiD hL;clear hL
 cases A with
 |none=>
  have hks:l=[]:=Classical.byContradiction fun hn=>by obtain ⟨_,_,h,_⟩:=hA hn;cases h
  have h0:L=0:=by rw [HL.out,hks];rfl
  subst h0;have hq:∀W,(binOp .eql 22 (.slice none 0 c) (.slice none 0 0)).run Tryz.prog W=.ok (.bool true) W:=fun W=>Lib.run_eql_slice_nil W _ _ none 0 c 0 0 Tryz.underlying22
  clear hA hks;go_enter Tryz.func75,Tryz.ntmps75;go_wp2;go_ret;exact ⟨none,0,rfl,nLr _,fun h=>absurd rfl h,Below.refl _ _,fun _ _ _ e=>by cases e⟩
 |some a=>
  obtain ⟨W1,hW1⟩:∃x,x=w.alloc (.cells #[] 57):=⟨_,rfl⟩;have hb1:Below w.heap.size w W1:=by rw [hW1];exact (Below.refl _ w).alloc (nLr _) _
  have hs1:W1.heap.size=w.heap.size+1:=by rw [hW1];exact World.size_alloc _ _
  obtain ⟨A',c',W2,hr,hc',hb2,hn,hx⟩:=run_append_copy (P:=Tryz.prog) W1 22 22 57 i _ Tryz.underlying22 hi hz w.heap.size a L c (rowC l) (by rw [rowC_len,HL.out,hsz]) (rowC_at (hA.below hb1)) hm (by rw [hby];omega);have HR:=hiD hr
  have HF:=hiD (show L<=c'/\(L≠0->∃g cs,A'=some ⟨g,0,none⟩/\W2.heap[g]?=some (.cells cs 57 (0,0))/\∀j (h:j<l.length) i u,l[j].cells[i]?=some u->cs[j*7+i]?=some u)/\Below w.heap.size w W2/\∀x o m,A'=some ⟨x,o,m⟩->w.heap.size<=x/\x<W2.heap.size from ⟨hc',fun h0=>by
   obtain ⟨e,rest,h1⟩:=hn h0;refine ⟨_,_,e,h1,fun j hj i u hu=>?_⟩
   have hi7:i<7:=by
    have:=(geS.1 hu).1
    simpa [CmdV.cells] using this
   rw [Array.getElem?_append_left (by simp [rowC_len];omega)]
   simpa using (rowC_get l j hj i hi7).trans hu,hb1.trans (Below.mono hb2 hb1.size),fun x o m e=>by
   have h2:=hb2.size
   rcases hx x o m e with rfl|⟨h3,h4⟩
   ·exact ⟨nLr _,by omega⟩
   ·exact ⟨by omega,h4⟩⟩)
  have hq:∀W,(binOp .eql 22 (.slice (some a) L c) (.slice none 0 0)).run Tryz.prog W=.ok (.bool false) W:=fun W=>Lib.run_eql_slice_nil W _ _ (some a) L c 0 0 Tryz.underlying22
  clear hA hr hc' hn hx hb1 hb2 hs1;go_enter Tryz.func75,Tryz.ntmps75
  go_wp2_with (at_builtin;refine Lib.wpList_append_run _ rfl (.tmp 5) (.tmp 6) 22 22 rfl _ _ rfl rfl _ _ (by rw [<-hW1];exact HR.out) ?_)
  go_ret;exact ⟨A',c',rfl,HF.out.1,HF.out.2.1,HF.out.2.2.1,HF.out.2.2.2⟩
end Go.Proofs.YtfjmdkhemnmkpaaGreatDoor
