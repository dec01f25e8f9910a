/- Parts of the proof: WvP, WvQ, WxQ, WxDoR, WxDo. -/
import Derived.Test.YtfjmdkhemnmkpaaGreatDoorR14
import Derived.Test.YtfjmdkhemnmkpaaGreatDoorR15
import Derived.Test.YtfjmdkhemnmkpaaGreatDoorR26
import Derived.Test.YtfjmdkhemnmkpaaGreatDoorR24
import Derived.Test.YtfjmdkhemnmkpaaGreatDoorR02
set_option maxRecDepth 100000
set_option maxHeartbeats 8000000
namespace Go.Proofs.YtfjmdkhemnmkpaaGreatDoor
open Go.Maps Go.RowKit
theorem appQ_sorted {F:Nat->Prop} {w:World} {R:Nat} {a:AM} (h:AppQ F w R a):SortedA a:=by
 obtain ⟨Rk,Rs,Fb,_,h2,_,_⟩:=h.ex;obtain ⟨Fk,Fs,⟨_,_,hk,_⟩,⟨_,_,hs,_⟩,_,_⟩:=h2.ex;exact ⟨hk,hs⟩
theorem appQ_kinds {F:Nat->Prop} {w:World} {R:Nat} {a:AM} (h:AppQ F w R a):∀k,F k->KindA w k:=by
 obtain ⟨Rk,Rs,Fb,h1,h2,_,h4⟩:=h.ex;obtain ⟨Fk,Fs,⟨p,hp,_,hpF⟩,⟨q,hq,_,hqF⟩,_,h5⟩:=h2.ex
 have one:∀{p:Option Nat} {v:Value} {o:Nat},(#[Value.map p]:Array Value)[o]?=some v->(∃q,v=.pointer q)\/(∃q,v=.map q)\/∃n,v=.int .u64 n:=by
  intro p v o ho
  cases o with
  |zero=>exact .inr (.inl ⟨p,by simpa using ho.symm⟩)
  |succ o=>simp at ho
 intro k hk
 rcases (h4 k).1 hk with hk|rfl
 ·rcases (h5 k).1 hk with hk|hk
  ·rcases (hpF k).1 hk with rfl|e
   ·exact .inr ⟨_,_,_,hp.cell,fun o v ho=>one ho⟩
   ·exact .inl (hp.map.blk e)
  ·rcases (hqF k).1 hk with rfl|e
   ·exact .inr ⟨_,_,_,hq.cell,fun o v ho=>one ho⟩
   ·exact .inl (hq.map.blk e)
 ·refine .inr ⟨_,_,_,h1,fun o v ho=>?_⟩
  match o with
  |0=>exact .inl ⟨some ⟨Rk,0,none⟩,by simpa using ho.symm⟩
  |1=>exact .inl ⟨some ⟨Rs,0,none⟩,by simpa using ho.symm⟩
  |2=>exact .inr (.inr ⟨(a.n:Int),by simpa using ho.symm⟩)
  |o+3=>simp at ho
theorem abytes_lim {F:Nat->Prop} {w:World} {R:Nat} {a:AM} (h:AppQ F w R a) (hl:LimAn 300 a):Calls Tryz.prog 14 #[.pointer (some ⟨R,0,none⟩)] w fun e W'=>∃v n,e=.returned v/\W'.ownsRow w.heap.size 5 1 v n ((bytesA a).map enc)/\Below w.heap.size w W':=by
 refine abytes_anyB h ?_ ?_ (hl.p.lim (by omega)) ⟨nLt hl.len (by omega),fun e he=>by have:=hl.each e he;omega⟩
 ·have h1:=flat_lenX pairB 2020 a.ps fun q hq=>by
   have h2:=hl.p.each q hq;have h3:=txt_le (s:=q.1) (by omega);have h4:=txt_le (s:=q.2) (by omega);rw [pairB,List.length_append];omega
  have h5:=vb_len10 (n:=a.ps.length) (by have:=hl.p.len;omega);have h6:=hl.p.len;rw [bytesP,List.length_append];have h7:a.ps.length*2020<=600*2020:=Nat.mul_le_mul_right _ (by omega);omega
 ·have h1:=flat_lenX oneS 20040 a.ss fun e he=>by
   have h2:=hl.each e he;have h3:=txt_le (s:=e.tx) (by omega);have h4:=vb_len10 (n:=e.cl) (by omega);have h5:=vb_len10 (n:=e.sq) (by omega);have h6:=vb_len10 (n:=e.cd) (by omega);rw [oneS];simp only [List.length_append];omega
  have h5:=vb_len10 (n:=a.ss.length) (by have:=hl.len;omega);have h6:=hl.len;rw [bytesSS,List.length_append];have h7:a.ss.length*20040<=300*20040:=Nat.mul_le_mul_right _ (by omega);omega
structure RunW:Prop where
 run:∀{F:Nat->Prop} {w:World} {R:Nat} {a:AM} (A:Option Addr) (L c:Nat) (l:List CmdV) (f:Value) (pk:Nat->Nat->Nat->Int),AppQ F w R a->TabK w->LimAn 1000 a->L=l.length->L<=100->HasCF F w A l->(∀v∈l,¬v.great)->PickF F w f pk->
  Calls Tryz.prog 12 #[.pointer (some ⟨R,0,none⟩),.slice A L c,f] w fun e W'=>∃A' c',e=.returned (.slice A' L c')/\L<=c'/\HasD W' A' (runD pk (l.map (·.m)) a)/\∃F',AppQ F' W' R (endR pk (l.map (·.m)) a)/\Only F w W'/\(∀k,F' k->F k\/w.heap.size<=k)/\NotF w.heap.size F' A'
 none_:∀{F:Nat->Prop} {w:World} {R:Nat} {a:AM} (A:Option Addr) (L c:Nat) (l:List CmdV),AppQ F w R a->TabK w->LimAn 1000 a->L=l.length->L<=100->HasCF F w A l->(∀v∈l,¬v.great)->
  Calls Tryz.prog 12 #[.pointer (some ⟨R,0,none⟩),.slice A L c,.nilFunc] w fun e W'=>∃A' c',e=.returned (.slice A' L c')/\L<=c'/\HasD W' A' (runD (picksM []) (l.map (·.m)) a)/\∃F',AppQ F' W' R (endR (picksM []) (l.map (·.m)) a)/\Only F w W'/\(∀k,F' k->F k\/w.heap.size<=k)/\NotF w.heap.size F' A'
 one:∀{F:Nat->Prop} {w:World} {R:Nat} {a:AM} (A:Option Addr) (L c:Nat) (l:List CmdV),AppQ F w R a->TabK w->LimAn 1000 a->L=l.length->L<=100->HasCF F w A l->(∀v∈l,¬v.great)->
  Calls Tryz.prog 17 #[.pointer (some ⟨R,0,none⟩),.slice A L c] w fun e W'=>∃A' c',e=.returned (.slice A' L c')/\L<=c'/\HasD W' A' (oneD (l.map (·.m)) a)/\∃F',AppQ F' W' R (endO (l.map (·.m)) a)/\Only F w W'/\(∀k,F' k->F k\/w.heap.size<=k)/\NotF w.heap.size F' A'
 runNil:∀(A:Option Addr) (L c:Nat) (w:World),TabK w->L<=140737488351232->Calls Tryz.prog 12 #[.pointer none,.slice A L c,.nilFunc] w fun e W'=>∃A' c',e=.returned (.slice A' 0 c')/\Below w.heap.size w W'
 oneNil:∀(A:Option Addr) (L c:Nat) (w:World),TabK w->L<=140737488351232->Calls Tryz.prog 17 #[.pointer none,.slice A L c] w fun e W'=>∃A' c',e=.returned (.slice A' 0 c')/\Below w.heap.size w W'
def wvK (r:RunW):WvK TabK where
 grew:=TabK.grew
 Pl:=AppQ
 keep:=AppQ.keep
 lt:=AppQ.lt
 sorted:=appQ_sorted
 new:=fun w _=>anew_any w
 fold:=fun A L c l w hT hL hm hA hng=>afold_any A L c l w hT hL hm hA hng
 same:=fun _ h1 h2=>asame_any h1 h2
 run:=r.run
theorem wvN (r:RunW):WvN (wvK r) where
 kinds:=appQ_kinds
 bytes:=fun _ h hl=>abytes_lim h hl
 none_:=r.none_
 runNil:=r.runNil
 oneNil:=r.oneNil
def KindF (w:World) (k:Nat):Prop:=(∃es ck,w.heap[k]?=some (.map es ck))\/∃cs t z v,w.heap[k]?=some (.cells cs t z)/\cs[0]?=some v/\((∃q,v=.pointer q)\/∃q,v=.map q)
theorem KindF.cell {w:World} {k:Nat} {v:Value} (h:KindF w k) (hc:w.cell? ⟨k,0,none⟩=some v):(∃q,v=.pointer q)\/∃q,v=.map q:=by
 rcases h with ⟨es,ck,h⟩|⟨cs,t,z,u,h,hv,hu⟩
 ·unfold World.cell? at hc;rw [h] at hc;simp at hc
 ·unfold World.cell? at hc;rw [h] at hc;have:cs[0]?=some v:=by simpa using hc
  rw [hv] at this
  cases this
  exact hu
theorem appQ_kindF {F:Nat->Prop} {w:World} {R:Nat} {a:AM} (h:AppQ F w R a):∀k,F k->KindF w k:=by
 obtain ⟨Rk,Rs,Fb,h1,h2,_,h4⟩:=h.ex;obtain ⟨Fk,Fs,⟨p,hp,_,hpF⟩,⟨q,hq,_,hqF⟩,_,h5⟩:=h2.ex;intro k hk
 rcases (h4 k).1 hk with hk|rfl
 ·rcases (h5 k).1 hk with hk|hk
  ·rcases (hpF k).1 hk with rfl|e
   ·exact .inr ⟨_,_,_,_,hp.cell,rfl,.inr ⟨_,rfl⟩⟩
   ·exact .inl (hp.map.blk e)
  ·rcases (hqF k).1 hk with rfl|e
   ·exact .inr ⟨_,_,_,_,hq.cell,rfl,.inr ⟨_,rfl⟩⟩
   ·exact .inl (hq.map.blk e)
 ·exact .inr ⟨_,_,_,_,h1,rfl,.inl ⟨_,rfl⟩⟩
def KindT (w:World) (k:Nat):Prop:=(∃es ck,w.heap[k]?=some (.map es ck))\/∃cs t z,w.heap[k]?=some (.cells cs t z)/\(t=92\/t=126\/t=130)/\∀(o:Nat) (v:Value),cs[o]?=some v->(∃q,v=.pointer q)\/(∃q,v=.map q)\/∃n,v=.int .u64 n
theorem KindT.a {w:World} {k:Nat} (h:KindT w k):KindA w k:=by
 rcases h with h|⟨cs,t,z,h1,_,h2⟩
 ·exact .inl h
 ·exact .inr ⟨cs,t,z,h1,h2⟩
theorem appQ_kindT {F:Nat->Prop} {w:World} {R:Nat} {a:AM} (h:AppQ F w R a):∀k,F k->KindT w k:=by
 intro k hk;have hA:=appQ_kinds h k hk;obtain ⟨Rk,Rs,Fb,h1,h2,_,h4⟩:=h.ex;obtain ⟨Fk,Fs,⟨p,hp,_,hpF⟩,⟨q,hq,_,hqF⟩,_,h5⟩:=h2.ex
 rcases hA with hA|⟨cs,t,z,k1,k2⟩
 ·exact .inl hA
 ·refine .inr ⟨cs,t,z,k1,?_,k2⟩
  rcases (h4 k).1 hk with hk|rfl
  ·rcases (h5 k).1 hk with hk|hk
   ·rcases (hpF k).1 hk with rfl|e
    ·have:=hp.cell;rw [k1] at this;simp at this;exact .inr (.inl this.2.1)
    ·obtain ⟨es,ck,hm⟩:=hp.map.blk e;rw [k1] at hm
     cases hm
   ·rcases (hqF k).1 hk with rfl|e
    ·have:=hq.cell;rw [k1] at this;simp at this;exact .inr (.inr this.2.1)
    ·obtain ⟨es,ck,hm⟩:=hq.map.blk e;rw [k1] at hm
     cases hm
  ·rw [k1] at h1;simp at h1;exact .inl h1.2.1
theorem var_only {P:Program} {F:Nat->Prop} {w w':World} {n:String} {cs:Array Value} {v:Value} (h:w.var? P n=some cs) (ho:Only F w w') (hk:∀k,F k->KindF w k) (hv:cs[0]?=some v) (hn:¬((∃q,v=.pointer q)\/∃q,v=.map q)):w'.var? P n=some cs:=by
 unfold World.var? at h ⊢
 cases hg:P.globalNamed n with
 |none=>rw [hg] at h;cases h
 |some g=>
  rw [hg] at h;simp only [Option.bind_some] at h ⊢
  cases hc:w.heap[g]? with
  |none=>rw [hc] at h;cases h
  |some o=>
   rw [ho.block g (geS.1 hc).1 (fun hf=>by
    rw [hc] at h
    cases o with
    |cells a b c=>
     have e:a=cs:=by simpa using h
     subst e;refine hn ((hk g hf).cell ?_);unfold World.cell?;rw [hc]
     simpa using hv
    |_=>cases h),hc]
   rw [hc] at h;exact h
theorem TabK.only {F:Nat->Prop} {w w':World} (h:TabK w) (ho:Only F w w') (hk:∀k,F k->KindF w k):TabK w':=by
 refine ⟨⟨nLl h.keys.1 ho.size,fun i hi=>?_⟩,var_only h.pow ho hk (v:=.int .u64 1) rfl (by rintro (⟨q,e⟩|⟨q,e⟩)<;>cases e),?_,?_⟩
 ·have hb:w'.heap[(0:Nat)]?=w.heap[(0:Nat)]?:=ho.block _ h.keys.1 fun hf=>by
   rcases (hk _ hf).cell (h.keys.2 0 (by omega)).1 with ⟨q,e⟩|⟨q,e⟩<;>cases e
  exact ⟨(World.cell?_of_block hb).trans (h.keys.2 i hi).1,(World.cell?_of_block hb).trans (h.keys.2 i hi).2⟩
 ·obtain ⟨tp,p,e⟩:=h.syn;exact ⟨tp,p,var_only e ho hk (v:=.iface tp p) rfl (by rintro (⟨q,e⟩|⟨q,e⟩)<;>cases e)⟩
 ·obtain ⟨tp,p,e⟩:=h.ran;exact ⟨tp,p,var_only e ho hk (v:=.iface tp p) rfl (by rintro (⟨q,e⟩|⟨q,e⟩)<;>cases e)⟩
def cellD (d:DV) (j:Nat):Value:=if j=0 then .int .u8 (d.cd:Int) else if j=1 then .string d.tx else if j=2 then .bool d.fr else if j=3 then .int .i64 (d.wv:Int) else .int .i64 (d.tn:Int)
theorem cellD_cells (d:DV) {j:Nat} (h:j<5):d.cells[j]?=some (cellD d j):=by
 match j,h with
 |0,_=>rfl
 |1,_=>rfl
 |2,_=>rfl
 |3,_=>rfl
 |4,_=>rfl
def rowDn (T:Nat->DV) (n:Nat):Array Value:=Array.ofFn (n:=n*5) fun i=>cellD (T (i.val/5)) (i.val%5)
theorem rowDn_size (T:Nat->DV) (n:Nat):(rowDn T n).size=n*5:=by simp [rowDn]
theorem rowDn_get (T:Nat->DV) (n i:Nat):(rowDn T n)[i]?=if i<n*5 then some (cellD (T (i/5)) (i%5)) else none:=by
 unfold rowDn;rw [Array.getElem?_ofFn]
 by_cases h:i<n*5
 ·rw [dif_pos h,if_pos h]
 ·rw [dif_neg h,if_neg h]
theorem rowDn_set (T:Nat->DV) {n q:Nat} (h:q<n) (d:DV):(((((rowDn T n).setIfInBounds (q*5) (.int .u8 (d.cd:Int))).setIfInBounds (q*5+1) (.string d.tx)).setIfInBounds (q*5+2) (.bool d.fr)).setIfInBounds (q*5+3) (.int .i64 (d.wv:Int))).setIfInBounds (q*5+4) (.int .i64 (d.tn:Int))=rowDn (updT T q d) n:=by
 apply Array.ext_getElem?
 intro i;simp only [Array.getElem?_setIfInBounds,Array.size_setIfInBounds,rowDn_get,rowDn_size]
 by_cases hi:i/5=q
 ·have h5:i=q*5\/i=q*5+1\/i=q*5+2\/i=q*5+3\/i=q*5+4:=by omega
  have hm:i%5<5:=Nat.mod_lt _ (by decide)
  rcases h5 with e|e|e|e|e<;>subst e
  ·simp (disch:=omega) [updT,cellD,show (q*5)%5=0 by omega,hi,show q*5<n*5 by omega]
  ·simp (disch:=omega) [updT,cellD,show (q*5+1)%5=1 by omega,hi,show q*5+1<n*5 by omega]
  ·simp (disch:=omega) [updT,cellD,show (q*5+2)%5=2 by omega,hi,show q*5+2<n*5 by omega]
  ·simp (disch:=omega) [updT,cellD,show (q*5+3)%5=3 by omega,hi,show q*5+3<n*5 by omega]
  ·simp (disch:=omega) [updT,cellD,show (q*5+4)%5=4 by omega,hi,show q*5+4<n*5 by omega]
 ·rw [if_neg (by omega),if_neg (by omega),if_neg (by omega),if_neg (by omega),if_neg (by omega)];unfold updT;simp only [if_neg hi]
theorem HasD.row {W:World} {b n:Nat} {T:Nat->DV} {ty:TypeId} {ds:List DV} (h:W.heap[b]?=some (.cells (rowDn T n) ty (0,0))) (hl:ds.length<=n) (hT:∀j (h:j<ds.length),ds[j]=T j):HasD W (some ⟨b,0,none⟩) ds:=fun _=>
 ⟨b,0,rfl,(geS.1 h).1,fun j hj i u hu=>by
  have hi:i<5:=by
   have:=(geS.1 hu).1
   simpa [DV.cells] using this
  rw [cellD_cells _ hi,hT j hj] at hu;rw [blk_cell h,rowDn_get,if_pos (by omega),show (0+j*5+i)/5=j by omega,show (0+j*5+i)%5=i by omega];exact hu⟩
def D0:DV:=⟨0,⟨#[]⟩,false,0,0⟩
theorem made_D (n:Nat):madeCells #[.int .u8 0,.string ⟨#[]⟩,.bool false,.int .i64 0,.int .i64 0] (n*5)=rowDn (fun _=>D0) n:=by
 apply Array.ext_getElem?
 intro i;rw [rowDn_get]
 by_cases h:i<n*5
 ·rw [if_pos h,Array.getElem?_eq_getElem (by rw [size_madeCells];exact h)];have h5:i%5=0\/i%5=1\/i%5=2\/i%5=3\/i%5=4:=by omega
  rcases h5 with hm|hm|hm|hm|hm<;>simp [madeCells,hm,D0,cellD]
 ·rw [if_neg h,Array.getElem?_eq_none (by rw [size_madeCells];omega)]
theorem infoDn:(Tryz.prog.info? 47).map (fun i=>(i.zero,i.size,i.bytes))=some (some (.agg #[.int .u8 0,.string ⟨#[]⟩,.bool false,.int .i64 0,.int .i64 0]),5,48):=by kernel_rfl
theorem mk_D (w:World) (M:Nat) (hM:M<=100000):(Instr.makeSlice 40 (.int .i64 (M:Int)) (.int .i64 (M:Int))).run Tryz.prog w=.ok (.slice (some ⟨w.heap.size,0,none⟩) M M) (w.alloc (.cells (rowDn (fun _=>D0) M) 47)):=by
 have h:=infoDn
 cases hi:Tryz.prog.info? 47 with
 |none=>rw [hi] at h;cases h
 |some i=>
  rw [hi] at h;simp at h;obtain ⟨hz,hs,hb⟩:=h;have:=run_make (P:=Tryz.prog) w 40 47 i _ Tryz.underlying40 hi hz .i64 .i64 (M:Int) (M:Int) (by omega) (by omega) (by rw [hb];omega) (by omega);rw [hs] at this;rw [<-made_D];exact this
def setDn (W:World) (b q:Nat) (d:DV):World:=((((W.setCell ⟨b,q*5,none⟩ (.int .u8 (d.cd:Int))).setCell ⟨b,q*5+1,none⟩ (.string d.tx)).setCell ⟨b,q*5+2,none⟩ (.bool d.fr)).setCell ⟨b,q*5+3,none⟩ (.int .i64 (d.wv:Int))).setCell ⟨b,q*5+4,none⟩ (.int .i64 (d.tn:Int))
theorem setDn_row {W:World} {b q n:Nat} {T:Nat->DV} {ty:TypeId} (d:DV) (h:W.heap[b]?=some (.cells (rowDn T n) ty (0,0))) (hq:q<n):(setDn W b q d).heap[b]?=some (.cells (rowDn (updT T q d) n) ty (0,0)):=by
 have:=blk_set (blk_set (blk_set (blk_set (blk_set h (q*5) (.int .u8 (d.cd:Int))) (q*5+1) (.string d.tx)) (q*5+2) (.bool d.fr)) (q*5+3) (.int .i64 (d.wv:Int))) (q*5+4) (.int .i64 (d.tn:Int));rw [rowDn_set T hq d] at this;exact this
theorem setDn_only {F:Nat->Prop} {a W:World} {b q:Nat} {d:DV} (h:Only F a W) (hb:F b\/a.heap.size<=b):Only F a (setDn W b q d):=
 ((((h.setCell (p:=⟨b,q*5,none⟩) hb _).setCell (p:=⟨b,q*5+1,none⟩) hb _).setCell (p:=⟨b,q*5+2,none⟩) hb _).setCell (p:=⟨b,q*5+3,none⟩) hb _).setCell (p:=⟨b,q*5+4,none⟩) hb _
structure GoQ (F:Nat->Prop) (w:World) (R b n:Nat) (a:AM) (T:Nat->DV) (W:World):Prop where
 ex:∃F',AppQ F' W R a/\(∀k,F' k->F k\/w.heap.size<=k)/\¬F' b
 only:Only F w W
 lo:w.heap.size<=b
 row:W.heap[b]?=some (.cells (rowDn T n) 47 (0,0))
section
variable {F:Nat->Prop} {w W W':World} {R b n:Nat} {a a':AM} {T:Nat->DV}
theorem GoQ.lt (h:GoQ F w R b n a T W):b<W.heap.size:=(geS.1 h.row).1
theorem GoQ.grew (h:GoQ F w R b n a T W) (hb:Below W.heap.size W W'):GoQ F w R b n a T W':=by
 obtain ⟨F',h1,h2,h3⟩:=h.ex;exact ⟨⟨F',h1.keep (Only.of_grew (F:=fun _=>False) hb) (fun _ _=>id),h2,h3⟩,h.only.grew hb,h.lo,(hb.block b h.lt).trans h.row⟩
theorem GoQ.set (h:GoQ F w R b n a T W) {q:Nat} (d:DV) (hq:q<n):GoQ F w R b n a (updT T q d) (setDn W b q d):=by
 obtain ⟨F',h1,h2,h3⟩:=h.ex;exact ⟨⟨F',h1.keep (setDn_only (F:=fun k=>k=b) (Only.refl _ W) (.inl rfl)) (fun k hk e=>h3 (e ▸ hk)),h2,h3⟩,setDn_only h.only (.inr h.lo),h.lo,setDn_row d h.row hq⟩
theorem GoQ.tab (h:GoQ F w R b n a T W) (hT:TabK w) (hA:AppQ F w R a'):TabK W:=hT.only h.only (appQ_kindF hA)
theorem GoQ.at (h:GoQ F w R b n a T W) {q:Nat} (hq:q<n):∃v0 v1 v2 v3 v4,W.cell? ⟨b,q*5,none⟩=some v0/\W.cell? ⟨b,q*5+1,none⟩=some v1/\W.cell? ⟨b,q*5+2,none⟩=some v2/\W.cell? ⟨b,q*5+3,none⟩=some v3/\W.cell? ⟨b,q*5+4,none⟩=some v4:=by
 refine ⟨_,_,_,_,_,(blk_cell h.row _).trans ((rowDn_get _ _ _).trans (if_pos ?_)),(blk_cell h.row _).trans ((rowDn_get _ _ _).trans (if_pos ?_)),(blk_cell h.row _).trans ((rowDn_get _ _ _).trans (if_pos ?_)),(blk_cell h.row _).trans ((rowDn_get _ _ _).trans (if_pos ?_)),(blk_cell h.row _).trans ((rowDn_get _ _ _).trans (if_pos ?_))⟩<;>omega
theorem GoQ.fin {ds:List DV} (h:GoQ F w R b n a T W) (hl:ds.length<=n) (hT:∀j (h:j<ds.length),ds[j]=T j):HasD W (some ⟨b,0,none⟩) ds/\∃F',AppQ F' W R a/\Only F w W/\(∀k,F' k->F k\/w.heap.size<=k)/\NotF w.heap.size F' (some ⟨b,0,none⟩):=by
 obtain ⟨F',h1,h2,h3⟩:=h.ex;exact ⟨HasD.row h.row hl hT,F',h1,h.only,h2,fun b' o m e=>by cases e;exact ⟨h.lo,h3⟩⟩
end
def runnerC (R:Nat) (A:Option Addr) (L c:Nat) (f:Value) (b t:Nat):Array Value:=#[.pointer (some ⟨R,0,none⟩),.slice A L c,f,.slice (some ⟨b,0,none⟩) L L,.int .i64 (t:Int)]
structure RunQ (F:Nat->Prop) (w:World) (R b r:Nat) (A:Option Addr) (L c:Nat) (f:Value) (a:AM) (T:Nat->DV) (t:Nat) (W:World):Prop where
 go:GoQ F w R b L a T W
 cell:W.heap[r]?=some (.cells (runnerC R A L c f b t) 73 (0,0))
 lo:w.heap.size<=r
 ne:r≠b
section
variable {F:Nat->Prop} {w W W':World} {R b r:Nat} {A:Option Addr} {L c:Nat} {f:Value} {a:AM} {T:Nat->DV} {t:Nat}
theorem RunQ.lt (h:RunQ F w R b r A L c f a T t W):r<W.heap.size:=(geS.1 h.cell).1
theorem RunQ.grew (h:RunQ F w R b r A L c f a T t W) (hb:Below W.heap.size W W'):RunQ F w R b r A L c f a T t W':=
 ⟨h.go.grew hb,(hb.block r h.lt).trans h.cell,h.lo,h.ne⟩
theorem RunQ.at (h:RunQ F w R b r A L c f a T t W):W.cell? ⟨r,0,none⟩=some (.pointer (some ⟨R,0,none⟩))/\W.cell? ⟨r,1,none⟩=some (.slice A L c)/\W.cell? ⟨r,2,none⟩=some f/\W.cell? ⟨r,3,none⟩=some (.slice (some ⟨b,0,none⟩) L L)/\W.cell? ⟨r,4,none⟩=some (.int .i64 (t:Int)):=
 ⟨blk_cell h.cell 0,blk_cell h.cell 1,blk_cell h.cell 2,blk_cell h.cell 3,blk_cell h.cell 4⟩
theorem RunQ.apart {F':Nat->Prop} (h:RunQ F w R b r A L c f a T t W) (hA:AppQ F' W R a):¬F' r:=fun hf=>by
 rcases (appQ_kinds hA r hf).cell h.at.2.1 with ⟨q,e⟩|⟨q,e⟩|⟨q,e⟩<;>cases e
end
def FarW (r b:Nat) (W W':World):Prop:=W.heap.size<=W'.heap.size/\∀k,k<W.heap.size->k≠r->k≠b->¬KindT W k->W'.heap[k]?=W.heap[k]?
theorem setDn_heap {W:World} {b q g:Nat} {d:DV} (hg:g≠b):(setDn W b q d).heap[g]?=W.heap[g]?:=((Below.heap_setCell _ _ _ _ hg).trans ((Below.heap_setCell _ _ _ _ hg).trans ((Below.heap_setCell _ _ _ _ hg).trans ((Below.heap_setCell _ _ _ _ hg).trans (Below.heap_setCell _ _ _ _ hg)))))
theorem KindT.same {W W':World} {k:Nat} (h:KindT W' k) (e:W'.heap[k]?=W.heap[k]?):KindT W k:=by
 unfold KindT at h ⊢;rw [e] at h;exact h
theorem FarW.trans {r b:Nat} {W V U:World} (h:FarW r b W V) (k:FarW r b V U):FarW r b W U:=
 ⟨nLt h.1 k.1,fun x e1 e2 e3 e4=>(k.2 x (nLl e1 h.1) e2 e3 (fun hk=>e4 (hk.same (h.2 x e1 e2 e3 e4)))).trans (h.2 x e1 e2 e3 e4)⟩
theorem FarW.below {r b:Nat} {W V:World} (h:Below W.heap.size W V):FarW r b W V:=⟨h.size,fun x e _ _ _=>h.block x e⟩
def OffB (r b:Nat) (A:Option Addr):Prop:=∀x o m,A=some ⟨x,o,m⟩->x≠r/\x≠b
theorem HasI.far {r b:Nat} {W V:World} {A:Option Addr} {l:List Nat} (h:HasI W A l) (hf:FarW r b W V) (ho:OffB r b A):HasI V A l:=fun hl=>by
 obtain ⟨x,o,e,h1,h2⟩:=h hl;have hl0:0<l.length:=List.length_pos_iff.2 hl
 have hb:=hf.2 x h1 (ho x o none e).1 (ho x o none e).2 fun hk=>by
  rcases hk.a.cell (h2 0 hl0) with ⟨q,e⟩|⟨q,e⟩|⟨q,e⟩<;>cases e
 exact ⟨x,o,e,nLl h1 hf.1,fun j hj=>(World.cell?_of_block hb).trans (h2 j hj)⟩
theorem HasS.far {r b:Nat} {W V:World} {A:Option Addr} {l:List ByteArray} (h:HasS W A l) (hf:FarW r b W V) (ho:OffB r b A):HasS V A l:=fun hl=>by
 obtain ⟨x,o,e,h1,h2⟩:=h hl;have hl0:0<l.length:=List.length_pos_iff.2 hl
 have hb:=hf.2 x h1 (ho x o none e).1 (ho x o none e).2 fun hk=>by
  rcases hk.a.cell (h2 0 hl0) with ⟨q,e⟩|⟨q,e⟩|⟨q,e⟩<;>cases e
 exact ⟨x,o,e,nLl h1 hf.1,fun j hj=>(World.cell?_of_block hb).trans (h2 j hj)⟩
structure CmdQ (r b:Nat) (W:World) (A:Option Addr) (l:List CmdV):Prop where
 has:HasC W A l
 offA:OffB r b A
 offK:∀v∈l,OffB r b v.A
theorem CmdQ.far {r b:Nat} {W V:World} {A:Option Addr} {l:List CmdV} (h:CmdQ r b W A l) (hf:FarW r b W V):CmdQ r b V A l:=by
 refine ⟨fun hl=>?_,h.offA,h.offK⟩;obtain ⟨x,o,e,h1,h2⟩:=h.has hl;have hl0:0<l.length:=List.length_pos_iff.2 hl
 have hb:=hf.2 x h1 (h.offA x o none e).1 (h.offA x o none e).2 fun hk=>by
  rcases hk.a.cell ((h2 0 hl0).1 0 _ rfl) with ⟨q,e⟩|⟨q,e⟩|⟨q,e⟩<;>cases e
 refine ⟨x,o,e,nLl h1 hf.1,fun j hj=>⟨fun i u hu=>(World.cell?_of_block hb).trans ((h2 j hj).1 i u hu),?_⟩⟩;have k:=(h2 j hj).2;exact ⟨k.cl,k.sq,k.kd,k.n,k.len,k.max,k.has.far hf (h.offK _ (List.getElem_mem hj)),k.each,k.old,k.new⟩
theorem CmdQ.below {r b:Nat} {W V:World} {A:Option Addr} {l:List CmdV} (h:CmdQ r b W A l) (hb:Below W.heap.size W V):CmdQ r b V A l:=⟨h.has.below hb,h.offA,h.offK⟩
end Go.Proofs.YtfjmdkhemnmkpaaGreatDoor
namespace Go.Proofs.YtfjmdkhemnmkpaaGreatDoor
open Go.RowKit
theorem run_fdW (w:World) (g:Nat):(Instr.fieldAt 73 (.pointer (some ⟨g,0,none⟩)) 0).run Tryz.prog w=.ok (.pointer (some ⟨g,0,none⟩)) w:=by
 first
  |kernel_rfl
  |(simp [go_sem,Instr.fieldAt];done)
theorem run_fdW1 (w:World) (g:Nat):(Instr.fieldAt 73 (.pointer (some ⟨g,0,none⟩)) 1).run Tryz.prog w=.ok (.pointer (some ⟨g,1,none⟩)) w:=by
 first
  |kernel_rfl
  |(simp [go_sem,Instr.fieldAt];done)
theorem run_fdW3 (w:World) (g:Nat):(Instr.fieldAt 73 (.pointer (some ⟨g,0,none⟩)) 3).run Tryz.prog w=.ok (.pointer (some ⟨g,3,none⟩)) w:=by
 first
  |kernel_rfl
  |(simp [go_sem,Instr.fieldAt];done)
theorem run_fdW4 (w:World) (g:Nat):(Instr.fieldAt 73 (.pointer (some ⟨g,0,none⟩)) 4).run Tryz.prog w=.ok (.pointer (some ⟨g,4,none⟩)) w:=by
 first
  |kernel_rfl
  |(simp [go_sem,Instr.fieldAt];done)
theorem run_ldAp (w:World) (p:Addr) (v:Value) (h:w.cell? p=some v):(Instr.loadAt 26 (.pointer (some p))).run Tryz.prog w=.ok v w:=by
 simp [go_sem,h]
theorem run_ldCs (w:World) (p:Addr) (v:Value) (h:w.cell? p=some v):(Instr.loadAt 22 (.pointer (some p))).run Tryz.prog w=.ok v w:=by
 simp [go_sem,h]
theorem run_ldDs (w:World) (p:Addr) (v:Value) (h:w.cell? p=some v):(Instr.loadAt 40 (.pointer (some p))).run Tryz.prog w=.ok v w:=by
 simp [go_sem,h]
theorem run_ldIt (w:World) (p:Addr) (v:Value) (h:w.cell? p=some v):(Instr.loadAt 3 (.pointer (some p))).run Tryz.prog w=.ok v w:=by
 simp [go_sem,h]
theorem run_ixCm (w:World) (b o L c q:Nat) (h:q<L):(Instr.indexAt 22 (.slice (some ⟨b,o,none⟩) L c) (.int .i64 (q:Int))).run Tryz.prog w=.ok (.pointer (some ⟨b,o+q*7,none⟩)) w:=by
 have h1:(q:Int)<L:=by omega
 have h0:(0:Int)<=(q:Int):=by omega
 simp [go_sem,h1,h0]
theorem run_ixDn (w:World) (b L c q:Nat) (h:q<L):(Instr.indexAt 40 (.slice (some ⟨b,0,none⟩) L c) (.int .i64 (q:Int))).run Tryz.prog w=.ok (.pointer (some ⟨b,q*5,none⟩)) w:=by
 have h1:(q:Int)<L:=by omega
 have h0:(0:Int)<=(q:Int):=by omega
 simp [go_sem,h1,h0]
theorem run_ldCmAt (w:World) (b o:Nat) (x:CmdV) (h:∀i u,x.cells[i]?=some u->w.cell? ⟨b,o+i,none⟩=some u):(Instr.loadAt 57 (.pointer (some ⟨b,o,none⟩))).run Tryz.prog w=.ok x.val w:=by
 have h0:=h 0 _ rfl;have h1:=h 1 _ rfl;have h2:=h 2 _ rfl;have h3:=h 3 _ rfl;have h4:=h 4 _ rfl;have h5:=h 5 _ rfl;have h6:=h 6 _ rfl;simp only [Nat.add_zero] at h0;simp [go_sem,h0,h1,h2,h3,h4,h5,h6,CmdV.val,CmdV.cells]
theorem run_stDn (w:World) (b q:Nat) (d:DV) (h0:∃v,w.cell? ⟨b,q*5,none⟩=some v) (h1:∃v,w.cell? ⟨b,q*5+1,none⟩=some v) (h2:∃v,w.cell? ⟨b,q*5+2,none⟩=some v) (h3:∃v,w.cell? ⟨b,q*5+3,none⟩=some v) (h4:∃v,w.cell? ⟨b,q*5+4,none⟩=some v) (hz:∀i,w.frozen? ⟨b,i,none⟩=false):
 (Instr.storeAt 47 (.pointer (some ⟨b,q*5,none⟩)) (.agg d.cells)).run Tryz.prog w=.ok () (setDn w b q d):=by
 obtain ⟨v0,c0⟩:=h0;obtain ⟨v1,c1⟩:=h1;obtain ⟨v2,c2⟩:=h2;obtain ⟨v3,c3⟩:=h3;obtain ⟨v4,c4⟩:=h4;simp [go_sem,c0,c1,c2,c3,c4,hz,DV.cells,setDn]
theorem run_bdDn (w:World) (cd wv tn:Nat) (tx:ByteArray) (fr:Bool):(Instr.build 47 #[(0,.agg #[.int .u8 (cd:Int),.string tx]),(1,.bool fr),(2,.int .i64 (wv:Int)),(3,.int .i64 (tn:Int))]).run Tryz.prog w=.ok (.agg #[.int .u8 (cd:Int),.string tx,.bool fr,.int .i64 (wv:Int),.int .i64 (tn:Int)]) w:=by
 simp [go_sem,Instr.build]
section
variable {n:Nat} {Q:Exit->Act->World->Prop} {ops:Array Oper} {i:Nat} {o:Oper} {a:Act} {w:World} {K:Act->World->Prop}
theorem step_bdDn {x0 x1 x2 x3:Operand} {cd wv tn:Nat} {tx:ByteArray} {fr:Bool} (hi:ops[i]?=some o) (hw:Region.wanted o (yielded ops a.tmps)=true) (ho:o.op=.build 47 #[(0,x0),(1,x1),(2,x2),(3,x3)]) (h0:a.eval x0=.agg #[.int .u8 (cd:Int),.string tx]) (h1:a.eval x1=.bool fr) (h2:a.eval x2=.int .i64 (wv:Int)) (h3:a.eval x3=.int .i64 (tn:Int)) (h:K (a.put o.dst (.agg #[.int .u8 (cd:Int),.string tx,.bool fr,.int .i64 (wv:Int),.int .i64 (tn:Int)])) w):wpOpIn Fence.wide n Tryz.prog ops Q i K a w:=
 step_run hi hw (by rw [ho];intro c h;cases h) (by simp [Oper.about,ho]) (by simp [execOp,ho,h0,h1,h2,h3,run_bdDn]) h
end
noncomputable def opsWvA:List Oper:=opsOf Tryz.f39 0
def wsWvA (J:World->Prop) (_R _r _qi _cb _co _M _c cd:Nat) (tx:ByteArray) (_fr:Bool) (_v:CmdV) (W0:World) (L:Nat->Bool) (u:Value) (w:World):Prop:=(L 11=false->Below W0.heap.size W0 w)/\W0.heap.size<=w.heap.size/\(L 11=true->L 16=false->J w)/\(L 15=true->∃x,u=.pointer (some ⟨x,0,none⟩)/\W0.heap.size<=x/\(L 16=false->RepB w x 0 ⟨#[]⟩))/\(L 16=true->∃x W1,u=.pointer (some ⟨x,0,none⟩)/\W0.heap.size<=x/\J W1/\RepB W1 x 0 ⟨#[]⟩/\w=(W1.setCell ⟨x,0,none⟩ (.int .u8 (cd:Int))).setCell ⟨x,1,none⟩ (.string tx))
theorem wsWvA_same (J:World->Prop) (R r qi cb co M c cd:Nat) (tx:ByteArray) (fr:Bool) (v:CmdV) {W0:World} {L:Nat->Bool} {i:Nat} {u:Value} {w:World} (k11:((11:Nat)==i)=false) (k15:((15:Nat)==i)=false) (k16:((16:Nat)==i)=false) (h:wsWvA J R r qi cb co M c cd tx fr v W0 L u w):wsWvA J R r qi cb co M c cd tx fr v W0 (fun j=>L j||j==i) u w:=by
 unfold wsWvA at h ⊢;simp only [beq_noF k11,beq_noF k15,beq_noF k16];exact h
theorem wvdo_a (J:World->Prop) (R r qi cb co M c cd:Nat) (tx:ByteArray) (fr:Bool) (v:CmdV) (a:Act) (w:World) (Q:Exit->Act->World->Prop) (hN:a.tmps.size=44) (h0:a.tmps.getD 0 undef=.pointer (some ⟨r,0,none⟩)) (h1:a.tmps.getD 1 undef=.int .i64 (qi:Int)) (hrl:r<w.drew.heap.size) (hcb:cb<w.drew.heap.size) (hi:qi<M) (x0:w.drew.cell? ⟨r,0,none⟩=some (.pointer (some ⟨R,0,none⟩))) (x1:w.drew.cell? ⟨r,1,none⟩=some (.slice (some ⟨cb,co,none⟩) M c)) (hv:∀j u,v.cells[j]?=some u->w.drew.cell? ⟨cb,co+qi*7+j,none⟩=some u) (hJ:∀W o,J W->J (W.alloc o)) (hC:∀w',Below w.drew.heap.size w.drew w'->Calls Tryz.prog 22 #[.pointer (some ⟨R,0,none⟩),v.val] w' fun e W'=>e=.returned (.tuple #[.agg #[.int .u8 (cd:Int),.string tx],.bool fr])/\J W'/\w'.heap.size<=W'.heap.size/\∀k,w.drew.heap.size<=k->k<w'.heap.size->W'.heap[k]?=w'.heap[k]?) (hW0:wsWvA J R r qi cb co M c cd tx fr v w.drew (fun _=>false) undef w.drew) (hQ:∀(u:Value) w',wsWvA J R r qi cb co M c cd tx fr v w.drew (fun _=>true) u w'->Q .normal (puts [(9,.pointer (some ⟨r,0,none⟩)),(10,.pointer (some ⟨r,0,none⟩)),(11,.pointer (some ⟨r,0,none⟩)),(12,.pointer (some ⟨R,0,none⟩)),(13,.pointer (some ⟨r,0,none⟩)),(14,.pointer (some ⟨r,0,none⟩)),(15,.pointer (some ⟨r,1,none⟩)),(16,.slice (some ⟨cb,co,none⟩) M c),(17,.int .i64 (qi:Int)),(18,.pointer (some ⟨cb,co+qi*7,none⟩)),(19,v.val),(20,.tuple #[.agg #[.int .u8 (cd:Int),.string tx],.bool fr]),(8,.tuple #[.agg #[.int .u8 (cd:Int),.string tx],.bool fr]),(21,.agg #[.int .u8 (cd:Int),.string tx]),(22,.bool fr),(6,u),(7,.bool fr)] a) w')
 :(Code.region 0 opsWvA.toArray true).wp Tryz.prog Q a w:=by
 refine region_c (U:=Value) 44 opsWvA [(0,.pointer (some ⟨r,0,none⟩)),(1,.int .i64 (qi:Int))] [11,15,16] (fun u=>[.pointer (some ⟨r,0,none⟩),.pointer (some ⟨r,0,none⟩),.pointer (some ⟨r,0,none⟩),.pointer (some ⟨R,0,none⟩),.pointer (some ⟨r,0,none⟩),.pointer (some ⟨r,0,none⟩),.pointer (some ⟨r,1,none⟩),.slice (some ⟨cb,co,none⟩) M c,.int .i64 (qi:Int),.pointer (some ⟨cb,co+qi*7,none⟩),v.val,.tuple #[.agg #[.int .u8 (cd:Int),.string tx],.bool fr],.tuple #[.agg #[.int .u8 (cd:Int),.string tx],.bool fr],.agg #[.int .u8 (cd:Int),.string tx],.bool fr,u,undef,.bool fr]) (wsWvA J R r qi cb co M c cd tx fr v w.drew) undef follows (by kernel_rfl) hN ⟨h0,h1,trivial⟩ (fun _=>nBl rfl) hW0 (fun _ _ _ _ hi h=>wsWvA_same _ _ _ _ _ _ _ _ _ _ _ _ (key_ne hi rfl) (key_ne hi rfl) (key_ne hi rfl) h) ?_ ?_ ?_
 ·intro L u w' hW hcl;have nL:∀i,reachB opsWvA 30 11 i=true->L i=false->L 11=false:=fun i h n=>not_yetF hcl 30 h n
  exact ⟨fun _=>rfl,fun _=>rfl,fun _=>ob_fld (run_fdW _ _),fun n=>ob_load (run_ldAp _ _ _ (((hW.1 (nL 3 (by kernel_rfl) n)).cell (p:=⟨r,0,none⟩) hrl).trans x0)),fun _=>rfl,fun _=>rfl,fun _=>ob_fld (run_fdW1 _ _),fun n=>ob_load (run_ldCs _ _ _ (((hW.1 (nL 7 (by kernel_rfl) n)).cell (p:=⟨r,1,none⟩) hrl).trans x1)),fun _=>rfl,fun _=>ob_idx (run_ixCm _ _ _ _ _ _ hi),fun n=>ob_load (run_ldCmAt _ _ _ _ (fun j u hu=>((hW.1 (nL 10 (by kernel_rfl) n)).cell (p:=⟨cb,co+qi*7+j,none⟩) hcb).trans (hv j u hu))),trivial,fun _=>rfl,fun _=>rfl,fun _=>rfl,trivial,trivial,fun _=>rfl,trivial⟩
 ·refine ⟨?_,?_,?_,trivial⟩
  ·rintro o ho L u a' w' hLi hpre hcl hR hW fin;have hio:=(nthO_eq _ _).symm.trans ho
   cases ho
   have q3:a'.tmps.getD 12 undef=.pointer (some ⟨R,0,none⟩):=hR.val 3 _ 12 rfl rfl (edge_ofF hpre 3 rfl);have q10:a'.tmps.getD 19 undef=v.val:=hR.val 10 _ 19 rfl rfl (edge_ofF hpre 10 rfl);refine step_callD hio rfl rfl (enters_of Tryz.func22 (by kernel_rfl) rfl) (show Array.map a'.eval #[.tmp 12,.tmp 19]=_ from by simp only [List.map_toArray,List.map_cons,List.map_nil,Act.eval,q3,q10]) ((hC w' (hW.1 hLi)).mono ?_);rintro e w'' ⟨rfl,hJ1,hs1,hk1⟩
   have hW2:wsWvA J R r qi cb co M c cd tx fr v w.drew (fun j=>L j||j==11) u w'':=by
    obtain ⟨b1,s1,_,hx,_⟩:=hW;have n16:L 16=false:=not_yetF hcl 30 (show reachB opsWvA 30 16 11=true by kernel_rfl) hLi;refine ⟨fun h=>?_,nLt s1 hs1,fun _ _=>hJ1,fun h=>?_,fun h=>?_⟩
    ·simp at h
    ·obtain ⟨x,e,h1,h2⟩:=hx (by simpa using h);exact ⟨x,e,h1,fun _=>(hk1 x h1 (h2 n16).lt).trans (h2 n16)⟩
    ·simp [n16] at h
   exact ⟨_,rfl,(fin (u) (.tuple #[.agg #[.int .u8 (cd:Int),.string tx],.bool fr]) _ (fun _=>rfl) (fun _ _=>rfl) (hW2))⟩
  ·rintro o ho L u a' w' hLi hpre hcl hR hW fin;have hio:=(nthO_eq _ _).symm.trans ho
   cases ho
   refine step_run hio rfl (by intro c h;cases h) (by simp [Oper.about]) (v:=.pointer (some ⟨w'.heap.size,0,none⟩)) (w':=w'.alloc (.cells #[.int .u8 0,.string ⟨#[]⟩] 45)) (by simp [execOp,run_alRep]) ?_
   have hW2:wsWvA J R r qi cb co M c cd tx fr v w.drew (fun j=>L j||j==15) (.pointer (some ⟨w'.heap.size,0,none⟩)) (w'.alloc (.cells #[.int .u8 0,.string ⟨#[]⟩] 45)):=by
    have n16:L 16=false:=not_yetF hcl 30 (show reachB opsWvA 30 16 15=true by kernel_rfl) hLi;obtain ⟨b1,s1,j1,_,_⟩:=hW;refine ⟨fun h=>(b1 (by simpa using h)).alloc s1 _,nLt s1 (by rw [World.size_alloc];omega),fun h _=>hJ _ _ (j1 (by simpa using h) n16),fun _=>⟨_,rfl,s1,fun _=>wAh w' _⟩,fun h=>?_⟩;simp [n16] at h
   exact (fin (.pointer (some ⟨w'.heap.size,0,none⟩)) _ _ (fun _=>rfl) (fun j hj=>by
    rcases j with _|_|_|_|_|_|_|_|_|_|_|_|_|_|_|_|_|_|j<;>first|rfl|exact Bool.noConfusion (hj.symm.trans hLi)|exact Bool.noConfusion (hj.symm.trans (not_yetF hcl 30 (by kernel_rfl) hLi))) (hW2))
  ·rintro o ho L u a' w' hLi hpre hcl hR hW fin;have hio:=(nthO_eq _ _).symm.trans ho
   cases ho
   have q15:a'.tmps.getD 6 undef=u:=hR.val 15 _ 6 rfl rfl (edge_ofF hpre 15 rfl);have q13:a'.tmps.getD 21 undef=.agg #[.int .u8 (cd:Int),.string tx]:=hR.val 13 _ 21 rfl rfl (edge_ofF hpre 13 rfl);have fu:L 15=true->a'.tmps.getD 6 undef=u:=fun h=>hR.val 15 _ 6 rfl rfl h
   have e15:=edge_ofF hpre 15 rfl;have e11:=edge_ofF hpre 11 rfl;obtain ⟨_,s1,j1,hx,_⟩:=hW;obtain ⟨x,e,h1,h2⟩:=hx e15;have hx1:a'.eval (.tmp 6)=.pointer (some ⟨x,0,none⟩):=(fu e15).trans e;have hx2:a'.eval (.tmp 21)=.agg #[.int .u8 (cd:Int),.string tx]:=q13;have hst:=run_stRep w' x _ _ (h2 hLi) cd tx
   refine step_skip hio rfl (by intro c h;cases h) (by simp [Oper.about]) (w':=(w'.setCell ⟨x,0,none⟩ (.int .u8 (cd:Int))).setCell ⟨x,1,none⟩ (.string tx)) (by
    unfold execOp;simp only [hx1,hx2,Sem.run_bind,hst,Result.andThen_ok]
    rfl) ?_
   have hW2:wsWvA J R r qi cb co M c cd tx fr v w.drew (fun j=>L j||j==16) u ((w'.setCell ⟨x,0,none⟩ (.int .u8 (cd:Int))).setCell ⟨x,1,none⟩ (.string tx)):=by
    refine ⟨fun h=>?_,by simpa using s1,fun _ h=>?_,fun _=>⟨x,e,h1,fun h=>?_⟩,fun _=>⟨x,w',e,h1,j1 e11 hLi,h2 hLi,rfl⟩⟩
    ·simp [e11] at h
    ·simp at h
    ·simp at h
   exact (fin (u) _ _ (fun h=>(by cases h)) (fun _ _=>rfl) (hW2))
 ·intro L u w' hl hW;refine hQ u w' ?_;unfold wsWvA at hW ⊢;simp only [hl 11 (nBl rfl),hl 15 (nBl rfl),hl 16 (nBl rfl)] at hW ⊢;exact hW
noncomputable def opsWvB:List Oper:=opsOf Tryz.f39 1
def wsWvB (_r qi wv b _x _M t cd:Nat) (tx:ByteArray) (fr:Bool) (W0:World) (L:Nat->Bool) (_u:Value) (w:World):Prop:=(L 14=false->w=W0)/\(L 14=true->w=setDn W0 b qi ⟨cd,tx,fr,wv,t⟩)
theorem wsWvB_same (r qi wv b x M t cd:Nat) (tx:ByteArray) (fr:Bool) {W0:World} {L:Nat->Bool} {i:Nat} {u:Value} {w:World} (k14:((14:Nat)==i)=false) (h:wsWvB r qi wv b x M t cd tx fr W0 L u w):wsWvB r qi wv b x M t cd tx fr W0 (fun j=>L j||j==i) u w:=by
 unfold wsWvB at h ⊢;simp only [beq_noF k14];exact h
theorem wvdo_b (r qi wv b x M t cd:Nat) (tx:ByteArray) (fr:Bool) (a:Act) (w:World) (Q:Exit->Act->World->Prop) (hN:a.tmps.size=44) (h0:a.tmps.getD 0 undef=.pointer (some ⟨r,0,none⟩)) (h1:a.tmps.getD 1 undef=.int .i64 (qi:Int)) (h2:a.tmps.getD 2 undef=.int .i64 (wv:Int)) (h6:a.tmps.getD 6 undef=.pointer (some ⟨x,0,none⟩)) (h7:a.tmps.getD 7 undef=.bool fr) (hi:qi<M) (x3:w.drew.cell? ⟨r,3,none⟩=some (.slice (some ⟨b,0,none⟩) M M)) (x4:w.drew.cell? ⟨r,4,none⟩=some (.int .i64 (t:Int))) (hr:RepB w.drew x cd tx) (hst:(Instr.storeAt 47 (.pointer (some ⟨b,qi*5,none⟩)) (.agg (DV.cells ⟨cd,tx,fr,wv,t⟩))).run Tryz.prog w.drew=.ok () (setDn w.drew b qi ⟨cd,tx,fr,wv,t⟩)) (hW0:wsWvB r qi wv b x M t cd tx fr w.drew (fun _=>false) undef w.drew) (hQ:∀(u:Value) w',wsWvB r qi wv b x M t cd tx fr w.drew (fun _=>true) u w'->Q .normal (puts [(23,.pointer (some ⟨r,0,none⟩)),(24,.pointer (some ⟨r,0,none⟩)),(25,.pointer (some ⟨r,3,none⟩)),(26,.slice (some ⟨b,0,none⟩) M M),(27,.int .i64 (qi:Int)),(28,.agg #[.int .u8 (cd:Int),.string tx]),(29,.bool fr),(30,.int .i64 (wv:Int)),(31,.pointer (some ⟨r,0,none⟩)),(32,.pointer (some ⟨r,0,none⟩)),(33,.pointer (some ⟨r,4,none⟩)),(34,.int .i64 (t:Int)),(35,.agg #[.int .u8 (cd:Int),.string tx,.bool fr,.int .i64 (wv:Int),.int .i64 (t:Int)]),(36,.pointer (some ⟨b,qi*5,none⟩))] a) w')
 :(Code.region 1 opsWvB.toArray true).wp Tryz.prog Q a w:=by
 refine region_c (U:=Value) 44 opsWvB [(0,.pointer (some ⟨r,0,none⟩)),(1,.int .i64 (qi:Int)),(2,.int .i64 (wv:Int)),(6,.pointer (some ⟨x,0,none⟩)),(7,.bool fr)] [12,14] (fun _=>[.pointer (some ⟨r,0,none⟩),.pointer (some ⟨r,0,none⟩),.pointer (some ⟨r,3,none⟩),.slice (some ⟨b,0,none⟩) M M,.int .i64 (qi:Int),.agg #[.int .u8 (cd:Int),.string tx],.bool fr,.int .i64 (wv:Int),.pointer (some ⟨r,0,none⟩),.pointer (some ⟨r,0,none⟩),.pointer (some ⟨r,4,none⟩),.int .i64 (t:Int),.agg #[.int .u8 (cd:Int),.string tx,.bool fr,.int .i64 (wv:Int),.int .i64 (t:Int)],.pointer (some ⟨b,qi*5,none⟩),undef]) (wsWvB r qi wv b x M t cd tx fr w.drew) undef follows (by kernel_rfl) hN ⟨h0,h1,h2,h6,h7,trivial⟩ (fun _=>nBl rfl) hW0 (fun _ _ _ _ hi h=>wsWvB_same _ _ _ _ _ _ _ _ _ _ (key_ne hi rfl) h) ?_ ?_ ?_
 ·intro L u w' hW hcl;have nL:∀i,reachB opsWvB 30 14 i=true->L i=false->L 14=false:=fun i h n=>not_yetF hcl 30 h n
  exact ⟨fun _=>rfl,fun _=>rfl,fun _=>ob_fld (run_fdW3 _ _),fun n=>ob_load (by rw [hW.1 (nL 3 (by kernel_rfl) n)];exact run_ldDs _ _ _ x3),fun _=>rfl,fun n=>ob_load (by rw [hW.1 (nL 5 (by kernel_rfl) n)];exact run_ldRep _ _ _ _ hr),fun _=>rfl,fun _=>rfl,fun _=>rfl,fun _=>rfl,fun _=>ob_fld (run_fdW4 _ _),fun n=>ob_load (by rw [hW.1 (nL 11 (by kernel_rfl) n)];exact run_ldIt _ _ _ x4),trivial,fun _=>ob_idx (run_ixDn _ _ _ _ _ hi),trivial,trivial⟩
 ·refine ⟨?_,?_,trivial⟩
  ·rintro o ho L u a' w' hLi hpre hcl hR hW fin;have hio:=(nthO_eq _ _).symm.trans ho
   cases ho
   have q5:a'.tmps.getD 28 undef=.agg #[.int .u8 (cd:Int),.string tx]:=hR.val 5 _ 28 rfl rfl (edge_ofF hpre 5 rfl);have q6:a'.tmps.getD 29 undef=.bool fr:=hR.val 6 _ 29 rfl rfl (edge_ofF hpre 6 rfl);have q7:a'.tmps.getD 30 undef=.int .i64 (wv:Int):=hR.val 7 _ 30 rfl rfl (edge_ofF hpre 7 rfl);have q11:a'.tmps.getD 34 undef=.int .i64 (t:Int):=hR.val 11 _ 34 rfl rfl (edge_ofF hpre 11 rfl);exact step_bdDn hio rfl rfl q5 q6 q7 q11 (fin (u) (.agg #[.int .u8 (cd:Int),.string tx,.bool fr,.int .i64 (wv:Int),.int .i64 (t:Int)]) _ (fun _=>rfl) (fun _ _=>rfl) (wsWvB_same _ _ _ _ _ _ _ _ _ _ rfl hW))
  ·rintro o ho L u a' w' hLi hpre hcl hR hW fin;have hio:=(nthO_eq _ _).symm.trans ho
   cases ho
   have q13:a'.tmps.getD 36 undef=.pointer (some ⟨b,qi*5,none⟩):=hR.val 13 _ 36 rfl rfl (edge_ofF hpre 13 rfl);have q12:a'.tmps.getD 35 undef=.agg #[.int .u8 (cd:Int),.string tx,.bool fr,.int .i64 (wv:Int),.int .i64 (t:Int)]:=hR.val 12 _ 35 rfl rfl (edge_ofF hpre 12 rfl);have hw:=hW.1 hLi;have hx1:a'.eval (.tmp 36)=.pointer (some ⟨b,qi*5,none⟩):=q13;have hx2:a'.eval (.tmp 35)=.agg (DV.cells ⟨cd,tx,fr,wv,t⟩):=q12;rw [<-hw] at hst
   refine step_skip hio rfl (by intro c h;cases h) (by simp [Oper.about]) (w':=setDn w' b qi ⟨cd,tx,fr,wv,t⟩) (by
    unfold execOp;simp only [hx1,hx2,Sem.run_bind,hst,Result.andThen_ok]
    rfl) ?_
   have hW2:wsWvB r qi wv b x M t cd tx fr w.drew (fun j=>L j||j==14) u (setDn w' b qi ⟨cd,tx,fr,wv,t⟩):=by
    refine ⟨fun h=>?_,fun _=>by rw [hw]⟩;simp at h
   exact (fin (u) _ _ (fun h=>(by cases h)) (fun _ _=>rfl) (hW2))
 ·intro L u w' hl hW;refine hQ u w' ?_;unfold wsWvB at hW ⊢;simp only [hl 14 (nBl rfl)] at hW ⊢;exact hW
end Go.Proofs.YtfjmdkhemnmkpaaGreatDoor
namespace Go.Proofs.YtfjmdkhemnmkpaaGreatDoor
open Go.Maps Go.RowKit
section
variable {F:Nat->Prop} {w W W':World} {R b r:Nat} {A:Option Addr} {L c:Nat} {f:Value} {a:AM} {T:Nat->DV} {t:Nat}
theorem RunQ.reply {x cd:Nat} {tx:ByteArray} (h:RunQ F w R b r A L c f a T t W) (k:RepB W x cd tx):x≠r/\x≠b/\∀F',AppQ F' W R a->¬F' x:=by
 refine ⟨?_,?_,fun F' hA hf=>?_⟩
 ·rintro rfl;have:=h.at.1;rw [blk_cell k 0] at this;simp at this
 ·rintro rfl;have h1:=h.go.row;rw [show W.heap[x]?=_ from k] at h1;simp at h1
 ·have h0:W.cell? ⟨x,0,none⟩=some (.int .u8 (cd:Int)):=by rw [blk_cell k 0];rfl
  rcases (appQ_kindF hA x hf).cell h0 with ⟨q,e⟩|⟨q,e⟩<;>cases e
theorem RunQ.drew (h:RunQ F w R b r A L c f a T t W):RunQ F w R b r A L c f a T t W.drew:=h.grew (Below.refl _ W).drew
theorem RunQ.cellSet {x i:Nat} {u:Value} (h:RunQ F w R b r A L c f a T t W) (hx:w.heap.size<=x) (h1:x≠r) (h2:x≠b) (h3:∀F',AppQ F' W R a->¬F' x):RunQ F w R b r A L c f a T t (W.setCell ⟨x,i,none⟩ u):=by
 obtain ⟨F',k1,k2,k3⟩:=h.go.ex;have hs:∀{g:Nat},g≠x->(W.setCell ⟨x,i,none⟩ u).heap[g]?=W.heap[g]?:=fun hg=>Below.heap_setCell _ _ _ _ hg
 exact ⟨⟨⟨F',k1.keep ((Only.refl (fun k=>k=x) W).setCell (p:=⟨x,i,none⟩) (.inl rfl) _) (fun k hk e=>h3 F' k1 (e ▸ hk)),k2,k3⟩,h.go.only.setCell (p:=⟨x,i,none⟩) (.inr hx) _,h.go.lo,(hs (Ne.symm h2)).trans h.go.row⟩,(hs (Ne.symm h1)).trans h.cell,h.lo,h.ne⟩
theorem RunQ.row {q:Nat} (h:RunQ F w R b r A L c f a T t W) (d:DV) (hq:q<L):RunQ F w R b r A L c f a (updT T q d) t (setDn W b q d):=by
 have hs:∀{g:Nat},g≠b->(setDn W b q d).heap[g]?=W.heap[g]?:=fun hg=>((Below.heap_setCell _ _ _ _ hg).trans ((Below.heap_setCell _ _ _ _ hg).trans ((Below.heap_setCell _ _ _ _ hg).trans ((Below.heap_setCell _ _ _ _ hg).trans (Below.heap_setCell _ _ _ _ hg)))))
 exact ⟨h.go.set d hq,(hs h.ne).trans h.cell,h.lo,h.ne⟩
theorem RunQ.turn (h:RunQ F w R b r A L c f a T t W):RunQ F w R b r A L c f a T (t+1) (W.setCell ⟨r,4,none⟩ (.int .i64 ((t:Int)+1))):=by
 obtain ⟨F',k1,k2,k3⟩:=h.go.ex;have h3:=h.apart k1;have hs:∀{g:Nat},g≠r->(W.setCell ⟨r,4,none⟩ (.int .i64 ((t:Int)+1))).heap[g]?=W.heap[g]?:=fun hg=>Below.heap_setCell _ _ _ _ hg
 exact ⟨⟨⟨F',k1.keep ((Only.refl (fun k=>k=r) W).setCell (p:=⟨r,4,none⟩) (.inl rfl) _) (fun k hk e=>h3 (e ▸ hk)),k2,k3⟩,h.go.only.setCell (p:=⟨r,4,none⟩) (.inr h.lo) _,h.go.lo,(hs (Ne.symm h.ne)).trans h.go.row⟩,blk_set h.cell 4 _,h.lo,h.ne⟩
end
theorem wdo_any {F:Nat->Prop} {w W:World} {R b r cb co L c:Nat} {f:Value} {a a0:AM} {T:Nat->DV} {t:Nat} (H:RunQ F w R b r (some ⟨cb,co,none⟩) L c f a T t W) (hT:TabK w) (h0:AppQ F w R a0) (hl:LimA a) (q wv:Nat) (v:CmdV) (hq:q<L) (hcb:cb<W.heap.size)
 (hv:∀j u,v.cells[j]?=some u->W.cell? ⟨cb,co+q*7+j,none⟩=some u) (hok:v.ok W) (hk:v.ks.length<=100) (ht:t<=1000):
 Calls Tryz.prog 39 #[.pointer (some ⟨r,0,none⟩),.int .i64 (q:Int),.int .i64 (wv:Int)] W fun e W'=>e=.returned (.tuple #[])/\RunQ F w R b r (some ⟨cb,co,none⟩) L c f (doA a v.m).1 (updT T q ⟨(doA a v.m).2.1.1,(doA a v.m).2.1.2,(doA a v.m).2.2,wv,t⟩) (t+1) W'/\FarW r b W W':=by
 obtain ⟨V,hV⟩:∃V,V=W.drew:=⟨_,rfl⟩;have HV:RunQ F w R b r (some ⟨cb,co,none⟩) L c f a T t V:=by rw [hV];exact H.drew
 obtain ⟨F',q1,q2,q3⟩:=HV.go.ex;have hokV:v.ok V:=by rw [hV];exact hok.below (Below.refl _ W).drew
 obtain ⟨d,hd⟩:∃x,x=doA a v.m:=⟨_,rfl⟩
 have hC:∀w',Below V.heap.size V w'->Calls Tryz.prog 22 #[.pointer (some ⟨R,0,none⟩),v.val] w' fun e W'=>e=.returned (.tuple #[ReplyV d.2.1,.bool d.2.2])/\(RunQ F w R b r (some ⟨cb,co,none⟩) L c f d.1 T t W'/\V.heap.size<=W'.heap.size/\∀k,k<V.heap.size->¬F' k->W'.heap[k]?=V.heap[k]?)/\w'.heap.size<=W'.heap.size/\∀k,V.heap.size<=k->k<w'.heap.size->W'.heap[k]?=w'.heap[k]?:=fun w' hb=>by
  have Hw:=HV.grew hb;have qw:AppQ F' w' R a:=q1.keep (Only.of_grew (F:=fun _=>False) hb) (fun _ _=>id);refine (ado_any v qw (Hw.go.tab hT h0) hl (hokV.below hb) hk).mono ?_;rintro e W' ⟨rfl,F2,k1,k2,k3⟩;rw [<-hd] at k1 ⊢;refine ⟨rfl,⟨⟨⟨⟨F2,k1,fun k hk=>?_,fun hk=>?_⟩,Hw.go.only.trans k2 q2,Hw.go.lo,(k2.block b Hw.go.lt q3).trans Hw.go.row⟩,(k2.block r Hw.lt (Hw.apart qw)).trans Hw.cell,Hw.lo,Hw.ne⟩,nLt hb.size k2.size,fun k hk1 hk2=>(k2.block k (nLl hk1 hb.size) hk2).trans (hb.block k hk1)⟩,k2.size,fun k hk1 hk2=>k2.block k hk2 fun hf=>by have:=q1.lt k hf;omega⟩
  ·rcases k3 k hk with e|e
   ·exact q2 k e
   ·exact .inr (nLt Hw.go.only.size e)
  ·rcases k3 b hk with e|e
   ·exact q3 e
   ·have:=Hw.go.lt;omega
 obtain ⟨x0,x1,_,_,_⟩:=HV.at;have hvV:∀j u,v.cells[j]?=some u->V.cell? ⟨cb,co+q*7+j,none⟩=some u:=fun j u hu=>by rw [hV];exact hv j u hu
 have hrl:=HV.lt;have hcl:cb<V.heap.size:=by rw [hV];exact hcb
 rw [<-hd];obtain ⟨a2,⟨cd,tx⟩,fr⟩:=d;simp only [ReplyV] at hC ⊢;have HC:=hiD hC;have HVV:=hiD (aI hvV HV);have hti:(t:Int)<=1000:=by omega
 have HF:=hiD (show ∀k,F' k->KindT W k from fun k hk=>by
  have:=appQ_kindT q1 k hk;rw [hV] at this;exact this)
 clear hC hvV HV q1 q2 q3 hokV hd H hT h0 hl hcb hv hok hk;go_enter Tryz.func39,Tryz.ntmps39;go_upto_region 0 with (fail)
 refine wvdo_a (fun W1=>RunQ F w R b r (some ⟨cb,co,none⟩) L c f a2 T t W1/\V.heap.size<=W1.heap.size/\∀k,k<V.heap.size->¬F' k->W1.heap[k]?=V.heap[k]?) R r q cb co L c cd tx fr v _ W _ rfl rfl rfl (by rw [<-hV];exact hrl) (by rw [<-hV];exact hcl) hq (by rw [<-hV];exact x0) (by rw [<-hV];exact x1) (by rw [<-hV];exact HVV.out.1) (fun W1 o h=>⟨h.1.grew ((Below.refl _ W1).alloc (nLr _) o),nLt h.2.1 (by rw [World.size_alloc];omega),fun k h1 h2=>(((Below.refl _ W1).alloc (nLr _) o).block k (nLl h1 h.2.1)).trans (h.2.2 k h1 h2)⟩) (by rw [<-hV];exact HC.out) ⟨fun _=>Below.refl _ _,nLr _,fun h=>(by cases h),fun h=>(by cases h),fun h=>(by cases h)⟩ ?_;intro u V2 hws;obtain ⟨_,_,_,_,h5⟩:=hws;obtain ⟨x,W1,rfl,hx1,⟨hJ,hJs,hJk⟩,hR,hV2⟩:=h5 rfl;obtain ⟨n1,n2,n3⟩:=hJ.reply hR;have hR2:RepB V2 x cd tx:=by rw [hV2];exact hR.set cd tx
 have hxw:w.heap.size<=x:=nLt HVV.out.2.go.only.size (by rw [hV];exact hx1)
 have H2:RunQ F w R b r (some ⟨cb,co,none⟩) L c f a2 T t V2.drew:=by
  rw [hV2];have s1:=hJ.cellSet (i:=0) (u:=.int .u8 (cd:Int)) hxw n1 n2 n3;have r1:RepB (W1.setCell ⟨x,0,none⟩ (.int .u8 (cd:Int))) x cd ⟨#[]⟩:=blk_set hR 0 _;obtain ⟨m1,m2,m3⟩:=s1.reply r1;exact (s1.cellSet (i:=1) (u:=.string tx) hxw m1 m2 m3).drew
 obtain ⟨_,_,_,y3,y4⟩:=H2.at;obtain ⟨_,_,_,_,_,c0,c1,c2,c3,c4⟩:=H2.go.at hq;have hst:=run_stDn V2.drew b q ⟨cd,tx,fr,wv,t⟩ ⟨_,c0⟩ ⟨_,c1⟩ ⟨_,c2⟩ ⟨_,c3⟩ ⟨_,c4⟩ (blk_frozen H2.go.row)
 have hfar:FarW r b W V2.drew:=by
  have hsz:V.heap.size=W.heap.size:=by rw [hV];rfl
  refine ⟨by rw [hV2];show W.heap.size<=((W1.setCell ⟨x,0,none⟩ (.int .u8 (cd:Int))).setCell ⟨x,1,none⟩ (.string tx)).heap.size;simp;omega,fun k e1 e2 e3 e4=>?_⟩
  have hkx:k≠x:=by
   have:V.heap.size<=x:=by rw [hV];exact hx1
   omega
  have e5:=hJk k (by omega) (fun hf=>e4 (HF.out k hf))
  have e6:V2.heap[k]?=W1.heap[k]?:=by
   rw [hV2];exact (Below.heap_setCell _ _ _ _ hkx).trans (Below.heap_setCell _ _ _ _ hkx)
  have e7:V.heap[k]?=W.heap[k]?:=by rw [hV];rfl
  exact (e6.trans e5).trans e7
 have HFR:=hiD hfar;have H3:=hiD (H2.row ⟨cd,tx,fr,wv,t⟩ hq);have HR2:=hiD (show RepB V2.drew x cd tx from hR2);simp only [puts,List.foldl_cons,List.foldl_nil,Act.put,List.setIfInBounds_toArray,List.set_cons_succ,List.set_cons_zero];clear hfar hJs hJk hJ hR hV2 n1 n2 n3 hR2 H2 c0 c1 c2 c3 c4 h5 x0 x1 hrl hcl HC;go_upto_region 1 with (fail)
 refine wvdo_b r q wv b x L t cd tx fr _ V2 _ rfl rfl rfl rfl rfl rfl hq y3 y4 HR2.out hst ⟨fun _=>rfl,fun h=>(by cases h)⟩ ?_;intro u V3 hws;have hV3:=hws.2 rfl
 have hfar:FarW r b W V3:=by
  rw [hV3];exact ⟨nLt HFR.out.1 (setDn_only (F:=fun k=>k=b) (Only.refl _ V2.drew) (.inl rfl)).size,fun k e1 e2 e3 e4=>(setDn_heap e3).trans (HFR.out.2 k e1 e2 e3 e4)⟩
 have HFR2:=hiD hfar;rw [<-hV3] at H3;clear hfar;obtain ⟨_,_,_,_,z4⟩:=H3.out.at;have f4:=blk_frozen H3.out.cell 4;have H4:=hiD H3.out.turn;simp only [puts,List.foldl_cons,List.foldl_nil,Act.put,List.setIfInBounds_toArray,List.set_cons_succ,List.set_cons_zero];clear hV3 hws hst y3 y4 HR2 H3;go_wp2;go_end0;exact ⟨rfl,H4.out,by simpa using HFR2.out.1,fun k e1 e2 e3 e4=>(Below.heap_setCell _ _ _ _ e2).trans (HFR2.out.2 k e1 e2 e3 e4)⟩
end Go.Proofs.YtfjmdkhemnmkpaaGreatDoor
