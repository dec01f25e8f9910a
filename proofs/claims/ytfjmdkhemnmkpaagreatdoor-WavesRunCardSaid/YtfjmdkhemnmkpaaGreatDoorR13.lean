/- Parts of the proof: AqA, AqCr, AqDr, AqD, AqE. -/
import Derived.Test.YtfjmdkhemnmkpaaGreatDoorR12
import Derived.Deep.QuietTactic
import Derived.Handy
import Derived.Test.YtfjmdkhemnmkpaaGreatDoorR02
set_option maxRecDepth 100000
set_option maxHeartbeats 8000000
namespace Go.Proofs.YtfjmdkhemnmkpaaGreatDoor
open Go.Maps Go.RowKit
structure AppQ (F:Nat->Prop) (w:World) (R:Nat) (a:AM):Prop where
 ex:∃Rk Rs Fb,w.heap[R]?=some (.cells #[.pointer (some ⟨Rk,0,none⟩),.pointer (some ⟨Rs,0,none⟩),.int .u64 (a.n:Int)] 92 (0,0))/\BothA Fb w Rk a.ps Rs a.ss/\¬Fb R/\∀k,F k<->(Fb k\/k=R)
 n:a.n<18446744073709551616
section
variable {F G:Nat->Prop} {w w':World} {R:Nat} {a:AM}
theorem AppQ.keep (h:AppQ F w R a) (ho:Only G w w') (hd:∀k,F k->¬G k):AppQ F w' R a:=by
 obtain ⟨Rk,Rs,Fb,h1,h2,h3,h4⟩:=h.ex;exact ⟨⟨Rk,Rs,Fb,(ho.block R (geS.1 h1).1 (hd R ((h4 R).2 (.inr rfl)))).trans h1,h2.keep ho (fun k hk=>hd k ((h4 k).2 (.inl hk))),h3,h4⟩,h.n⟩
theorem AppQ.lt (h:AppQ F w R a):∀k,F k->k<w.heap.size:=by
 obtain ⟨Rk,Rs,Fb,h1,h2,h3,h4⟩:=h.ex;intro k hk
 rcases (h4 k).1 hk with e|rfl
 ·exact h2.lt k e
 ·exact (geS.1 h1).1
theorem AppQ.made {W:World} {Fb:Nat->Prop} {Rk Rs n:Nat} {ps:List PV} {ss:List SE} (h:BothA Fb W Rk ps Rs ss) (hn:n<18446744073709551616):AppQ (fun k=>Fb k\/k=W.heap.size) (W.alloc (.cells #[.pointer (some ⟨Rk,0,none⟩),.pointer (some ⟨Rs,0,none⟩),.int .u64 (n:Int)] 92)) W.heap.size ⟨ps,ss,n⟩:=
 ⟨⟨Rk,Rs,Fb,wAh W _,h.below ((Below.refl _ W).alloc (nLr _) _),fun hf=>Nat.lt_irrefl _ (h.lt _ hf),fun _=>Iff.rfl⟩,hn⟩
end
theorem anew_any (w:World):Calls Tryz.prog 18 #[] w fun e W'=>∃F R,e=.returned (.pointer (some ⟨R,0,none⟩))/\AppQ F W' R ⟨[],[],0⟩/\(∀k,F k->w.heap.size<=k)/\Below w.heap.size w W':=by
 have HK:=hiD (plK_new w);go_enter Tryz.func18,Tryz.ntmps18
 go_wp2_with fail
 refine HK.out.mono ?_;rintro e W1 ⟨Fk,Rk,rfl,hk,hkn,hb1⟩;have HS:=hiD (plS_new W1);have H1:=hiD (aI hk (aI hkn hb1));clear hk hkn hb1 HK
 go_wp2_with fail
 refine HS.out.mono ?_;rintro e W2 ⟨Fs,Rs,rfl,hs,hsn,hb2⟩;have H2:=hiD (aI hs (aI hsn hb2));clear hs hsn hb2 HS;go_wp2;go_ret;have hBo:=BothA.of H1.out.1 H2.out.2.2 H2.out.1 H2.out.2.1;have hz:=H1.out.2.2.size;have hz2:=H2.out.2.2.size;refine ⟨_,_,rfl,AppQ.made hBo (n:=0) (by decide),fun k hk=>?_,(H1.out.2.2.trans (Below.mono H2.out.2.2 hz)).alloc (by omega) _⟩
 rcases hk with (e|e)|e
 ·exact H1.out.2.1 k e
 ·have:=H2.out.2.1 k e;omega
 ·omega
/-- What all tells of an application. -/
theorem aall_any {w:World} {R Rk Rs n:Nat} (h1:w.heap[R]?=some (.cells #[.pointer (some ⟨Rk,0,none⟩),.pointer (some ⟨Rs,0,none⟩),.int .u64 (n:Int)] 92 (0,0))):Calls Tryz.prog 30 #[.pointer (some ⟨R,0,none⟩)] w fun e W'=>e=.returned (.agg #[.pointer (some ⟨Rk,0,none⟩),.pointer (some ⟨Rs,0,none⟩),.int .u64 (n:Int)])/\Below w.heap.size w W':=by
 obtain ⟨W0,hW0⟩:∃W0,W0=w.alloc (Obj.cells #[.pointer none,.pointer none,.int .u64 0] 77):=⟨_,rfl⟩;obtain ⟨hb0,k0,s0⟩:=box_new hW0;have h2:=(hb0.block R (geS.1 h1).1).trans h1;have c0:W0.cell? ⟨R,0,none⟩=some (.pointer (some ⟨Rk,0,none⟩)):=by simpa using blk_cell h2 0
 have c1:W0.cell? ⟨R,1,none⟩=some (.pointer (some ⟨Rs,0,none⟩)):=by simpa using blk_cell h2 1
 have c2:W0.cell? ⟨R,2,none⟩=some (.int .u64 (n:Int)):=by simpa using blk_cell h2 2
 obtain ⟨g,hg⟩:∃g,g=w.heap.size:=⟨_,rfl⟩;rw [<-hg] at k0;have y0:W0.cell? ⟨g,0,none⟩=some (.pointer none):=by simpa using blk_cell k0 0
 have y1:W0.cell? ⟨g,1,none⟩=some (.pointer none):=by simpa using blk_cell k0 1
 have y2:W0.cell? ⟨g,2,none⟩=some (.int .u64 0):=by simpa using blk_cell k0 2
 have u0:=blk_frozen k0 0;have u1:=blk_frozen k0 1;have u2:=blk_frozen k0 2;have HB:=hiD (aI hb0 (aI k0 hg));clear h1 h2 hb0 k0 s0;go_enter Tryz.func30,Tryz.ntmps30;go_upto_region 1 with (fail)
 rw [<-hW0,<-hg];clear hW0 hg;go_wp2;obtain ⟨W3,hW3⟩:∃W3,W3=((W0.setCell ⟨g,0,none⟩ (.pointer (some ⟨Rk,0,none⟩))).setCell ⟨g,1,none⟩ (.pointer (some ⟨Rs,0,none⟩))).setCell ⟨g,2,none⟩ (.int .u64 (n:Int)):=⟨_,rfl⟩;rw [<-hW3];have k3:W3.heap[g]?=some (.cells #[.pointer (some ⟨Rk,0,none⟩),.pointer (some ⟨Rs,0,none⟩),.int .u64 (n:Int)] 77 (0,0)):=by rw [hW3];exact blk_set (blk_set (blk_set HB.out.2.1 0 _) 1 _) 2 _
 have f0:W3.cell? ⟨g,0,none⟩=some (.pointer (some ⟨Rk,0,none⟩)):=by simpa using blk_cell k3 0
 have f1:W3.cell? ⟨g,1,none⟩=some (.pointer (some ⟨Rs,0,none⟩)):=by simpa using blk_cell k3 1
 have f2:W3.cell? ⟨g,2,none⟩=some (.int .u64 (n:Int)):=by simpa using blk_cell k3 2
 have hgs:w.heap.size<=g:=by rw [HB.out.2.2];exact nLr _
 have fb:Below w.heap.size w W3:=by rw [hW3];exact ((HB.out.1.setCell (p:=⟨g,0,none⟩) hgs _).setCell (p:=⟨g,1,none⟩) hgs _).setCell (p:=⟨g,2,none⟩) hgs _
 exact bodyPost_ret (v:=.agg #[.pointer (some ⟨Rk,0,none⟩),.pointer (some ⟨Rs,0,none⟩),.int .u64 (n:Int)]) (by simp [results,Tryz.results30,go_sem,f0,f1,f2]) rfl ⟨rfl,fb⟩
end Go.Proofs.YtfjmdkhemnmkpaaGreatDoor
namespace Go.Proofs.YtfjmdkhemnmkpaaGreatDoor
open Go.RowKit
theorem run_ldK1 (w:World) (p:Addr) (v:Value) (h:w.cell? p=some v):(Instr.loadAt 74 (.pointer (some p))).run Tryz.prog w=.ok v w:=by
 simp [go_sem,h]
theorem run_ldS1 (w:World) (p:Addr) (v:Value) (h:w.cell? p=some v):(Instr.loadAt 75 (.pointer (some p))).run Tryz.prog w=.ok v w:=by
 simp [go_sem,h]
theorem run_fdC0 (w:World) (g:Nat):(Instr.fieldAt 77 (.pointer (some ⟨g,0,none⟩)) 0).run Tryz.prog w=.ok (.pointer (some ⟨g,0,none⟩)) w:=by
 first
  |kernel_rfl
  |(simp [go_sem,Instr.fieldAt];done)
theorem run_fdC1 (w:World) (g:Nat):(Instr.fieldAt 77 (.pointer (some ⟨g,0,none⟩)) 1).run Tryz.prog w=.ok (.pointer (some ⟨g,1,none⟩)) w:=by
 first
  |kernel_rfl
  |(simp [go_sem,Instr.fieldAt];done)
def OwnB (B:Nat) (w:World) (v:Value) (X:List UInt8):Prop:=∃n,w.ownsRow B 5 1 v n (X.map enc)
theorem OwnB.grew {B:Nat} {w w':World} {v:Value} {X:List UInt8} (h:OwnB B w v X) (hg:Grew w w'):OwnB B w' v X:=by
 obtain ⟨n,h⟩:=h;exact ⟨n,own_below h hg⟩
noncomputable def opsAqY:List Oper:=opsOf Tryz.f14 3
theorem abytes_last (B g Rk Rs:Nat) (A:Option Addr) (L c:Nat) (Y Z:List UInt8) (a:Act) (w:World) (Q:Exit->Act->World->Prop) (hN:a.tmps.size=17) (h3:a.tmps.getD 3 undef=.pointer (some ⟨g,0,none⟩)) (h4:a.tmps.getD 4 undef=.slice A L c) (hB:B<=w.heap.size) (hg:g<w.heap.size) (c0:w.cell? ⟨g,0,none⟩=some (.pointer (some ⟨Rk,0,none⟩))) (c1:w.cell? ⟨g,1,none⟩=some (.pointer (some ⟨Rs,0,none⟩))) (hK:∀w',Grew w w'->Calls Tryz.prog 33 #[.pointer (some ⟨Rk,0,none⟩),.slice A L c] w' fun e W'=>∃v m,e=.returned v/\W'.ownsRow w'.heap.size 5 1 v m (Y.map enc)/\Below w'.heap.size w' W') (hS:∀w',Grew w w'->∀A' L' c',L'=Y.length->HasA w' w'.heap.size A' Y->Calls Tryz.prog 32 #[.pointer (some ⟨Rs,0,none⟩),.slice A' L' c'] w' fun e W'=>∃v m,e=.returned v/\W'.ownsRow w'.heap.size 5 1 v m (Z.map enc)/\Below w'.heap.size w' W') (hQ:∀(v15:Value),∀(v16:Value),∀(v2:Value),∀(w':World),(fun v w=>OwnB B w v Y) v15 w'->(fun v w=>OwnB B w v Z) v16 w'->(fun v w=>OwnB B w v Z) v2 w'->Grew w w'->Q .normal (puts [(10,.pointer (some ⟨g,1,none⟩)),(11,.pointer (some ⟨Rs,0,none⟩)),(12,.pointer (some ⟨g,0,none⟩)),(13,.pointer (some ⟨Rk,0,none⟩)),(14,.slice A L c),(15,v15),(16,v16),(2,v2)] a) w')
 :(Code.region 3 opsAqY.toArray true).wp Tryz.prog Q a w:=by
 refine region_v 17 opsAqY [(3,.pointer (some ⟨g,0,none⟩)),(4,.slice A L c)] [5,6,7] [.eq (.pointer (some ⟨g,1,none⟩)),.eq (.pointer (some ⟨Rs,0,none⟩)),.eq (.pointer (some ⟨g,0,none⟩)),.eq (.pointer (some ⟨Rk,0,none⟩)),.eq (.slice A L c),.pr fun v w=>OwnB B w v Y,.pr fun v w=>OwnB B w v Z,.pr fun v w=>OwnB B w v Z] Grew Grew.refl Grew.trans follows (by kernel_rfl) (by kernel_rfl) hN ⟨h3,h4,trivial⟩ rfl ?_ ?_ ?_ ?_
 ·exact ⟨(fun _ _ _ h hg=>h.grew hg),(fun _ _ _ h hg=>h.grew hg),(fun _ _ _ h hg=>h.grew hg),trivial⟩
 ·intro _ w' hR _;exact ⟨fun _=>ob_fld (run_fdC1 _ _),fun _=>ob_load (run_ldS1 _ _ _ ((Below.cell (p:=⟨g,1,none⟩) hR.undraw hg).trans c1)),fun _=>ob_fld (run_fdC0 _ _),fun _=>ob_load (run_ldK1 _ _ _ ((Below.cell (p:=⟨g,0,none⟩) hR.undraw hg).trans c0)),fun _=>rfl,trivial,trivial,trivial,trivial⟩
 ·refine ⟨?_,?_,?_,trivial⟩
  ·rintro o _ ho hd a' w' hF hR hp;have hio:=(nthO_eq _ _).symm.trans ho
   cases ho
   cases hd
   have q3:a'.tmps.getD 13 undef=.pointer (some ⟨Rk,0,none⟩):=hp 3 _ 13 rfl rfl rfl;have q4:a'.tmps.getD 14 undef=.slice A L c:=hp 4 _ 14 rfl rfl rfl;refine step_callD hio rfl rfl (enters_of Tryz.func33 (by kernel_rfl) rfl) (show Array.map a'.eval #[.tmp 13,.tmp 14]=_ from by simp only [List.map_toArray,List.map_cons,List.map_nil,Act.eval,q3,q4]) ((hK w' hR.undraw).mono ?_);rintro e w'' ⟨x,m,rfl,ho',hb⟩;exact ⟨_,rfl,_,rfl,⟨m,own_base ho' (nLt hB hR.undraw.size)⟩,hb⟩
  ·rintro o _ ho hd a' w' hF hR hp;have hio:=(nthO_eq _ _).symm.trans ho
   cases ho
   cases hd
   have q1:a'.tmps.getD 11 undef=.pointer (some ⟨Rs,0,none⟩):=hp 1 _ 11 rfl rfl rfl;have q5:(fun v w=>OwnB B w v Y) (a'.tmps.getD 15 undef) w':=hp 5 _ 15 rfl rfl rfl;obtain ⟨m,hm⟩:=q5;obtain ⟨A2,x2,e2⟩:=own_form hm;refine step_callD hio rfl rfl (enters_of Tryz.func32 (by kernel_rfl) rfl) (show Array.map a'.eval #[.tmp 11,.tmp 15]=_ from by simp only [List.map_toArray,List.map_cons,List.map_nil,Act.eval,q1,e2]) ((hS w' (hR.undraw) A2 m x2 (own_len hm) (HasA.of_own (e2 ▸ hm))).mono ?_);rintro e w'' ⟨x,k,rfl,ho',hb⟩;exact ⟨_,rfl,_,rfl,⟨k,own_base ho' (nLt hB hR.undraw.size)⟩,hb⟩
  ·rintro o _ ho hd a' w' hF hR hp;have hio:=(nthO_eq _ _).symm.trans ho
   cases ho
   cases hd
   have q6:(fun v w=>OwnB B w v Z) (a'.tmps.getD 16 undef) w':=hp 6 _ 16 rfl rfl rfl;exact step_assign hio rfl rfl rfl ⟨_,rfl,q6,Grew.refl _⟩
 ·intro u w' hR h;exact hQ (u 5) (u 6) (u 7) w' (h 5 (nBl rfl)) (h 6 (nBl rfl)) (h 7 (nBl rfl)) hR.undraw
theorem run_ld32 (w:World) (p:Addr) (v:Value) (h:w.cell? p=some v):(Instr.loadAt 54 (.pointer (some p))).run Tryz.prog w=.ok v w:=by
 simp [go_sem,h]
theorem run_fdA (w:World) (g:Nat):(Instr.fieldAt 92 (.pointer (some ⟨g,0,none⟩)) 0).run Tryz.prog w=.ok (.pointer (some ⟨g,0,none⟩)) w:=by
 first
  |kernel_rfl
  |(simp [go_sem,Instr.fieldAt];done)
theorem run_fdM0 (w:World) (g:Nat):(Instr.fieldAt 57 (.pointer (some ⟨g,0,none⟩)) 0).run Tryz.prog w=.ok (.pointer (some ⟨g,0,none⟩)) w:=by
 first
  |kernel_rfl
  |(simp [go_sem,Instr.fieldAt];done)
theorem run_fdM1 (w:World) (g:Nat):(Instr.fieldAt 57 (.pointer (some ⟨g,0,none⟩)) 1).run Tryz.prog w=.ok (.pointer (some ⟨g,1,none⟩)) w:=by
 first
  |kernel_rfl
  |(simp [go_sem,Instr.fieldAt];done)
theorem run_ldCmd (w:World) (b:Nat) (x:CmdV) (h:∀i u,x.cells[i]?=some u->w.cell? ⟨b,i,none⟩=some u):(Instr.loadAt 57 (.pointer (some ⟨b,0,none⟩))).run Tryz.prog w=.ok x.val w:=by
 have h0:=h 0 _ rfl;have h1:=h 1 _ rfl;have h2:=h 2 _ rfl;have h3:=h 3 _ rfl;have h4:=h 4 _ rfl;have h5:=h 5 _ rfl;have h6:=h 6 _ rfl;simp [go_sem,h0,h1,h2,h3,h4,h5,h6,CmdV.val,CmdV.cells]
def RepB (W:World) (q c:Nat) (t:ByteArray):Prop:=W.heap[q]?=some (.cells #[.int .u8 (c:Int),.string t] 45 (0,0))
theorem RepB.lt {W:World} {q c:Nat} {t:ByteArray} (h:RepB W q c t):q<W.heap.size:=(geS.1 h).1
theorem RepB.set {W:World} {q c:Nat} {t:ByteArray} (h:RepB W q c t) (d:Nat) (u:ByteArray):RepB ((W.setCell ⟨q,0,none⟩ (.int .u8 (d:Int))).setCell ⟨q,1,none⟩ (.string u)) q d u:=blk_set (blk_set h 0 _) 1 _
theorem run_alRep (w:World):(Instr.alloc 45 true (.tuple #[])).run Tryz.prog w=.ok (.pointer (some ⟨w.heap.size,0,none⟩)) (w.alloc (.cells #[.int .u8 0,.string ⟨#[]⟩] 45)):=by
 simp [go_sem]
theorem run_ldRep (w:World) (q c:Nat) (t:ByteArray) (h:RepB w q c t):(Instr.loadAt 45 (.pointer (some ⟨q,0,none⟩))).run Tryz.prog w=.ok (.agg #[.int .u8 (c:Int),.string t]) w:=by
 have c0:w.cell? ⟨q,0,none⟩=some (.int .u8 (c:Int)):=by rw [blk_cell h 0];rfl
 have c1:w.cell? ⟨q,1,none⟩=some (.string t):=by rw [blk_cell h 1];rfl
 simp [go_sem,c0,c1]
theorem run_stRep (w:World) (q c:Nat) (t:ByteArray) (h:RepB w q c t) (d:Nat) (u:ByteArray):
 (Instr.storeAt 45 (.pointer (some ⟨q,0,none⟩)) (.agg #[.int .u8 (d:Int),.string u])).run Tryz.prog w=.ok () ((w.setCell ⟨q,0,none⟩ (.int .u8 (d:Int))).setCell ⟨q,1,none⟩ (.string u)):=by
 have c0:w.cell? ⟨q,0,none⟩=some (.int .u8 (c:Int)):=by rw [blk_cell h 0];rfl
 have c1:w.cell? ⟨q,1,none⟩=some (.string t):=by rw [blk_cell h 1];rfl
 have z0:=blk_frozen h 0;have z1:=blk_frozen h 1;simp [go_sem,c0,c1,z0,z1]
noncomputable def opsAqU:List Oper:=opsOf Tryz.f22 3
def wsAqU (_R _p _Rs _cl _sq cd _k:Nat) (tx:ByteArray) (W0:World) (L:Nat->Bool) (u:Value) (w:World):Prop:=Below W0.heap.size W0 w/\(L 13=true->∃x,u=.pointer (some ⟨x,0,none⟩)/\W0.heap.size<=x/\RepB w x (if L 14=true then cd else 0) (if L 14=true then tx else ⟨#[]⟩))
theorem wsAqU_same (R p Rs cl sq cd k:Nat) (tx:ByteArray) {W0:World} {L:Nat->Bool} {i:Nat} {u:Value} {w:World} (k13:((13:Nat)==i)=false) (k14:((14:Nat)==i)=false) (h:wsAqU R p Rs cl sq cd k tx W0 L u w):wsAqU R p Rs cl sq cd k tx W0 (fun j=>L j||j==i) u w:=by
 unfold wsAqU at h ⊢;simp only [beq_noF k13,beq_noF k14];exact h
theorem ado_look (R p Rs cl sq cd k:Nat) (tx:ByteArray) (a:Act) (w:World) (Q:Exit->Act->World->Prop) (hN:a.tmps.size=60) (h0:a.tmps.getD 0 undef=.pointer (some ⟨R,0,none⟩)) (h3:a.tmps.getD 3 undef=.pointer (some ⟨p,0,none⟩)) (hRl:R<w.heap.size) (hpl:p<w.heap.size) (cR1:w.cell? ⟨R,1,none⟩=some (.pointer (some ⟨Rs,0,none⟩))) (cp0:w.cell? ⟨p,0,none⟩=some (.int .u32 (cl:Int))) (cp1:w.cell? ⟨p,1,none⟩=some (.int .u32 (sq:Int))) (hC:∀w',Grew w w'->Calls Tryz.prog 42 #[.pointer (some ⟨Rs,0,none⟩),.int .u32 (cl:Int),.int .u32 (sq:Int)] w' fun e W'=>e=.returned (.tuple #[.agg #[.int .u8 (cd:Int),.string tx],.int .u8 (k:Int)])/\Below w'.heap.size w' W') (hW0:wsAqU R p Rs cl sq cd k tx w.drew (fun _=>false) undef w.drew) (hQ:∀(u:Value) w',wsAqU R p Rs cl sq cd k tx w.drew (fun _=>true) u w'->Q .normal (puts [(17,.pointer (some ⟨R,0,none⟩)),(18,.pointer (some ⟨R,0,none⟩)),(19,.pointer (some ⟨R,0,none⟩)),(20,.pointer (some ⟨R,1,none⟩)),(21,.pointer (some ⟨Rs,0,none⟩)),(22,.pointer (some ⟨p,0,none⟩)),(23,.int .u32 (cl:Int)),(24,.pointer (some ⟨p,1,none⟩)),(25,.int .u32 (sq:Int)),(26,.tuple #[.agg #[.int .u8 (cd:Int),.string tx],.int .u8 (k:Int)]),(16,.tuple #[.agg #[.int .u8 (cd:Int),.string tx],.int .u8 (k:Int)]),(27,.agg #[.int .u8 (cd:Int),.string tx]),(28,.int .u8 (k:Int)),(6,u),(7,.int .u8 (k:Int))] a) w')
 :(Code.region 3 opsAqU.toArray true).wp Tryz.prog Q a w:=by
 refine region_c (U:=Value) 60 opsAqU [(0,.pointer (some ⟨R,0,none⟩)),(3,.pointer (some ⟨p,0,none⟩))] [9,13,14] (fun u=>[.pointer (some ⟨R,0,none⟩),.pointer (some ⟨R,0,none⟩),.pointer (some ⟨R,0,none⟩),.pointer (some ⟨R,1,none⟩),.pointer (some ⟨Rs,0,none⟩),.pointer (some ⟨p,0,none⟩),.int .u32 (cl:Int),.pointer (some ⟨p,1,none⟩),.int .u32 (sq:Int),.tuple #[.agg #[.int .u8 (cd:Int),.string tx],.int .u8 (k:Int)],.tuple #[.agg #[.int .u8 (cd:Int),.string tx],.int .u8 (k:Int)],.agg #[.int .u8 (cd:Int),.string tx],.int .u8 (k:Int),u,undef,.int .u8 (k:Int)]) (wsAqU R p Rs cl sq cd k tx w.drew) undef follows (by kernel_rfl) hN ⟨h0,h3,trivial⟩ (fun _=>nBl rfl) hW0 (fun _ _ _ _ hi h=>wsAqU_same _ _ _ _ _ _ _ _ (key_ne hi rfl) (key_ne hi rfl) h) ?_ ?_ ?_
 ·intro L u w' hW _;exact ⟨fun _=>rfl,fun _=>rfl,fun _=>ob_fld (run_fdA _ _),fun _=>ob_fld (run_fdC1 _ _),fun _=>ob_load (run_ldS1 _ _ _ ((Below.cell (p:=⟨R,1,none⟩) hW.1 hRl).trans cR1)),fun _=>ob_fld (run_fdM0 _ _),fun _=>ob_load (run_ld32 _ _ _ ((Below.cell (p:=⟨p,0,none⟩) hW.1 hpl).trans cp0)),fun _=>ob_fld (run_fdM1 _ _),fun _=>ob_load (run_ld32 _ _ _ ((Below.cell (p:=⟨p,1,none⟩) hW.1 hpl).trans cp1)),trivial,fun _=>rfl,fun _=>rfl,fun _=>rfl,trivial,trivial,fun _=>rfl,trivial⟩
 ·refine ⟨?_,?_,?_,trivial⟩
  ·rintro o ho L u a' w' hLi hpre hcl hR hW fin;have hio:=(nthO_eq _ _).symm.trans ho
   cases ho
   have q4:a'.tmps.getD 21 undef=.pointer (some ⟨Rs,0,none⟩):=hR.val 4 _ 21 rfl rfl (edge_ofF hpre 4 rfl);have q6:a'.tmps.getD 23 undef=.int .u32 (cl:Int):=hR.val 6 _ 23 rfl rfl (edge_ofF hpre 6 rfl);have q8:a'.tmps.getD 25 undef=.int .u32 (sq:Int):=hR.val 8 _ 25 rfl rfl (edge_ofF hpre 8 rfl);refine step_callD hio rfl rfl (enters_of Tryz.func42 (by kernel_rfl) rfl) (show Array.map a'.eval #[.tmp 21,.tmp 23,.tmp 25]=_ from by simp only [List.map_toArray,List.map_cons,List.map_nil,Act.eval,q4,q6,q8]) ((hC w' (Grew.undraw hW.1)).mono ?_);rintro e w'' ⟨rfl,hb⟩
   have hW2:wsAqU R p Rs cl sq cd k tx w.drew (fun j=>L j||j==9) u w'':=by
    obtain ⟨b1,hx⟩:=hW;refine ⟨b1.trans (Below.mono hb b1.size),fun h=>?_⟩;obtain ⟨x,e,h1,h2⟩:=hx (by simpa using h);have h3:RepB w'' x _ _:=(hb.block x h2.lt).trans h2;exact ⟨x,e,h1,by simpa using h3⟩
   exact ⟨_,rfl,(fin (u) (.tuple #[.agg #[.int .u8 (cd:Int),.string tx],.int .u8 (k:Int)]) _ (fun _=>rfl) (fun _ _=>rfl) (hW2))⟩
  ·rintro o ho L u a' w' hLi hpre hcl hR hW fin;have hio:=(nthO_eq _ _).symm.trans ho
   cases ho
   refine step_run hio rfl (by intro c h;cases h) (by simp [Oper.about]) (v:=.pointer (some ⟨w'.heap.size,0,none⟩)) (w':=w'.alloc (.cells #[.int .u8 0,.string ⟨#[]⟩] 45)) (by simp [execOp,run_alRep]) ?_
   have hW2:wsAqU R p Rs cl sq cd k tx w.drew (fun j=>L j||j==13) (.pointer (some ⟨w'.heap.size,0,none⟩)) (w'.alloc (.cells #[.int .u8 0,.string ⟨#[]⟩] 45)):=by
    have n14:L 14=false:=not_yetF hcl 30 (show reachB opsAqU 30 14 13=true by kernel_rfl) hLi;obtain ⟨b1,_⟩:=hW;refine ⟨b1.alloc b1.size _,fun _=>⟨_,rfl,b1.size,?_⟩⟩;have e:(L 14||(14:Nat)==13)=false:=by simp [n14]
    simp only [e];exact wAh w' _
   exact (fin (.pointer (some ⟨w'.heap.size,0,none⟩)) _ _ (fun _=>rfl) (fun j hj=>by
    rcases j with _|_|_|_|_|_|_|_|_|_|_|_|_|_|_|_|j<;>first|rfl|exact Bool.noConfusion (hj.symm.trans hLi)|exact Bool.noConfusion (hj.symm.trans (not_yetF hcl 30 (by kernel_rfl) hLi))) (hW2))
  ·rintro o ho L u a' w' hLi hpre hcl hR hW fin;have hio:=(nthO_eq _ _).symm.trans ho
   cases ho
   have q13:a'.tmps.getD 6 undef=u:=hR.val 13 _ 6 rfl rfl (edge_ofF hpre 13 rfl);have q11:a'.tmps.getD 27 undef=.agg #[.int .u8 (cd:Int),.string tx]:=hR.val 11 _ 27 rfl rfl (edge_ofF hpre 11 rfl);have fu:L 13=true->a'.tmps.getD 6 undef=u:=fun h=>hR.val 13 _ 6 rfl rfl h
   obtain ⟨b1,hx⟩:=hW;obtain ⟨x,e,h1,h2⟩:=hx (edge_ofF hpre 13 rfl);have hx1:a'.eval (.tmp 6)=.pointer (some ⟨x,0,none⟩):=(fu (edge_ofF hpre 13 rfl)).trans e;have hx2:a'.eval (.tmp 27)=.agg #[.int .u8 (cd:Int),.string tx]:=q11;have hst:=run_stRep w' x _ _ h2 cd tx
   refine step_skip hio rfl (by intro c h;cases h) (by simp [Oper.about]) (w':=(w'.setCell ⟨x,0,none⟩ (.int .u8 (cd:Int))).setCell ⟨x,1,none⟩ (.string tx)) (by
    unfold execOp;simp only [hx1,hx2,Sem.run_bind,hst,Result.andThen_ok]
    rfl) ?_
   have hW2:wsAqU R p Rs cl sq cd k tx w.drew (fun j=>L j||j==14) u ((w'.setCell ⟨x,0,none⟩ (.int .u8 (cd:Int))).setCell ⟨x,1,none⟩ (.string tx)):=by
    refine ⟨(b1.setCell (p:=⟨x,0,none⟩) h1 _).setCell (p:=⟨x,1,none⟩) h1 _,fun _=>⟨x,e,h1,?_⟩⟩;simp only [beq_self_eq_true,Bool.or_true,if_true];exact h2.set cd tx
   exact (fin (u) _ _ (fun h=>(by cases h)) (fun _ _=>rfl) (hW2))
 ·intro L u w' hl hW;refine hQ u w' ?_;unfold wsAqU at hW ⊢;simp only [hl 13 (nBl rfl),hl 14 (nBl rfl)] at hW ⊢;exact hW
noncomputable def opsAqV:List Oper:=opsOf Tryz.f22 6
def wsAqV (I:World->Prop) (_R _p x _Rk cd _c0:Nat) (tx _t0:ByteArray) (_v:CmdV) (W0:World) (L:Nat->Bool) (_u:Value) (w:World):Prop:=(L 6=false->w=W0)/\(L 6=true->∃W1,I W1/\w=if L 7=true then (W1.setCell ⟨x,0,none⟩ (.int .u8 (cd:Int))).setCell ⟨x,1,none⟩ (.string tx) else W1)
theorem wsAqV_same (I:World->Prop) (R p x Rk cd c0:Nat) (tx t0:ByteArray) (v:CmdV) {W0:World} {L:Nat->Bool} {i:Nat} {u:Value} {w:World} (k6:((6:Nat)==i)=false) (k7:((7:Nat)==i)=false) (h:wsAqV I R p x Rk cd c0 tx t0 v W0 L u w):wsAqV I R p x Rk cd c0 tx t0 v W0 (fun j=>L j||j==i) u w:=by
 unfold wsAqV at h ⊢;simp only [beq_noF k6,beq_noF k7];exact h
theorem ado_do (I:World->Prop) (R p x Rk cd c0:Nat) (tx t0:ByteArray) (v:CmdV) (a:Act) (w:World) (Q:Exit->Act->World->Prop) (hN:a.tmps.size=60) (h0:a.tmps.getD 0 undef=.pointer (some ⟨R,0,none⟩)) (h3:a.tmps.getD 3 undef=.pointer (some ⟨p,0,none⟩)) (h6:a.tmps.getD 6 undef=.pointer (some ⟨x,0,none⟩)) (cR0:w.cell? ⟨R,0,none⟩=some (.pointer (some ⟨Rk,0,none⟩))) (hv:∀i u,v.cells[i]?=some u->w.cell? ⟨p,i,none⟩=some u) (hC:Calls Tryz.prog 43 #[.pointer (some ⟨Rk,0,none⟩),v.val] w.drew fun e W'=>e=.returned (.agg #[.int .u8 (cd:Int),.string tx])/\I W') (hI:∀W',I W'->RepB W' x c0 t0) (hW0:wsAqV I R p x Rk cd c0 tx t0 v w.drew (fun _=>false) undef w.drew) (hQ:∀(u:Value) w',wsAqV I R p x Rk cd c0 tx t0 v w.drew (fun _=>true) u w'->Q .normal (puts [(32,.pointer (some ⟨R,0,none⟩)),(33,.pointer (some ⟨R,0,none⟩)),(34,.pointer (some ⟨R,0,none⟩)),(35,.pointer (some ⟨R,0,none⟩)),(36,.pointer (some ⟨Rk,0,none⟩)),(37,v.val),(38,.agg #[.int .u8 (cd:Int),.string tx])] a) w')
 :(Code.region 6 opsAqV.toArray true).wp Tryz.prog Q a w:=by
 refine region_c (U:=Value) 60 opsAqV [(0,.pointer (some ⟨R,0,none⟩)),(3,.pointer (some ⟨p,0,none⟩)),(6,.pointer (some ⟨x,0,none⟩))] [6,7] (fun _=>[.pointer (some ⟨R,0,none⟩),.pointer (some ⟨R,0,none⟩),.pointer (some ⟨R,0,none⟩),.pointer (some ⟨R,0,none⟩),.pointer (some ⟨Rk,0,none⟩),v.val,.agg #[.int .u8 (cd:Int),.string tx],undef]) (wsAqV I R p x Rk cd c0 tx t0 v w.drew) undef follows (by kernel_rfl) hN ⟨h0,h3,h6,trivial⟩ (fun _=>nBl rfl) hW0 (fun _ _ _ _ hi h=>wsAqV_same _ _ _ _ _ _ _ _ _ _ (key_ne hi rfl) (key_ne hi rfl) h) ?_ ?_ ?_
 ·intro L u w' hW hcl;have nL:∀i,reachB opsAqV 30 6 i=true->L i=false->L 6=false:=fun i h n=>not_yetF hcl 30 h n
  exact ⟨fun _=>rfl,fun _=>rfl,fun _=>ob_fld (run_fdA _ _),fun _=>ob_fld (run_fdC0 _ _),fun n=>ob_load (by rw [hW.1 (nL 4 (by kernel_rfl) n)];exact run_ldK1 _ _ _ cR0),fun n=>ob_load (by rw [hW.1 (nL 5 (by kernel_rfl) n)];exact run_ldCmd _ _ _ hv),trivial,trivial,trivial⟩
 ·refine ⟨?_,?_,trivial⟩
  ·rintro o ho L u a' w' hLi hpre hcl hR hW fin;have hio:=(nthO_eq _ _).symm.trans ho
   cases ho
   have q4:a'.tmps.getD 36 undef=.pointer (some ⟨Rk,0,none⟩):=hR.val 4 _ 36 rfl rfl (edge_ofF hpre 4 rfl);have q5:a'.tmps.getD 37 undef=v.val:=hR.val 5 _ 37 rfl rfl (edge_ofF hpre 5 rfl);refine step_callD hio rfl rfl (enters_of Tryz.func43 (by kernel_rfl) rfl) (show Array.map a'.eval #[.tmp 36,.tmp 37]=_ from by simp only [List.map_toArray,List.map_cons,List.map_nil,Act.eval,q4,q5]) ((hW.1 hLi ▸ hC).mono ?_);rintro e w'' ⟨rfl,hI1⟩
   have hW2:wsAqV I R p x Rk cd c0 tx t0 v w.drew (fun j=>L j||j==6) u w'':=by
    have n7:L 7=false:=not_yetF hcl 30 (show reachB opsAqV 30 7 6=true by kernel_rfl) hLi;refine ⟨fun h=>?_,fun _=>⟨_,hI1,?_⟩⟩
    ·simp at h
    ·have e:(L 7||(7:Nat)==6)=false:=by simp [n7]
     simp only [e]
     rfl
   exact ⟨_,rfl,(fin (u) (.agg #[.int .u8 (cd:Int),.string tx]) _ (fun _=>rfl) (fun _ _=>rfl) (hW2))⟩
  ·rintro o ho L u a' w' hLi hpre hcl hR hW fin;have hio:=(nthO_eq _ _).symm.trans ho
   cases ho
   have hF:=hR.frm;have q6:a'.tmps.getD 38 undef=.agg #[.int .u8 (cd:Int),.string tx]:=hR.val 6 _ 38 rfl rfl (edge_ofF hpre 6 rfl);have e6:=edge_ofF hpre 6 rfl;obtain ⟨_,hx⟩:=hW;obtain ⟨W1,h1,h2⟩:=hx e6;rw [if_neg (by rw [hLi];exact Bool.false_ne_true)] at h2;have hx1:a'.eval (.tmp 6)=.pointer (some ⟨x,0,none⟩):=(hF.at 6 rfl h6);have hx2:a'.eval (.tmp 38)=.agg #[.int .u8 (cd:Int),.string tx]:=q6;have hst:=run_stRep W1 x _ _ (hI _ h1) cd tx;rw [<-h2] at hst
   refine step_skip hio rfl (by intro c h;cases h) (by simp [Oper.about]) (w':=(w'.setCell ⟨x,0,none⟩ (.int .u8 (cd:Int))).setCell ⟨x,1,none⟩ (.string tx)) (by
    unfold execOp;simp only [hx1,hx2,Sem.run_bind,hst,Result.andThen_ok]
    rfl) ?_
   have hW2:wsAqV I R p x Rk cd c0 tx t0 v w.drew (fun j=>L j||j==7) u ((w'.setCell ⟨x,0,none⟩ (.int .u8 (cd:Int))).setCell ⟨x,1,none⟩ (.string tx)):=by
    refine ⟨fun h=>?_,fun _=>⟨W1,h1,?_⟩⟩
    ·simp [e6] at h
    ·simp only [beq_self_eq_true,Bool.or_true,if_true];rw [h2]
   exact (fin (u) _ _ (fun h=>(by cases h)) (fun _ _=>rfl) (hW2))
 ·intro L u w' hl hW;refine hQ u w' ?_;unfold wsAqV at hW ⊢;simp only [hl 6 (nBl rfl),hl 7 (nBl rfl)] at hW ⊢;exact hW
noncomputable def opsAqW:List Oper:=opsOf Tryz.f22 7
def wsAqW (I:World->Prop) (_R _p _x _Rs _cl _sq _cd:Nat) (_tx:ByteArray) (W0:World) (L:Nat->Bool) (_u:Value) (w:World):Prop:=(L 10=false->w=W0)/\(L 10=true->I w)
theorem wsAqW_same (I:World->Prop) (R p x Rs cl sq cd:Nat) (tx:ByteArray) {W0:World} {L:Nat->Bool} {i:Nat} {u:Value} {w:World} (k10:((10:Nat)==i)=false) (h:wsAqW I R p x Rs cl sq cd tx W0 L u w):wsAqW I R p x Rs cl sq cd tx W0 (fun j=>L j||j==i) u w:=by
 unfold wsAqW at h ⊢;simp only [beq_noF k10];exact h
theorem ado_keep (I:World->Prop) (R p x Rs cl sq cd:Nat) (tx:ByteArray) (a:Act) (w:World) (Q:Exit->Act->World->Prop) (hN:a.tmps.size=60) (h0:a.tmps.getD 0 undef=.pointer (some ⟨R,0,none⟩)) (h3:a.tmps.getD 3 undef=.pointer (some ⟨p,0,none⟩)) (h6:a.tmps.getD 6 undef=.pointer (some ⟨x,0,none⟩)) (cR1:w.cell? ⟨R,1,none⟩=some (.pointer (some ⟨Rs,0,none⟩))) (cp0:w.cell? ⟨p,0,none⟩=some (.int .u32 (cl:Int))) (cp1:w.cell? ⟨p,1,none⟩=some (.int .u32 (sq:Int))) (hx:RepB w x cd tx) (hC:Calls Tryz.prog 44 #[.pointer (some ⟨Rs,0,none⟩),.int .u32 (cl:Int),.int .u32 (sq:Int),.agg #[.int .u8 (cd:Int),.string tx]] w.drew fun e W'=>e=.returned (.tuple #[])/\I W') (hW0:wsAqW I R p x Rs cl sq cd tx w.drew (fun _=>false) undef w.drew) (hQ:∀(u:Value) w',wsAqW I R p x Rs cl sq cd tx w.drew (fun _=>true) u w'->Q .normal (puts [(39,.pointer (some ⟨R,0,none⟩)),(40,.pointer (some ⟨R,0,none⟩)),(41,.pointer (some ⟨R,0,none⟩)),(42,.pointer (some ⟨R,1,none⟩)),(43,.pointer (some ⟨Rs,0,none⟩)),(44,.pointer (some ⟨p,0,none⟩)),(45,.int .u32 (cl:Int)),(46,.pointer (some ⟨p,1,none⟩)),(47,.int .u32 (sq:Int)),(48,.agg #[.int .u8 (cd:Int),.string tx]),(49,.tuple #[])] a) w')
 :(Code.region 7 opsAqW.toArray true).wp Tryz.prog Q a w:=by
 refine region_c (U:=Value) 60 opsAqW [(0,.pointer (some ⟨R,0,none⟩)),(3,.pointer (some ⟨p,0,none⟩)),(6,.pointer (some ⟨x,0,none⟩))] [10] (fun _=>[.pointer (some ⟨R,0,none⟩),.pointer (some ⟨R,0,none⟩),.pointer (some ⟨R,0,none⟩),.pointer (some ⟨R,1,none⟩),.pointer (some ⟨Rs,0,none⟩),.pointer (some ⟨p,0,none⟩),.int .u32 (cl:Int),.pointer (some ⟨p,1,none⟩),.int .u32 (sq:Int),.agg #[.int .u8 (cd:Int),.string tx],.tuple #[]]) (wsAqW I R p x Rs cl sq cd tx w.drew) undef follows (by kernel_rfl) hN ⟨h0,h3,h6,trivial⟩ (fun _=>nBl rfl) hW0 (fun _ _ _ _ hi h=>wsAqW_same _ _ _ _ _ _ _ _ _ (key_ne hi rfl) h) ?_ ?_ ?_
 ·intro L u w' hW hcl;have nL:∀i,reachB opsAqW 30 10 i=true->L i=false->L 10=false:=fun i h n=>not_yetF hcl 30 h n
  exact ⟨fun _=>rfl,fun _=>rfl,fun _=>ob_fld (run_fdA _ _),fun _=>ob_fld (run_fdC1 _ _),fun n=>ob_load (by rw [hW.1 (nL 4 (by kernel_rfl) n)];exact run_ldS1 _ _ _ cR1),fun _=>ob_fld (run_fdM0 _ _),fun n=>ob_load (by rw [hW.1 (nL 6 (by kernel_rfl) n)];exact run_ld32 _ _ _ cp0),fun _=>ob_fld (run_fdM1 _ _),fun n=>ob_load (by rw [hW.1 (nL 8 (by kernel_rfl) n)];exact run_ld32 _ _ _ cp1),fun n=>ob_load (by rw [hW.1 (nL 9 (by kernel_rfl) n)];exact run_ldRep _ _ _ _ hx),trivial,trivial⟩
 ·refine ⟨?_,trivial⟩
  ·rintro o ho L u a' w' hLi hpre hcl hR hW fin;have hio:=(nthO_eq _ _).symm.trans ho
   cases ho
   have q4:a'.tmps.getD 43 undef=.pointer (some ⟨Rs,0,none⟩):=hR.val 4 _ 43 rfl rfl (edge_ofF hpre 4 rfl);have q6:a'.tmps.getD 45 undef=.int .u32 (cl:Int):=hR.val 6 _ 45 rfl rfl (edge_ofF hpre 6 rfl);have q8:a'.tmps.getD 47 undef=.int .u32 (sq:Int):=hR.val 8 _ 47 rfl rfl (edge_ofF hpre 8 rfl);have q9:a'.tmps.getD 48 undef=.agg #[.int .u8 (cd:Int),.string tx]:=hR.val 9 _ 48 rfl rfl (edge_ofF hpre 9 rfl);refine step_callD hio rfl rfl (enters_of Tryz.func44 (by kernel_rfl) rfl) (show Array.map a'.eval #[.tmp 43,.tmp 45,.tmp 47,.tmp 48]=_ from by simp only [List.map_toArray,List.map_cons,List.map_nil,Act.eval,q4,q6,q8,q9]) ((hW.1 hLi ▸ hC).mono ?_);rintro e w'' ⟨rfl,hI1⟩
   have hW2:wsAqW I R p x Rs cl sq cd tx w.drew (fun j=>L j||j==10) u w'':=by
    refine ⟨fun h=>?_,fun _=>hI1⟩;simp at h
   exact ⟨_,rfl,(fin (u) (.tuple #[]) _ (fun _=>rfl) (fun _ _=>rfl) (hW2))⟩
 ·intro L u w' hl hW;refine hQ u w' ?_;unfold wsAqW at hW ⊢;simp only [hl 10 (nBl rfl)] at hW ⊢;exact hW
end Go.Proofs.YtfjmdkhemnmkpaaGreatDoor
namespace Go.Proofs.YtfjmdkhemnmkpaaGreatDoor
open Go.Maps Go.RowKit
theorem join_len {l:List PV} (hl:LimP l) (ks:List ByteArray):(joinP l ks).length<=ks.length*1001:=by
 unfold joinP
 induction ks with
 |nil=>simp
 |cons k ks ih=>
  have h1:((lookP l k).elim ([]:List UInt8) fun v=>v.data.toList).length<=1000:=by
   cases hk:lookP l k with
   |none=>simp
   |some v=>have:=(hl.each _ (lookP_mem hk)).2;simpa using this
  simp only [List.flatMap_cons,List.length_append,List.length_cons,List.length_nil];omega
theorem rep_len {l:List PV} (hl:LimP l) (m:CM) (hk:m.ks.length<=100):(doP l m).2.2.size<=200000:=by
 have h0:(⟨#[]⟩:ByteArray).size<=200000:=by decide
 have hlk:∀{k v},lookP l k=some v->v.size<=200000:=fun h=>by have:=(hl.each _ (lookP_mem h)).2;simp only at this;omega
 unfold doP
 split
 ·exact h0
 split
 ·exact h0
 split
 ·split
  ·exact h0
  ·rename_i v hv;exact hlk hv
 split
 ·split
  ·exact h0
  ·rename_i v hv;exact hlk hv
 split
 ·unfold addP
  cases hs:sumP l (keyP m.ks 0) m.n with
  |none=>exact h0
  |some s=>
   have hr: -9223372036854775808<=s/\s<=9223372036854775807:=by
    unfold sumP at hs
    split at hs
    ·cases hs
    ·split at hs
     ·cases hs;assumption
     ·cases hs
   have:=decI_len hr.1 hr.2;show (str (decI s)).size<=200000;rw [str_size];omega
 split
 ·split
  ·exact h0
  ·split
   ·exact h0
   ·exact h0
 split
 ·exact h0
 split
 ·show (str (joinP l m.ks)).size<=200000;rw [str_size];have:=join_len hl m.ks;omega
 ·have h1:=restP_len l m.ks;have h2:=hl.len;have:=decI_len (n:=(l.length:Int) - (restP l m.ks).length) (by omega) (by omega);show (str (decI ((l.length:Int) - (restP l m.ks).length))).size<=200000;rw [str_size];omega
structure DoA1 (w W:World) (R Rk Rs n p q:Nat) (Fb:Nat->Prop) (ps:List PV) (ss:List SE) (cs:Array Value):Prop where
 below:Below w.heap.size w W
 both:BothA Fb W Rk ps Rs ss
 old:∀k,Fb k->k<w.heap.size
 app:W.heap[R]?=some (.cells #[.pointer (some ⟨Rk,0,none⟩),.pointer (some ⟨Rs,0,none⟩),.int .u64 (n:Int)] 92 (0,0))
 lt:R<w.heap.size
 no:¬Fb R
 cmd:W.heap[p]?=some (.cells cs 57 (0,0))
 rep:RepB W q 0 ⟨#[]⟩
 ps:p=w.heap.size/\q=p+1
section
variable {w W W':World} {R Rk Rs n p q:Nat} {Fb:Nat->Prop} {ps:List PV} {ss:List SE} {cs:Array Value}
theorem DoA1.start {W0:World} (h1:w.heap[R]?=some (.cells #[.pointer (some ⟨Rk,0,none⟩),.pointer (some ⟨Rs,0,none⟩),.int .u64 (n:Int)] 92 (0,0))) (h2:BothA Fb w Rk ps Rs ss) (h3:¬Fb R) (e0:W0=w.alloc (.cells cs 57)) (e1:W=W0.alloc (.cells #[.int .u8 0,.string ⟨#[]⟩] 45)):DoA1 w W R Rk Rs n w.heap.size (w.heap.size+1) Fb ps ss cs:=by
 obtain ⟨a1,a2,a3⟩:=box_new e0;obtain ⟨b1,b2,b3⟩:=box_new e1;have hb:=a1.trans (Below.mono b1 a1.size);have hlt:=(geS.1 h1).1;exact ⟨hb,h2.below hb,h2.lt,(hb.block R hlt).trans h1,hlt,h3,(b1.block _ (by omega)).trans a2,by rw [<-a3];exact b2,⟨rfl,rfl⟩⟩
theorem DoA1.grew (h:DoA1 w W R Rk Rs n p q Fb ps ss cs) (hb:Below W.heap.size W W'):DoA1 w W' R Rk Rs n p q Fb ps ss cs:=
 ⟨h.below.trans (Below.mono hb h.below.size),h.both.below hb,h.old,(hb.block R (geS.1 h.app).1).trans h.app,h.lt,h.no,(hb.block p (geS.1 h.cmd).1).trans h.cmd,(hb.block q h.rep.lt).trans h.rep,h.ps⟩
theorem DoA1.new (h:DoA1 w W R Rk Rs n p q Fb ps ss cs) {k:Nat} (hk:w.heap.size<=k):¬Fb k:=fun hf=>by have:=h.old k hf;omega
end
structure DoA3 (w W2 W:World) (R Rk Rs n p q x:Nat) (Fb F':Nat->Prop) (ps:List PV) (ss:List SE) (cs:Array Value) (cd:Nat) (tx:ByteArray):Prop where
 only:Only Fb w W
 both:BothA F' W Rk ps Rs ss
 sub:∀k,F' k->Fb k\/W2.heap.size<=k
 app:W.heap[R]?=some (.cells #[.pointer (some ⟨Rk,0,none⟩),.pointer (some ⟨Rs,0,none⟩),.int .u64 (n:Int)] 92 (0,0))
 cmd:W.heap[p]?=some (.cells cs 57 (0,0))
 rep:RepB W q 0 ⟨#[]⟩
 at_:RepB W x cd tx
 no:¬F' R/\¬F' p/\¬F' q/\¬F' x
 ne:x≠R/\x≠p/\x≠q
section
variable {w W2 W W':World} {R Rk Rs n p q x:Nat} {Fb F':Nat->Prop} {ps ps':List PV} {ss ss':List SE} {cs:Array Value} {cd:Nat} {tx:ByteArray}
theorem DoA3.start (h:DoA1 w W2 R Rk Rs n p q Fb ps ss cs) (hx:RepB W2 x cd tx) (hxw:q<x) (hb:BothA F' W Rk ps' Rs ss) (ho:Only Fb W2 W) (hs:∀k,F' k->Fb k\/W2.heap.size<=k):DoA3 w W2 W R Rk Rs n p q x Fb F' ps' ss cs cd tx:=by
 obtain ⟨e1,e2⟩:=h.ps;have hlt:=h.lt;have hpl:=(geS.1 h.cmd).1;have hql:=h.rep.lt;have hxl:=hx.lt;have hR2:=(geS.1 h.app).1;have np:¬Fb p:=h.new (by omega);have nq:¬Fb q:=h.new (by omega);have nx:¬Fb x:=h.new (by omega)
 have no:∀k,¬Fb k->k<W2.heap.size->¬F' k:=fun k h1 h2 hf=>by
  rcases hs k hf with e|e
  ·exact h1 e
  ·omega
 exact ⟨(Only.of_grew h.below).trans ho (fun k hk=>.inl hk),hb,hs,(ho.block R hR2 h.no).trans h.app,(ho.block p hpl np).trans h.cmd,(ho.block q hql nq).trans h.rep,(ho.block x hxl nx).trans hx,⟨no R h.no hR2,no p np hpl,no q nq hql,no x nx hxl⟩,by omega,by omega,by omega⟩
theorem DoA3.set (h:DoA3 w W2 W R Rk Rs n p q x Fb F' ps ss cs cd tx) (hxw:w.heap.size<=x) (d:Nat) (u:ByteArray):DoA3 w W2 ((W.setCell ⟨x,0,none⟩ (.int .u8 (d:Int))).setCell ⟨x,1,none⟩ (.string u)) R Rk Rs n p q x Fb F' ps ss cs d u:=by
 have k1:∀{b:Nat} {o:Obj},W.heap[b]?=some o->x≠b->((W.setCell ⟨x,0,none⟩ (.int .u8 (d:Int))).setCell ⟨x,1,none⟩ (.string u)).heap[b]?=some o:=fun hb hn=>(Below.heap_setCell _ _ _ _ (Ne.symm hn)).trans ((Below.heap_setCell _ _ _ _ (Ne.symm hn)).trans hb)
 refine ⟨(h.only.setCell (p:=⟨x,0,none⟩) (.inr hxw) _).setCell (p:=⟨x,1,none⟩) (.inr hxw) _,h.both.keep (((Only.refl (fun k=>k=x) W).setCell (p:=⟨x,0,none⟩) (.inl rfl) _).setCell (p:=⟨x,1,none⟩) (.inl rfl) _) (fun k hk e=>h.no.2.2.2 (e ▸ hk)),h.sub,k1 h.app h.ne.1,k1 h.cmd h.ne.2.1,k1 h.rep h.ne.2.2,h.at_.set d u,h.no,h.ne⟩
theorem DoA3.fin {F F4:Nat->Prop} {W4 W6:World} (h:DoA3 w W2 W R Rk Rs n p q x Fb F' ps ss cs cd tx) (hF:∀k,F k<->(Fb k\/k=R)) (hR:R<w.heap.size) (hw2:w.heap.size<=W2.heap.size) (hp:w.heap.size<=q) (hqR:q≠R)
 (hb:BothA F4 W4 Rk ps Rs ss') (ho:Only F' W W4) (hs:∀k,F4 k->F' k\/W.heap.size<=k) (hn:n+1<18446744073709551616) (e6:W6=((W4.setCell ⟨R,2,none⟩ (.int .u64 ((n+1:Nat):Int))).setCell ⟨q,0,none⟩ (.int .u8 (cd:Int))).setCell ⟨q,1,none⟩ (.string tx)):
 RepB W6 q cd tx/\∃F6,AppQ F6 W6 R ⟨ps,ss',n+1⟩/\Only F w W6/\∀k,F6 k->F k\/w.heap.size<=k:=by
 have hRW:=(geS.1 h.app).1;have hqW:=h.rep.lt;have hws:w.heap.size<=W.heap.size:=h.only.size;have kR:=(ho.block R hRW h.no.1).trans h.app;have kq:RepB W4 q 0 ⟨#[]⟩:=(ho.block q hqW h.no.2.2.1).trans h.rep
 have n4R:¬F4 R:=fun hf=>by
  rcases hs R hf with e|e
  ·exact h.no.1 e
  ·omega
 have n4q:¬F4 q:=fun hf=>by
  rcases hs q hf with e|e
  ·exact h.no.2.2.1 e
  ·omega
 have hsub:∀k,F' k->F k\/w.heap.size<=k:=fun k hk=>by
  rcases h.sub k hk with e|e
  ·exact .inl ((hF k).2 (.inl e))
  ·exact .inr (nLt hw2 e)
 have ho4:Only F w W4:=(h.only.mono (fun k _ hk=>(hF k).2 (.inl hk))).trans ho hsub;subst e6;have q1:((W4.setCell ⟨R,2,none⟩ (.int .u64 ((n+1:Nat):Int)))).heap[q]?=some (.cells #[.int .u8 ((0:Nat):Int),.string ⟨#[]⟩] 45 (0,0)):=(Below.heap_setCell _ _ _ _ hqR).trans kq;have r1:=blk_set kR 2 (.int .u64 ((n+1:Nat):Int));refine ⟨blk_set (blk_set q1 0 _) 1 _,fun k=>F4 k\/k=R,⟨⟨Rk,Rs,F4,(Below.heap_setCell _ _ _ _ (Ne.symm hqR)).trans ((Below.heap_setCell _ _ _ _ (Ne.symm hqR)).trans r1),hb.keep ((((Only.refl (fun k=>k=R\/k=q) W4).setCell (p:=⟨R,2,none⟩) (.inl (.inl rfl)) _).setCell (p:=⟨q,0,none⟩) (.inl (.inr rfl)) _).setCell (p:=⟨q,1,none⟩) (.inl (.inr rfl)) _) (fun k hk e=>?_),n4R,fun _=>Iff.rfl⟩,hn⟩,((ho4.setCell (p:=⟨R,2,none⟩) (.inl ((hF R).2 (.inr rfl))) _).setCell (p:=⟨q,0,none⟩) (.inr hp) _).setCell (p:=⟨q,1,none⟩) (.inr hp) _,fun k hk=>?_⟩
 ·rcases e with e|e
  ·exact n4R (e ▸ hk)
  ·exact n4q (e ▸ hk)
 ·rcases hk with e|rfl
  ·rcases hs k e with e2|e2
   ·exact hsub k e2
   ·exact .inr (nLt hws e2)
  ·exact .inl ((hF k).2 (.inr rfl))
end
theorem ado_any {F:Nat->Prop} {w:World} {R:Nat} {a:AM} (v:CmdV) (h:AppQ F w R a) (hT:TabK w) (hl:LimA a) (hv:v.ok w) (hg:v.ks.length<=100):Calls Tryz.prog 22 #[.pointer (some ⟨R,0,none⟩),v.val] w fun e W'=>e=.returned (.tuple #[ReplyV (doA a v.m).2.1,.bool (doA a v.m).2.2])/\∃F',AppQ F' W' R (doA a v.m).1/\Only F w W'/\∀k,F' k->F k\/w.heap.size<=k:=by
 obtain ⟨Rk,Rs,Fb,h1,h2,h3,h4⟩:=h.ex;obtain ⟨W0,hW0⟩:∃W0,W0=w.alloc (Obj.cells v.cells 57):=⟨_,rfl⟩;obtain ⟨W1,hW1⟩:∃W1,W1=W0.alloc (Obj.cells #[.int .u8 0,.string ⟨#[]⟩] 45):=⟨_,rfl⟩;have D1:=DoA1.start h1 h2 h3 hW0 hW1;obtain ⟨p,hp⟩:∃p,p=w.heap.size:=⟨_,rfl⟩;obtain ⟨q,hq⟩:∃q,q=p+1:=⟨_,rfl⟩;rw [<-hp,<-hq] at D1;have HA:=hiD (aI h (aI hT (aI hl (aI hv hg))));have HV0:Hid (v.m=v.m):=hiD rfl;have HF:=hiD h4;have H1:=hiD D1;have hcl:=hv.cl;have hsq:=hv.sq;obtain ⟨vv,hvv⟩:∃vv,vv=v:=⟨_,rfl⟩;rw [<-hvv] at HA H1 ⊢;have HVV:=hiD hvv;obtain ⟨acl,asq,akd,A,L,c,ks,old,new,n⟩:=v;have hcells:vv.cells=#[.int .u32 (acl:Int),.int .u32 (asq:Int),.int .u8 (akd:Int),.slice A L c,.string old,.string new,.int .i64 n]:=by rw [hvv];rfl
 have hval:vv.val=.agg #[.int .u32 (acl:Int),.int .u32 (asq:Int),.int .u8 (akd:Int),.slice A L c,.string old,.string new,.int .i64 n]:=by rw [hvv];rfl
 have hmc:vv.m.cl=acl/\vv.m.sq=asq:=by rw [hvv];exact ⟨rfl,rfl⟩
 have HM:=hiD hmc;have z0:W1.cell? ⟨p,0,none⟩=some (.int .u32 (acl:Int)):=by have:=blk_cell D1.cmd 0;simpa [CmdV.cells] using this
 have z1:W1.cell? ⟨p,1,none⟩=some (.int .u32 (asq:Int)):=by have:=blk_cell D1.cmd 1;simpa [CmdV.cells] using this
 have y0:W1.cell? ⟨q,0,none⟩=some (.int .u8 0):=by simpa using blk_cell D1.rep 0
 have y1:W1.cell? ⟨q,1,none⟩=some (.string ⟨#[]⟩):=by simpa using blk_cell D1.rep 1
 have u0:=blk_frozen D1.rep 0;have u1:=blk_frozen D1.rep 1;have HCL:=hiD (aI hcl hsq);simp only [CmdV.cells] at hW0;rw [hval];have HCE:=hiD hcells;clear h h1 h2 h3 h4 hT hl hv hg hcells hmc D1 hcl hsq hval hvv;go_enter Tryz.func22,Tryz.ntmps22;go_upto_region 1 with (fail)
 rw [<-hW0,<-hW1,<-hp,<-hq];clear hW0 hW1 hp hq
 by_cases h0:acl=0
 ·subst h0;go_wp2;obtain ⟨W9,hW9⟩:∃W9,W9=(W1.setCell ⟨q,0,none⟩ (.int .u8 2)).setCell ⟨q,1,none⟩ (.string ⟨#[]⟩):=⟨_,rfl⟩;rw [<-hW9];have hD:=H1.out;have hqw:w.heap.size<=q:=by have:=hD.ps;omega
  have k9:RepB W9 q 2 ⟨#[]⟩:=by rw [hW9];exact hD.rep.set 2 ⟨#[]⟩
  have b9:Below w.heap.size w W9:=by rw [hW9];exact (hD.below.setCell (p:=⟨q,0,none⟩) hqw _).setCell (p:=⟨q,1,none⟩) hqw _
  have d0:W9.cell? ⟨q,0,none⟩=some (.int .u8 2):=by simpa using blk_cell k9 0
  have d1:W9.cell? ⟨q,1,none⟩=some (.string ⟨#[]⟩):=by simpa using blk_cell k9 1
  have e:doA a vv.m=(a,(2,⟨#[]⟩),false):=by unfold doA;rw [if_pos HM.out.1]
  rw [e];exact bodyPost_ret (v:=.tuple #[ReplyV (2,⟨#[]⟩),.bool false]) (by simp [results,Tryz.results22,go_sem,d0,d1,ReplyV]) rfl ⟨rfl,_,HA.out.1.keep (Only.of_grew (F:=fun _=>False) b9) (fun _ _=>id),Only.of_grew b9,fun k hk=>.inl hk⟩
 ·have h0b:((acl:Int)==0)=false:=by simpa using h0
  have H0:=hiD h0;clear h0;go_upto_region 3 with (fail)
  obtain ⟨k,hk⟩:∃k,k=(tellS a.ss acl asq).2:=⟨_,rfl⟩;obtain ⟨⟨cd,tx⟩,hr⟩:∃r,r=(tellS a.ss acl asq).1:=⟨_,rfl⟩;have cR1:W1.cell? ⟨R,1,none⟩=some (.pointer (some ⟨Rs,0,none⟩)):=by simpa using blk_cell H1.out.app 1
  have HLK:=hiD (fun w' (hgr:Grew W1 w')=>by
   have:=(H1.out.both.below hgr).look acl asq HCL.out.1 HCL.out.2;rw [<-hk,<-hr] at this;exact this)
  have HK:=hiD (aI hk hr);clear hk hr;refine ado_look R p Rs acl asq cd k tx _ W1 _ rfl rfl rfl (geS.1 H1.out.app).1 (geS.1 H1.out.cmd).1 cR1 z0 z1 HLK.out ⟨Below.refl _ _,fun h=>by cases h⟩ ?_;intro u W2 hws;obtain ⟨b2,hx⟩:=hws;obtain ⟨x,rfl,hx1,hx2⟩:=hx rfl;simp only [if_true] at hx2;have D2:=H1.out.grew (Grew.undraw b2);have hqx:q<x:=nLl H1.out.rep.lt hx1;have H2:=hiD (aI D2 (aI hx2 hqx));clear b2 hx1 HLK cR1 z0 z1 y0 y1 u0 u1;simp only [puts,List.foldl_cons,List.foldl_nil,Act.put,List.setIfInBounds_toArray,List.set_cons_succ,List.set_cons_zero]
  by_cases hk0:k=0
  ·subst hk0;clear D2 hx2 hqx;go_upto_region 6 with (fail)
   obtain ⟨⟨ps',cd',tx'⟩,hd⟩:∃r,r=doP a.ps vv.m:=⟨_,rfl⟩;obtain ⟨ss',hss⟩:∃l,l=keepS a.ss acl asq cd' tx':=⟨_,rfl⟩;have hbd:Below W2.heap.size W2 W2.drew:=(Below.refl _ _).drew;have hb2d:Below w.heap.size w W2.drew:=H2.out.1.below.trans (Below.mono hbd H2.out.1.below.size);have cR0:W2.cell? ⟨R,0,none⟩=some (.pointer (some ⟨Rk,0,none⟩)):=by simpa using blk_cell H2.out.1.app 0
   have hC:=(H2.out.1.both.below hbd).do_ (HA.out.2.1.grew hb2d) HA.out.2.2.1.p vv (HA.out.2.2.2.1.below hb2d);rw [<-hd] at hC;have HC:=hiD (hC.mono (R':=fun e W'=>e=.returned (.agg #[.int .u8 (cd':Int),.string tx'])/\∃F',BothA F' W' Rk ps' Rs a.ss/\Only Fb W2 W'/\∀k,F' k->Fb k\/W2.heap.size<=k) (fun e W' ⟨he,F',k1,k2,k3⟩=>⟨he,F',k1,(Only.of_grew hbd).trans k2 (fun x hx=>.inl hx),k3⟩));have HD:=hiD (aI hd hss);clear hd hss hC hbd hb2d;refine ado_do (fun W'=>∃F',BothA F' W' Rk ps' Rs a.ss/\Only Fb W2 W'/\∀k,F' k->Fb k\/W2.heap.size<=k) R p x Rk cd' cd tx' tx vv _ W2 _ rfl rfl rfl rfl cR0 (fun i u h=>by have e:=blk_cell H2.out.1.cmd i;exact e.trans h) HC.out (fun W' ⟨F',_,k2,_⟩=>(k2.block x H2.out.2.1.lt (H2.out.1.new (by have:=H2.out.1.ps;have:=H2.out.2.2;omega))).trans H2.out.2.1) ⟨fun _=>rfl,fun h=>by cases h⟩ ?_;intro u W3 hws;obtain ⟨_,hx⟩:=hws;obtain ⟨W3a,⟨F3,hb3,ho3,hs3⟩,hW3⟩:=hx rfl;simp only [if_true] at hW3;have hxw:w.heap.size<=x:=by have:=H2.out.1.ps;have:=H2.out.2.2;omega
   have D3:=(DoA3.start H2.out.1 H2.out.2.1 H2.out.2.2 hb3 ho3 hs3).set hxw cd' tx';rw [<-hW3] at D3;clear hx hW3 hb3 ho3 hs3 cR0 HC;simp only [puts,List.foldl_cons,List.foldl_nil,Act.put,List.setIfInBounds_toArray,List.set_cons_succ,List.set_cons_zero];go_upto_region 7 with (fail)
   have cR1:W3.cell? ⟨R,1,none⟩=some (.pointer (some ⟨Rs,0,none⟩)):=by simpa using blk_cell D3.app 1
   have z0:W3.cell? ⟨p,0,none⟩=some (.int .u32 (acl:Int)):=by have e:=blk_cell D3.cmd 0;rw [HCE.out] at e;simpa using e
   have z1:W3.cell? ⟨p,1,none⟩=some (.int .u32 (asq:Int)):=by have e:=blk_cell D3.cmd 1;rw [HCE.out] at e;simpa using e
   have hbd:Below W3.heap.size W3 W3.drew:=(Below.refl _ _).drew
   have htx:tx'.size<=maxLen:=by
    have h1:=rep_len HA.out.2.2.1.p vv.m HA.out.2.2.2.2;rw [<-HD.out.1] at h1;exact nLt h1 (by decide)
   have hC:=(D3.both.below hbd).keeps acl asq cd' tx' (by have:=HA.out.2.2.1.s.len;omega) HCL.out.1 HCL.out.2 htx;rw [<-HD.out.2] at hC;have HC:=hiD (hC.mono (R':=fun e W'=>e=.returned (.tuple #[])/\∃F4,BothA F4 W' Rk ps' Rs ss'/\Only F3 W3 W'/\∀k,F4 k->F3 k\/W3.heap.size<=k) (fun e W' ⟨he,F',k1,k2,k3⟩=>⟨he,F',k1,(Only.of_grew hbd).trans k2 (fun x hx=>.inl hx),k3⟩));have H3:=hiD D3;clear D3 hC hbd htx;refine ado_keep (fun W'=>∃F4,BothA F4 W' Rk ps' Rs ss'/\Only F3 W3 W'/\∀k,F4 k->F3 k\/W3.heap.size<=k) R p x Rs acl asq cd' tx' _ W3 _ rfl rfl rfl rfl cR1 z0 z1 H3.out.at_ HC.out ⟨fun _=>rfl,fun h=>by cases h⟩ ?_;intro u W4 hws;obtain ⟨F4,hb4,ho4,hs4⟩:=hws.2 rfl;have kR:=(ho4.block R (geS.1 H3.out.app).1 H3.out.no.1).trans H3.out.app;have kq:RepB W4 q 0 ⟨#[]⟩:=(ho4.block q H3.out.rep.lt H3.out.no.2.2.1).trans H3.out.rep;have kx:RepB W4 x cd' tx':=(ho4.block x H3.out.at_.lt H3.out.no.2.2.2).trans H3.out.at_;have H4:=hiD (aI hb4 (aI ho4 hs4));clear hws hb4 ho4 hs4 cR1 z0 z1 HC;simp only [puts,List.foldl_cons,List.foldl_nil,Act.put,List.setIfInBounds_toArray,List.set_cons_succ,List.set_cons_zero];obtain ⟨n1,hn1⟩:∃n1,n1=a.n+1:=⟨_,rfl⟩;have hnl:n1<18446744073709551616:=by have:=HA.out.2.2.1.n;omega
   have hwr:IntKind.u64.wrap ((a.n:Int)+1)=(n1:Int):=by
    rw [IntKind.wrap_u64];omega
   have c2:W4.cell? ⟨R,2,none⟩=some (.int .u64 (a.n:Int)):=by simpa using blk_cell kR 2
   have f2:=blk_frozen kR 2;have HN:=hiD (aI hn1 hnl);have HR4:=hiD (aI kR (aI kq kx));clear hn1 hnl kR kq kx;go_upto_region 9 with (fail)
   obtain ⟨W5,hW5⟩:∃W5,W5=W4.setCell ⟨R,2,none⟩ (.int .u64 (n1:Int)):=⟨_,rfl⟩;rw [<-hW5];have hqw:w.heap.size<=q:=by have:=H2.out.1.ps;omega
   have hqR:q≠R:=by have:=H2.out.1.lt;omega
   have kq:RepB W5 q 0 ⟨#[]⟩:=by rw [hW5];exact (Below.heap_setCell _ _ _ _ hqR).trans HR4.out.2.1
   have kx:RepB W5 x cd' tx':=by rw [hW5];exact (Below.heap_setCell _ _ _ _ H3.out.ne.1).trans HR4.out.2.2
   have e0:W5.cell? ⟨x,0,none⟩=some (.int .u8 (cd':Int)):=by simpa using blk_cell kx 0
   have e1:W5.cell? ⟨x,1,none⟩=some (.string tx'):=by simpa using blk_cell kx 1
   have y0:W5.cell? ⟨q,0,none⟩=some (.int .u8 0):=by simpa using blk_cell kq 0
   have y1:W5.cell? ⟨q,1,none⟩=some (.string ⟨#[]⟩):=by simpa using blk_cell kq 1
   have u0:=blk_frozen kq 0;have u1:=blk_frozen kq 1;have H5:=hiD (aI hW5 (aI hqw hqR));clear hW5 kq kx hqw hqR hwr c2 f2 hxw;go_wp2;obtain ⟨W6,hW6⟩:∃W6,W6=(W5.setCell ⟨q,0,none⟩ (.int .u8 (cd':Int))).setCell ⟨q,1,none⟩ (.string tx'):=⟨_,rfl⟩;rw [<-hW6];have e6:W6=((W4.setCell ⟨R,2,none⟩ (.int .u64 ((a.n+1:Nat):Int))).setCell ⟨q,0,none⟩ (.int .u8 (cd':Int))).setCell ⟨q,1,none⟩ (.string tx'):=by rw [hW6,H5.out.1,HN.out.1]
   have hfin:=H3.out.fin HF.out H2.out.1.lt H2.out.1.below.size H5.out.2.1 H5.out.2.2 H4.out.1 H4.out.2.1 H4.out.2.2 (by have:=HN.out;omega) e6;obtain ⟨k6,F6,g1,g2,g3⟩:=hfin;have d0:W6.cell? ⟨q,0,none⟩=some (.int .u8 (cd':Int)):=by simpa using blk_cell k6 0
   have d1:W6.cell? ⟨q,1,none⟩=some (.string tx'):=by simpa using blk_cell k6 1
   have e:doA a vv.m=(⟨ps',ss',a.n+1⟩,(cd',tx'),true):=by
    unfold doA;rw [HM.out.1,HM.out.2,if_neg H0.out,if_pos HK.out.1.symm,<-HD.out.1,HD.out.2]
   rw [e];exact bodyPost_ret (v:=.tuple #[ReplyV (cd',tx'),.bool true]) (by simp [results,Tryz.results22,go_sem,d0,d1,ReplyV]) rfl ⟨rfl,F6,g1,g2,g3⟩
  ·have e0:W2.cell? ⟨x,0,none⟩=some (.int .u8 (cd:Int)):=by simpa using blk_cell hx2 0
   have e1:W2.cell? ⟨x,1,none⟩=some (.string tx):=by simpa using blk_cell hx2 1
   have y0:W2.cell? ⟨q,0,none⟩=some (.int .u8 0):=by simpa using blk_cell D2.rep 0
   have y1:W2.cell? ⟨q,1,none⟩=some (.string ⟨#[]⟩):=by simpa using blk_cell D2.rep 1
   have u0:=blk_frozen D2.rep 0;have u1:=blk_frozen D2.rep 1;have hkn:¬(k:Int)=0:=by omega
   have hkb:((k:Int)==0)=false:=by simpa using hkn
   have hkc:((k:Int)!=0)=true:=by simp;omega
   have HK0:=hiD hk0;clear D2 hx2 hqx hk0;go_wp2;obtain ⟨W9,hW9⟩:∃W9,W9=(W2.setCell ⟨q,0,none⟩ (.int .u8 (cd:Int))).setCell ⟨q,1,none⟩ (.string tx):=⟨_,rfl⟩;rw [<-hW9];have hD:=H2.out.1;have hqw:w.heap.size<=q:=by have:=hD.ps;omega
   have k9:RepB W9 q cd tx:=by rw [hW9];exact hD.rep.set cd tx
   have b9:Below w.heap.size w W9:=by rw [hW9];exact (hD.below.setCell (p:=⟨q,0,none⟩) hqw _).setCell (p:=⟨q,1,none⟩) hqw _
   have d0:W9.cell? ⟨q,0,none⟩=some (.int .u8 (cd:Int)):=by simpa using blk_cell k9 0
   have d1:W9.cell? ⟨q,1,none⟩=some (.string tx):=by simpa using blk_cell k9 1
   have e:doA a vv.m=(a,(cd,tx),false):=by
    unfold doA;rw [HM.out.1,HM.out.2,if_neg H0.out,if_neg (by rw [<-HK.out.1];exact HK0.out),<-HK.out.2]
   rw [e];exact bodyPost_ret (v:=.tuple #[ReplyV (cd,tx),.bool false]) (by simp [results,Tryz.results22,go_sem,d0,d1,ReplyV]) rfl ⟨rfl,_,HA.out.1.keep (Only.of_grew (F:=fun _=>False) b9) (fun _ _=>id),Only.of_grew b9,fun k hk=>.inl hk⟩
end Go.Proofs.YtfjmdkhemnmkpaaGreatDoor
