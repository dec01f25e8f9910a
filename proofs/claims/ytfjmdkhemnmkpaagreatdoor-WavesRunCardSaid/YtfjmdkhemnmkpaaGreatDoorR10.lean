/- Parts of the proof: SoC, SoD, SoE. -/
import Derived.Test.YtfjmdkhemnmkpaaGreatDoorR09
set_option maxRecDepth 100000
set_option maxHeartbeats 8000000
namespace Go.Proofs.YtfjmdkhemnmkpaaGreatDoor
open Go.RowKit Go.Sort
theorem and_parts {a:Prop} [Decidable a] {b:Bool} (h:(decide a&&b)=true):a/\b=true:=by
 rw [Bool.and_eq_true,decide_eq_true_eq] at h;exact h
section
variable (p:Int->Bool) {d:Array Int}
theorem scanUp_on {i j:Nat} (h:i<=j) (hp:p d[i]! =true):scanUp p d j i=scanUp p d j (i+1):=by
 conv=>lhs;rw [scanUp]
 rw [if_pos (by rw [hp,Bool.and_true];exact decide_eq_true h)]
theorem scanUp_off {i j:Nat} (h:(decide (i<=j)&&p d[i]!)=false):scanUp p d j i=i:=by
 rw [scanUp,if_neg (by rw [h];exact Bool.false_ne_true)]
theorem scanDown_on {i j:Nat} (h1:1<=j) (h:i<=j) (hp:p d[j]! =true):scanDown p d i j=scanDown p d i (j - 1):=by
 cases j with
 |zero=>omega
 |succ k=>
  conv=>lhs;rw [scanDown]
  rw [if_pos (by rw [hp,Bool.and_true];exact decide_eq_true h)]
  rfl
theorem scanDown_off {i j:Nat} (h:(decide (i<=j)&&p d[j]!)=false):scanDown p d i j=j:=by
 cases j with
 |zero=>rfl
 |succ k=>rw [scanDown,if_neg (by rw [h];exact Bool.false_ne_true)]
end
theorem peq_n {w W0:World} {b off n:Nat} {pre rest:List Value} {dk:Array Int} (cap a e p:Nat) (hs:SR w b off n pre rest dk W0) (hap:a<=p) (hpe:p<e) (he:e<=n) (hsz:n<1152921504606846976):
 Calls Tryz.prog 141 #[.slice (some ⟨b,off,none⟩) n cap,.int .i64 (a:Int),.int .i64 (e:Int),.int .i64 (p:Int)] W0 fun x W=>x=.returned (.int .i64 ((partitionEqual ltInt dk a e p).1:Int))/\SR w b off n pre rest (partitionEqual ltInt dk a e p).2 W:=by
 have HS:=hiD hs;obtain ⟨d0,hd0⟩:∃x,x=swp dk a p:=⟨_,rfl⟩;obtain ⟨r,hr⟩:∃r,r=partitionEqual ltInt dk a e p:=⟨_,rfl⟩;rw [<-hr];have HR:=hiD (show partEqLoop ltInt a (a+1) (e - 1) d0=r by rw [hr,hd0];rfl);have HD0:=hiD hd0;clear hs hr hd0;obtain ⟨G,hG⟩:∃G:Nat->Int,∀t,G t=dk[t]!:=⟨fun t=>dk[t]!,fun _=>rfl⟩;have HG:=hiD hG;clear hG;go_enter Tryz.func141,Tryz.ntmps141;go_upto_region 1 with (fail)
 go_cut [] (fun wx=>Hid (SR w b off n pre rest (swp dk a p) wx))
 case first=>
  have hcw:∀t,t<n->W0.cell? ⟨b,off+t,none⟩=some (.int .u32 (G t)):=fun t ht=>by rw [HG.out];exact HS.out.cell ht
  have hfw:∀t,t<n->W0.frozen? ⟨b,off+t,none⟩=false:=fun t _=>HS.out.frozen t
  have HW:=hiD (HS.out.swap (j:=a) (k:=p) (by omega) (by omega) 1)
  by_cases hpq:a=p
  ·subst hpq
   go_region
   all_goals go_wp2
   go_meet;refine hiD ?_;rw [HG.out];exact HW.out
  ·have hpq2:a<p:=by omega
   go_region
   all_goals go_wp2
   go_meet;refine hiD ?_;rw [HG.out,HG.out];exact HW.out
 case rest=>
  have H0:=hcut;clear hcut;rw [<-HD0.out] at H0;clear HG HD0 HS;go_wp2
  go_loopw [9,10] (fun vi vj wr=>∃(i j:Nat) (dk:Array Int),vi=.int .i64 (i:Int)/\vj=.int .i64 (j:Int)/\a<i/\i<=j+1/\j<e/\Hid (SR w b off n pre rest dk wr/\partEqLoop ltInt a i j dk=r)) (fun vi vj _=>(intOf vj+1 - intOf vi).toNat)
  case atStart=>exact ⟨a+1,e - 1,d0,by go_num,by congr 1;omega,by omega,by omega,by omega,hiD ⟨H0.out,HR.out⟩⟩
  case round=>
   obtain ⟨i,j,dk,rfl,rfl,hai,hij,hje,HI⟩:=hrel;obtain ⟨G,hG⟩:∃G:Nat->Int,∀t,G t=dk[t]!:=⟨fun t=>dk[t]!,fun _=>rfl⟩;have HG:=hiD hG;clear hG;go_wp2
   go_loopw [9] (fun vi wr=>∃(z0:Nat),vi=.int .i64 (z0:Int)/\i<=z0/\z0<=j+1/\Hid (SR w b off n pre rest dk wr/\scanUp (fun x=>!ltInt dk[a]! x) dk j z0=scanUp (fun x=>!ltInt dk[a]! x) dk j i)) (fun vi _=>j+1 - (intOf vi).toNat)
   case atStart=>exact ⟨i,by first|rfl|(congr 1;omega),nLr _,by omega,hiD ⟨HI.out.1,rfl⟩⟩
   case round=>
    obtain ⟨x,rfl,hx1,hx2,HX⟩:=hrel;have hcw:∀t,t<n->wr.cell? ⟨b,off+t,none⟩=some (.int .u32 (G t)):=fun t ht=>by rw [HG.out];exact HX.out.1.cell ht
    have hfw:∀t,t<n->wr.frozen? ⟨b,off+t,none⟩=false:=fun t _=>HX.out.1.frozen t
    obtain ⟨tb,htb⟩:∃t,t=(decide (x<=j)&&!ltInt (G a) (G x)):=⟨_,rfl⟩;have HXT:=hiD htb;clear htb;go_upto_region 3 with (fail)
    go_cut [43] (fun s wx=>s=.bool tb/\Hid (SR w b off n pre rest dk wx))
    case first=>
     by_cases hxl:x<=j
     ·have hxz:(x:Int)<=(j:Int):=by omega
      go_quiet (first|(go_at_call 140;refine Calls.quiet_of_same (less_n _ _ _)));go_wp2;go_meet;exact ⟨by rw [HXT.out,decide_eq_true hxl,Bool.true_and],hiD (HX.out.1.drewN _)⟩
     ·have hxz:¬(x:Int)<=(j:Int):=by omega
      go_quiet (first|(go_at_call 140;refine Calls.quiet_of_same (less_n _ _ _)));go_wp2;go_meet;exact ⟨by rw [HXT.out,decide_eq_false hxl,Bool.false_and],hiD (HX.out.1.drewN _)⟩
    case rest=>
     obtain ⟨rfl,HXW⟩:=hcut;clear hcw hfw
     cases tb with
     |true=>
      obtain ⟨hxl,hxp⟩:=and_parts HXT.out.symm;have HP:=hiD hxp;clear hxp;go_wp2
      go_roundw
      case rel=>exact ⟨x+1,by go_num,by omega,by omega,hiD ⟨HXW.out,by rw [<-HX.out.2,scanUp_on (fun x=>!ltInt dk[a]! x) (d:=dk) hxl (by rw [<-HP.out,HG.out,HG.out])]⟩⟩
      case measure=>simp [intOf];omega
     |false=>
      have hxs:scanUp (fun x=>!ltInt dk[a]! x) dk j i=x:=by
       rw [<-HX.out.2,scanUp_off (fun x=>!ltInt dk[a]! x) (d:=dk) (by have:=HXT.out;rw [HG.out,HG.out] at this;exact this.symm)]
      have HXS:=hiD hxs;clear hxs;go_wp2
      go_loopw [10] (fun vj wr=>∃(z0:Nat),vj=.int .i64 (z0:Int)/\z0<=j/\x<=z0+1/\Hid (SR w b off n pre rest dk wr/\scanDown (fun x=>ltInt dk[a]! x) dk x z0=scanDown (fun x=>ltInt dk[a]! x) dk x j)) (fun vj _=>(intOf vj).toNat)
      case atStart=>exact ⟨j,by first|rfl|(congr 1;omega),nLr _,by omega,hiD ⟨HXW.out,rfl⟩⟩
      case round=>
       obtain ⟨y,rfl,hy1,hy2,HY⟩:=hrel;have hcw:∀t,t<n->wr.cell? ⟨b,off+t,none⟩=some (.int .u32 (G t)):=fun t ht=>by rw [HG.out];exact HY.out.1.cell ht
       have hfw:∀t,t<n->wr.frozen? ⟨b,off+t,none⟩=false:=fun t _=>HY.out.1.frozen t
       obtain ⟨tb,htb⟩:∃t,t=(decide (x<=y)&&ltInt (G a) (G y)):=⟨_,rfl⟩;have HYT:=hiD htb;clear htb;go_upto_region 5 with (fail)
       go_cut [59] (fun s wx=>s=.bool tb/\Hid (SR w b off n pre rest dk wx))
       case first=>
        by_cases hxl:x<=y
        ·have hxz:(x:Int)<=(y:Int):=by omega
         go_quiet (first|(go_at_call 140;refine Calls.quiet_of_same (less_n _ _ _)));go_wp2;go_meet;exact ⟨by rw [HYT.out,decide_eq_true hxl,Bool.true_and],hiD (HY.out.1.drewN _)⟩
        ·have hxz:¬(x:Int)<=(y:Int):=by omega
         go_quiet (first|(go_at_call 140;refine Calls.quiet_of_same (less_n _ _ _)));go_wp2;go_meet;exact ⟨by rw [HYT.out,decide_eq_false hxl,Bool.false_and],hiD (HY.out.1.drewN _)⟩
       case rest=>
        obtain ⟨rfl,HYW⟩:=hcut;clear hcw hfw
        cases tb with
        |true=>
         obtain ⟨hxl,hxp⟩:=and_parts HYT.out.symm;have HP:=hiD hxp;clear hxp;go_wp2
         go_roundw
         case rel=>exact ⟨y - 1,by congr 1;omega,by omega,by omega,hiD ⟨HYW.out,by rw [<-HY.out.2,scanDown_on (fun x=>ltInt dk[a]! x) (d:=dk) (by omega) hxl (by rw [<-HP.out,HG.out,HG.out])]⟩⟩
         case measure=>simp [intOf];omega
        |false=>
         have hys:scanDown (fun x=>ltInt dk[a]! x) dk x j=y:=by
          rw [<-HY.out.2,scanDown_off (fun x=>ltInt dk[a]! x) (d:=dk) (by have:=HYT.out;rw [HG.out,HG.out] at this;exact this.symm)]
         have HYS:=hiD hys;clear hys;have hstep:=partEqLoop_eq ltInt a i j dk;rw [HXS.out,HYS.out] at hstep;have HST:=hiD hstep;clear hstep
         by_cases hxy:y<x
         ·have hxz:(y:Int)<(x:Int):=by omega
          have hfin:r=(x,dk):=by
           rw [<-HI.out.2,HST.out,if_pos hxy]
          have HF:=hiD hfin;clear hfin;go_wp2;go_ret;rw [HF.out];exact ⟨rfl,HYW.out⟩
         ·have hxz:¬(y:Int)<(x:Int):=by omega
          have hgo:partEqLoop ltInt a (x+1) (y - 1) (swp dk x y)=r:=by
           rw [<-HI.out.2,HST.out,if_neg hxy]
          have HGO:=hiD hgo;clear hgo
          have hlt:x<y:=by
           have h1:=HXT.out;have h2:=HYT.out;rw [decide_eq_true (show x<=j by omega),Bool.true_and] at h1;rw [decide_eq_true (show x<=y by omega),Bool.true_and] at h2
           rcases Nat.lt_or_ge x y with h|h
           ·exact h
           ·have e:x=y:=by omega
            rw [e,<-h2] at h1
            cases h1
          go_upto_region 8 with (fail)
          go_cut [] (fun wx=>Hid (SR w b off n pre rest (swp dk x y) wx))
          case first=>
           have hcw:∀t,t<n->wc.cell? ⟨b,off+t,none⟩=some (.int .u32 (G t)):=fun t ht=>by rw [HG.out];exact HYW.out.cell ht
           have hfw:∀t,t<n->wc.frozen? ⟨b,off+t,none⟩=false:=fun t _=>HYW.out.frozen t
           have HW:=hiD (HYW.out.swap (j:=x) (k:=y) (by omega) (by omega) 1)
           go_region
           all_goals go_wp2
           go_meet;refine hiD ?_;rw [HG.out,HG.out];exact HW.out
          case rest=>
           have HZ:=hcut;clear hcut;go_wp2
           go_roundw
           case rel=>exact ⟨x+1,y - 1,swp dk x y,by go_num,by congr 1;omega,by omega,by omega,by omega,hiD ⟨HZ.out,HGO.out⟩⟩
           case measure=>simp [intOf];omega
theorem part_step (lt:Int->Int->Bool) {d d0:Array Int} {a e p x y:Nat} (hd:d0=swp d a p) (hx:scanUp (fun z=>lt z d0[a]!) d0 (e - 1) (a+1)=x) (hy:scanDown (fun z=>!lt z d0[a]!) d0 x (e - 1)=y):
 partition lt d a e p=if x>y then (y,true,swp d0 y a) else ((partLoop lt a (x+1) (y - 1) (swp d0 x y)).1,false,swp (partLoop lt a (x+1) (y - 1) (swp d0 x y)).2 (partLoop lt a (x+1) (y - 1) (swp d0 x y)).1 a):=by
 subst hd hx hy
 rfl
theorem par_n {w W0:World} {b off n:Nat} {pre rest:List Value} {dk:Array Int} (cap a e p:Nat) (hs:SR w b off n pre rest dk W0) (hap:a<=p) (hpe:p<e) (he:e<=n) (hsz:n<1152921504606846976):
 Calls Tryz.prog 142 #[.slice (some ⟨b,off,none⟩) n cap,.int .i64 (a:Int),.int .i64 (e:Int),.int .i64 (p:Int)] W0 fun x W=>x=.returned (.tuple #[.int .i64 ((partition ltInt dk a e p).1:Int),.bool (partition ltInt dk a e p).2.1])/\SR w b off n pre rest (partition ltInt dk a e p).2.2 W:=by
 have HS:=hiD hs;obtain ⟨d0,hd0⟩:∃x,x=swp dk a p:=⟨_,rfl⟩;obtain ⟨r,hr⟩:∃r,r=partition ltInt dk a e p:=⟨_,rfl⟩;rw [<-hr];have HR:=hiD (aI hr hd0);clear hs hr;obtain ⟨G,hG⟩:∃G:Nat->Int,∀t,G t=dk[t]!:=⟨fun t=>dk[t]!,fun _=>rfl⟩;have HG:=hiD hG;clear hG;go_enter Tryz.func142,Tryz.ntmps142;go_upto_region 1 with (fail)
 go_cut [] (fun wx=>Hid (SR w b off n pre rest (swp dk a p) wx))
 case first=>
  have hcw:∀t,t<n->W0.cell? ⟨b,off+t,none⟩=some (.int .u32 (G t)):=fun t ht=>by rw [HG.out];exact HS.out.cell ht
  have hfw:∀t,t<n->W0.frozen? ⟨b,off+t,none⟩=false:=fun t _=>HS.out.frozen t
  have HW:=hiD (HS.out.swap (j:=a) (k:=p) (by omega) (by omega) 1)
  by_cases hpq:a=p
  ·subst hpq
   go_region
   all_goals go_wp2
   go_meet;refine hiD ?_;rw [HG.out];exact HW.out
  ·have hpq2:a<p:=by omega
   go_region
   all_goals go_wp2
   go_meet;refine hiD ?_;rw [HG.out,HG.out];exact HW.out
 case rest=>
  have H0:=hcut;clear hcut;have HH0:Hid (∃dz,dz=swp dk a p/\r=partition ltInt dk a e p/\SR w b off n pre rest dz wc):=hiD ⟨_,rfl,HR.out.1,H0.out⟩;have HPS:=hiD (fun x y (hx:scanUp (fun z=>ltInt z d0[a]!) d0 (e - 1) (a+1)=x) (hy:scanDown (fun z=>!ltInt z d0[a]!) d0 x (e - 1)=y)=>HR.out.1.trans (part_step ltInt (d:=dk) HR.out.2 hx hy));rw [<-HR.out.2] at H0;clear HG HS HH0 HR hd0;clear dk;obtain ⟨dk,hdk⟩:∃x,x=d0:=⟨_,rfl⟩;obtain ⟨i,hi⟩:∃i,i=a+1:=⟨_,rfl⟩;obtain ⟨j,hj⟩:∃j,j=e - 1:=⟨_,rfl⟩;rw [<-hdk] at H0;rw [<-hdk,<-hi,<-hj] at HPS;have hiz:(a:Int)+1=(i:Int):=by omega
  have hjz:(e:Int) - 1=(j:Int):=by omega
  have hai:a<i:=by omega
  have hij:i<=j+1:=by omega
  have hje:j<e:=by omega
  clear hdk hi hj;obtain ⟨G,hG⟩:∃G:Nat->Int,∀t,G t=dk[t]!:=⟨fun t=>dk[t]!,fun _=>rfl⟩;have HG:=hiD hG;clear hG;go_wp2
  go_loopw [10] (fun vi wr=>∃(z0:Nat),vi=.int .i64 (z0:Int)/\i<=z0/\z0<=j+1/\Hid (SR w b off n pre rest dk wr/\scanUp (fun z=>ltInt z dk[a]!) dk j z0=scanUp (fun z=>ltInt z dk[a]!) dk j i)) (fun vi _=>j+1 - (intOf vi).toNat)
  case atStart=>exact ⟨i,by first|rfl|(congr 1;omega),nLr _,by omega,hiD ⟨H0.out,rfl⟩⟩
  case round=>
   obtain ⟨x,rfl,hx1,hx2,HX⟩:=hrel;have hcw:∀t,t<n->wr.cell? ⟨b,off+t,none⟩=some (.int .u32 (G t)):=fun t ht=>by rw [HG.out];exact HX.out.1.cell ht
   have hfw:∀t,t<n->wr.frozen? ⟨b,off+t,none⟩=false:=fun t _=>HX.out.1.frozen t
   obtain ⟨tb,htb⟩:∃t,t=(decide (x<=j)&&ltInt (G x) (G a)):=⟨_,rfl⟩;have HXT:=hiD htb;clear htb;go_upto_region 3 with (fail)
   go_cut [43] (fun s wx=>s=.bool tb/\Hid (SR w b off n pre rest dk wx))
   case first=>
    by_cases hxl:x<=j
    ·have hxz:(x:Int)<=(j:Int):=by omega
     go_quiet (first|(go_at_call 140;refine Calls.quiet_of_same (less_n _ _ _)));go_wp2;go_meet;exact ⟨by rw [HXT.out,decide_eq_true hxl,Bool.true_and],hiD (HX.out.1.drewN _)⟩
    ·have hxz:¬(x:Int)<=(j:Int):=by omega
     go_quiet (first|(go_at_call 140;refine Calls.quiet_of_same (less_n _ _ _)));go_wp2;go_meet;exact ⟨by rw [HXT.out,decide_eq_false hxl,Bool.false_and],hiD (HX.out.1.drewN _)⟩
   case rest=>
    obtain ⟨rfl,HXW⟩:=hcut;clear hcw hfw
    cases tb with
    |true=>
     obtain ⟨hxl,hxp⟩:=and_parts HXT.out.symm;have HP:=hiD hxp;clear hxp;go_wp2
     go_roundw
     case rel=>exact ⟨x+1,by go_num,by omega,by omega,hiD ⟨HXW.out,by rw [<-HX.out.2,scanUp_on (fun z=>ltInt z dk[a]!) (d:=dk) hxl (by rw [<-HP.out,HG.out,HG.out])]⟩⟩
     case measure=>simp [intOf];omega
    |false=>
     have hxs:scanUp (fun z=>ltInt z dk[a]!) dk j i=x:=by
      rw [<-HX.out.2,scanUp_off (fun z=>ltInt z dk[a]!) (d:=dk) (by have:=HXT.out;rw [HG.out,HG.out] at this;exact this.symm)]
     have HXS:=hiD hxs;clear hxs;go_wp2
     go_loopw [11] (fun vj wr=>∃(z0:Nat),vj=.int .i64 (z0:Int)/\z0<=j/\x<=z0+1/\Hid (SR w b off n pre rest dk wr/\scanDown (fun z=>!ltInt z dk[a]!) dk x z0=scanDown (fun z=>!ltInt z dk[a]!) dk x j)) (fun vj _=>(intOf vj).toNat)
     case atStart=>exact ⟨j,by first|rfl|(congr 1;omega),nLr _,by omega,hiD ⟨HXW.out,rfl⟩⟩
     case round=>
      obtain ⟨y,rfl,hy1,hy2,HY⟩:=hrel;have hcw:∀t,t<n->wr.cell? ⟨b,off+t,none⟩=some (.int .u32 (G t)):=fun t ht=>by rw [HG.out];exact HY.out.1.cell ht
      have hfw:∀t,t<n->wr.frozen? ⟨b,off+t,none⟩=false:=fun t _=>HY.out.1.frozen t
      obtain ⟨tb,htb⟩:∃t,t=(decide (x<=y)&&!ltInt (G y) (G a)):=⟨_,rfl⟩;have HYT:=hiD htb;clear htb;go_upto_region 5 with (fail)
      go_cut [60] (fun s wx=>s=.bool tb/\Hid (SR w b off n pre rest dk wx))
      case first=>
       by_cases hxl:x<=y
       ·have hxz:(x:Int)<=(y:Int):=by omega
        go_quiet (first|(go_at_call 140;refine Calls.quiet_of_same (less_n _ _ _)));go_wp2;go_meet;exact ⟨by rw [HYT.out,decide_eq_true hxl,Bool.true_and],hiD (HY.out.1.drewN _)⟩
       ·have hxz:¬(x:Int)<=(y:Int):=by omega
        go_quiet (first|(go_at_call 140;refine Calls.quiet_of_same (less_n _ _ _)));go_wp2;go_meet;exact ⟨by rw [HYT.out,decide_eq_false hxl,Bool.false_and],hiD (HY.out.1.drewN _)⟩
      case rest=>
       obtain ⟨rfl,HYW⟩:=hcut;clear hcw hfw
       cases tb with
       |true=>
        obtain ⟨hxl,hxp⟩:=and_parts HYT.out.symm;have HP:=hiD hxp;clear hxp;go_wp2
        go_roundw
        case rel=>exact ⟨y - 1,by congr 1;omega,by omega,by omega,hiD ⟨HYW.out,by rw [<-HY.out.2,scanDown_on (fun z=>!ltInt z dk[a]!) (d:=dk) (by omega) hxl (by rw [<-HP.out,HG.out,HG.out])]⟩⟩
        case measure=>simp [intOf];omega
       |false=>
        have hys:scanDown (fun z=>!ltInt z dk[a]!) dk x j=y:=by
         rw [<-HY.out.2,scanDown_off (fun z=>!ltInt z dk[a]!) (d:=dk) (by have:=HYT.out;rw [HG.out,HG.out] at this;exact this.symm)]
        have HYS:=hiD hys;clear hys;have HQ:=hiD (HPS.out x y HXS.out HYS.out)
        by_cases hxy:y<x
        ·have hxz:(y:Int)<(x:Int):=by omega
         have hfin:r=(y,true,swp dk y a):=by
          rw [HQ.out,if_pos hxy]
         have HF:=hiD hfin;clear hfin;go_upto_region 8 with (fail)
         go_cut [] (fun wx=>Hid (SR w b off n pre rest (swp dk y a) wx))
         case first=>
          have hcw:∀t,t<n->wc.cell? ⟨b,off+t,none⟩=some (.int .u32 (G t)):=fun t ht=>by rw [HG.out];exact HYW.out.cell ht
          have hfw:∀t,t<n->wc.frozen? ⟨b,off+t,none⟩=false:=fun t _=>HYW.out.frozen t
          have HW:=hiD (HYW.out.swap (j:=y) (k:=a) (by omega) (by omega) 1)
          by_cases hpq:y=a
          ·subst hpq
           go_region
           all_goals go_wp2
           go_meet;refine hiD ?_;rw [HG.out];exact HW.out
          ·have hpq2:a<y:=by omega
           go_region
           all_goals go_wp2
           go_meet;refine hiD ?_;rw [HG.out,HG.out];exact HW.out
         case rest=>
          have HZ:=hcut;clear hcut;go_wp2
          go_ret2
          rw [HF.out];exact ⟨rfl,HZ.out⟩
        ·have hxz:¬(y:Int)<(x:Int):=by omega
         obtain ⟨pl,hpl⟩:∃q,q=partLoop ltInt a (x+1) (y - 1) (swp dk x y):=⟨_,rfl⟩
         have hgo:r=(pl.1,false,swp pl.2 pl.1 a):=by
          rw [HQ.out,if_neg hxy,hpl]
         have HGO:=hiD hgo;have HPL:=hiD hpl;clear hgo hpl
         have hlt:x<y:=by
          have h1:=HXT.out;have h2:=HYT.out;rw [decide_eq_true (show x<=j by omega),Bool.true_and] at h1;rw [decide_eq_true (show x<=y by omega),Bool.true_and] at h2
          rcases Nat.lt_or_ge x y with h|h
          ·exact h
          ·have e:x=y:=by omega
           rw [e] at h1;rw [<-h1] at h2
           cases h2
         go_upto_region 10 with (fail)
         go_cut [] (fun wx=>Hid (SR w b off n pre rest (swp dk x y) wx))
         case first=>
          have hcw:∀t,t<n->wc.cell? ⟨b,off+t,none⟩=some (.int .u32 (G t)):=fun t ht=>by rw [HG.out];exact HYW.out.cell ht
          have hfw:∀t,t<n->wc.frozen? ⟨b,off+t,none⟩=false:=fun t _=>HYW.out.frozen t
          have HW:=hiD (HYW.out.swap (j:=x) (k:=y) (by omega) (by omega) 1)
          go_region
          all_goals go_wp2
          go_meet;refine hiD ?_;rw [HG.out,HG.out];exact HW.out
         case rest=>
          have HZ:=hcut;clear hcut;obtain ⟨d1,hd1⟩:∃q,q=swp dk x y:=⟨_,rfl⟩;rw [<-hd1] at HZ HPL;have HX1:=hiD (show x+1<=y - 1+1 by omega);have HX2:=hiD (show a<x+1/\y - 1<e by omega);have hyy:1<=y:=by omega
          clear hd1 HG hiz hjz;go_wp2
          go_loopw [10,11] (fun vi vj wr=>∃(i j:Nat) (dk:Array Int),vi=.int .i64 (i:Int)/\vj=.int .i64 (j:Int)/\a<i/\i<=j+1/\j<e/\Hid (SR w b off n pre rest dk wr/\partLoop ltInt a i j dk=pl)) (fun vi vj _=>(intOf vj+1 - intOf vi).toNat)
          case atStart=>exact ⟨x+1,y - 1,d1,by go_num,by congr 1;omega,HX2.out.1,HX1.out,HX2.out.2,hiD ⟨HZ.out,HPL.out.symm⟩⟩
          case round=>
           clear HXS HXT HXW HX HYS HYT HYW HY HPL HZ HX1 HX2 hyy hx1 hx2 hy1 hy2 hxy hxz hlt hai hij hje;obtain ⟨i,j,dk,rfl,rfl,hai,hij,hje,HI⟩:=hrel;obtain ⟨G,hG⟩:∃G:Nat->Int,∀t,G t=dk[t]!:=⟨fun t=>dk[t]!,fun _=>rfl⟩;have HG:=hiD hG;clear hG;go_wp2
           go_loopw [10] (fun vi wr=>∃(z0:Nat),vi=.int .i64 (z0:Int)/\i<=z0/\z0<=j+1/\Hid (SR w b off n pre rest dk wr/\scanUp (fun z=>ltInt z dk[a]!) dk j z0=scanUp (fun z=>ltInt z dk[a]!) dk j i)) (fun vi _=>j+1 - (intOf vi).toNat)
           case atStart=>exact ⟨i,by first|rfl|(congr 1;omega),nLr _,by omega,hiD ⟨HI.out.1,rfl⟩⟩
           case round=>
            obtain ⟨x,rfl,hx1,hx2,HX⟩:=hrel;have hcw:∀t,t<n->wr.cell? ⟨b,off+t,none⟩=some (.int .u32 (G t)):=fun t ht=>by rw [HG.out];exact HX.out.1.cell ht
            have hfw:∀t,t<n->wr.frozen? ⟨b,off+t,none⟩=false:=fun t _=>HX.out.1.frozen t
            obtain ⟨tb,htb⟩:∃t,t=(decide (x<=j)&&ltInt (G x) (G a)):=⟨_,rfl⟩;have HXT:=hiD htb;clear htb;go_upto_region 13 with (fail)
            go_cut [112] (fun s wx=>s=.bool tb/\Hid (SR w b off n pre rest dk wx))
            case first=>
             by_cases hxl:x<=j
             ·have hxz:(x:Int)<=(j:Int):=by omega
              go_quiet (first|(go_at_call 140;refine Calls.quiet_of_same (less_n _ _ _)));go_wp2;go_meet;exact ⟨by rw [HXT.out,decide_eq_true hxl,Bool.true_and],hiD (HX.out.1.drewN _)⟩
             ·have hxz:¬(x:Int)<=(j:Int):=by omega
              go_quiet (first|(go_at_call 140;refine Calls.quiet_of_same (less_n _ _ _)));go_wp2;go_meet;exact ⟨by rw [HXT.out,decide_eq_false hxl,Bool.false_and],hiD (HX.out.1.drewN _)⟩
            case rest=>
             obtain ⟨rfl,HXW⟩:=hcut;clear hcw hfw
             cases tb with
             |true=>
              obtain ⟨hxl,hxp⟩:=and_parts HXT.out.symm;have HP:=hiD hxp;clear hxp;go_wp2
              go_roundw
              case rel=>exact ⟨x+1,by go_num,by omega,by omega,hiD ⟨HXW.out,by rw [<-HX.out.2,scanUp_on (fun z=>ltInt z dk[a]!) (d:=dk) hxl (by rw [<-HP.out,HG.out,HG.out])]⟩⟩
              case measure=>simp [intOf];omega
             |false=>
              have hxs:scanUp (fun z=>ltInt z dk[a]!) dk j i=x:=by
               rw [<-HX.out.2,scanUp_off (fun z=>ltInt z dk[a]!) (d:=dk) (by have:=HXT.out;rw [HG.out,HG.out] at this;exact this.symm)]
              have HXS:=hiD hxs;clear hxs;go_wp2
              go_loopw [11] (fun vj wr=>∃(z0:Nat),vj=.int .i64 (z0:Int)/\z0<=j/\x<=z0+1/\Hid (SR w b off n pre rest dk wr/\scanDown (fun z=>!ltInt z dk[a]!) dk x z0=scanDown (fun z=>!ltInt z dk[a]!) dk x j)) (fun vj _=>(intOf vj).toNat)
              case atStart=>exact ⟨j,by first|rfl|(congr 1;omega),nLr _,by omega,hiD ⟨HXW.out,rfl⟩⟩
              case round=>
               obtain ⟨y,rfl,hy1,hy2,HY⟩:=hrel;have hcw:∀t,t<n->wr.cell? ⟨b,off+t,none⟩=some (.int .u32 (G t)):=fun t ht=>by rw [HG.out];exact HY.out.1.cell ht
               have hfw:∀t,t<n->wr.frozen? ⟨b,off+t,none⟩=false:=fun t _=>HY.out.1.frozen t
               obtain ⟨tb,htb⟩:∃t,t=(decide (x<=y)&&!ltInt (G y) (G a)):=⟨_,rfl⟩;have HYT:=hiD htb;clear htb;go_upto_region 15 with (fail)
               go_cut [129] (fun s wx=>s=.bool tb/\Hid (SR w b off n pre rest dk wx))
               case first=>
                by_cases hxl:x<=y
                ·have hxz:(x:Int)<=(y:Int):=by omega
                 go_quiet (first|(go_at_call 140;refine Calls.quiet_of_same (less_n _ _ _)));go_wp2;go_meet;exact ⟨by rw [HYT.out,decide_eq_true hxl,Bool.true_and],hiD (HY.out.1.drewN _)⟩
                ·have hxz:¬(x:Int)<=(y:Int):=by omega
                 go_quiet (first|(go_at_call 140;refine Calls.quiet_of_same (less_n _ _ _)));go_wp2;go_meet;exact ⟨by rw [HYT.out,decide_eq_false hxl,Bool.false_and],hiD (HY.out.1.drewN _)⟩
               case rest=>
                obtain ⟨rfl,HYW⟩:=hcut;clear hcw hfw
                cases tb with
                |true=>
                 obtain ⟨hxl,hxp⟩:=and_parts HYT.out.symm;have HP:=hiD hxp;clear hxp;go_wp2
                 go_roundw
                 case rel=>exact ⟨y - 1,by congr 1;omega,by omega,by omega,hiD ⟨HYW.out,by rw [<-HY.out.2,scanDown_on (fun z=>!ltInt z dk[a]!) (d:=dk) (by omega) hxl (by rw [<-HP.out,HG.out,HG.out])]⟩⟩
                 case measure=>simp [intOf];omega
                |false=>
                 have hys:scanDown (fun z=>!ltInt z dk[a]!) dk x j=y:=by
                  rw [<-HY.out.2,scanDown_off (fun z=>!ltInt z dk[a]!) (d:=dk) (by have:=HYT.out;rw [HG.out,HG.out] at this;exact this.symm)]
                 have HYS:=hiD hys;clear hys;have hstep:=partLoop_eq ltInt a i j dk;rw [HXS.out,HYS.out] at hstep;have HST:=hiD hstep;clear hstep
                 by_cases hxy:y<x
                 ·have hxz:(y:Int)<(x:Int):=by omega
                  have hfin:r=(y,false,swp dk y a):=by
                   rw [HGO.out,<-HI.out.2,HST.out,if_pos hxy]
                  have HF:=hiD hfin;clear hfin;go_upto_region 21 with (fail)
                  go_cut [] (fun wx=>Hid (SR w b off n pre rest (swp dk y a) wx))
                  case first=>
                   have hcw:∀t,t<n->wc.cell? ⟨b,off+t,none⟩=some (.int .u32 (G t)):=fun t ht=>by rw [HG.out];exact HYW.out.cell ht
                   have hfw:∀t,t<n->wc.frozen? ⟨b,off+t,none⟩=false:=fun t _=>HYW.out.frozen t
                   have HW:=hiD (HYW.out.swap (j:=y) (k:=a) (by omega) (by omega) 1)
                   by_cases hpq:y=a
                   ·subst hpq
                    go_region
                    all_goals go_wp2
                    go_meet;refine hiD ?_;rw [HG.out];exact HW.out
                   ·have hpq2:a<y:=by omega
                    go_region
                    all_goals go_wp2
                    go_meet;refine hiD ?_;rw [HG.out,HG.out];exact HW.out
                  case rest=>
                   have HZ:=hcut;clear hcut;go_wp2
                   go_ret2
                   rw [HF.out];exact ⟨rfl,HZ.out⟩
                 ·have hxz:¬(y:Int)<(x:Int):=by omega
                  have hgo:partLoop ltInt a (x+1) (y - 1) (swp dk x y)=pl:=by
                   rw [<-HI.out.2,HST.out,if_neg hxy]
                  have HGN:=hiD hgo;clear hgo
                  have hlt:x<y:=by
                   have h1:=HXT.out;have h2:=HYT.out;rw [decide_eq_true (show x<=j by omega),Bool.true_and] at h1;rw [decide_eq_true (show x<=y by omega),Bool.true_and] at h2
                   rcases Nat.lt_or_ge x y with h|h
                   ·exact h
                   ·have e:x=y:=by omega
                    rw [e] at h1;rw [<-h1] at h2
                    cases h2
                  go_upto_region 18 with (fail)
                  go_cut [] (fun wx=>Hid (SR w b off n pre rest (swp dk x y) wx))
                  case first=>
                   have hcw:∀t,t<n->wc.cell? ⟨b,off+t,none⟩=some (.int .u32 (G t)):=fun t ht=>by rw [HG.out];exact HYW.out.cell ht
                   have hfw:∀t,t<n->wc.frozen? ⟨b,off+t,none⟩=false:=fun t _=>HYW.out.frozen t
                   have HW:=hiD (HYW.out.swap (j:=x) (k:=y) (by omega) (by omega) 1)
                   go_region
                   all_goals go_wp2
                   go_meet;refine hiD ?_;rw [HG.out,HG.out];exact HW.out
                  case rest=>
                   have HZ:=hcut;clear hcut;go_wp2
                   go_roundw
                   case rel=>exact ⟨x+1,y - 1,swp dk x y,by go_num,by congr 1;omega,by omega,by omega,by omega,hiD ⟨HZ.out,HGN.out⟩⟩
                   case measure=>simp [intOf];omega
section
variable (lt:Int->Int->Bool) {d:Array Int}
theorem scanS_on {e i:Nat} (h:i<e) (hp:(!lt d[i]! d[i - 1]!)=true):scanSorted lt d e i=scanSorted lt d e (i+1):=by
 conv=>lhs;rw [scanSorted]
 rw [if_pos (by rw [hp,Bool.and_true];exact decide_eq_true h)]
theorem scanS_off {e i:Nat} (h:(decide (i<e)&&!lt d[i]! d[i - 1]!)=false):scanSorted lt d e i=i:=by
 rw [scanSorted,if_neg (by rw [h];exact Bool.false_ne_true)]
theorem shiftD_on {j:Nat} (h1:1<=j) (hp:lt d[j]! d[j - 1]! =true):shiftDown lt j d=shiftDown lt (j - 1) (swp d j (j - 1)):=by
 cases j with
 |zero=>omega
 |succ k=>
  have hp':lt d[k+1]! d[k]! =true:=hp
  conv=>lhs;rw [shiftDown]
  rw [if_neg (by rw [hp'];simp)]
  rfl
theorem shiftD_off {j:Nat} (h:j=0\/lt d[j]! d[j - 1]! =false):shiftDown lt j d=d:=by
 cases j with
 |zero=>rfl
 |succ k=>
  have hp':lt d[k+1]! d[k]! =false:=by
   rcases h with h|h
   ·cases h
   ·exact h
  rw [shiftDown,if_pos (by rw [hp'];rfl)]
theorem shiftU_on {e j:Nat} (h:j<e) (hp:lt d[j]! d[j - 1]! =true):shiftUp lt e j d=shiftUp lt e (j+1) (swp d j (j - 1)):=by
 conv=>lhs;rw [shiftUp]
 rw [if_pos h,if_neg (by rw [hp];simp)]
theorem shiftU_off {e j:Nat} (h:¬j<e\/lt d[j]! d[j - 1]! =false):shiftUp lt e j d=d:=by
 rw [shiftUp]
 by_cases hj:j<e
 ·rw [if_pos hj,if_pos (by rcases h with h|h;exact absurd hj h;rw [h];rfl)]
 ·rw [if_neg hj]
end
theorem pins_n {w W0:World} {b off n:Nat} {pre rest:List Value} {d:Array Int} (cap a e:Nat) (hs:SR w b off n pre rest d W0) (hae:a<e) (he:e<=n) (hsz:n<1152921504606846976):
 Calls Tryz.prog 139 #[.slice (some ⟨b,off,none⟩) n cap,.int .i64 (a:Int),.int .i64 (e:Int)] W0 fun x W=>x=.returned (.bool (partialInsertionSort ltInt d a e).2)/\SR w b off n pre rest (partialInsertionSort ltInt d a e).1 W:=by
 have HS:=hiD hs;obtain ⟨r,hr⟩:∃r,r=partialInsertionSort ltInt d a e:=⟨_,rfl⟩;rw [<-hr];have HR:=hiD hr;clear hs hr;go_enter Tryz.func139,Tryz.ntmps139;go_wp2
 go_loopw [7,8] (fun vi vs wr=>∃(i s:Nat) (dk:Array Int),vi=.int .i64 (i:Int)/\vs=.int .i64 (s:Int)/\a<i/\i<=e/\s<=5/\Hid (SR w b off n pre rest dk wr/\partialIns ltInt a e (5 - s) i dk=r)) (fun _ vs _=>5 - (intOf vs).toNat)
 case atStart=>exact ⟨a+1,0,d,by go_num,rfl,by omega,by omega,by omega,hiD ⟨HS.out,by rw [HR.out];rfl⟩⟩
 case round=>
  obtain ⟨i,s,dk,rfl,rfl,hai,hie,hs5,HI⟩:=hrel
  by_cases hs4:s<5
  ·have hsz4:(s:Int)<5:=by omega
   obtain ⟨m,hm⟩:∃m,5 - s=m+1:=⟨4 - s,by omega⟩;have hm2:5 - (s+1)=m:=by omega
   have HM:=hiD hm2;have hro:partialIns ltInt a e (m+1) i dk=r:=by rw [<-hm];exact HI.out.2
   have HRO:=hiD hro;clear hm hm2 hro;obtain ⟨G,hG⟩:∃G:Nat->Int,∀t,G t=dk[t]!:=⟨fun t=>dk[t]!,fun _=>rfl⟩;have HG:=hiD hG;clear hG;go_wp2
   go_loopw [7] (fun vi wr=>∃(z0:Nat),vi=.int .i64 (z0:Int)/\i<=z0/\z0<=e/\Hid (SR w b off n pre rest dk wr/\scanSorted ltInt dk e z0=scanSorted ltInt dk e i)) (fun vi _=>e - (intOf vi).toNat)
   case atStart=>exact ⟨i,rfl,nLr _,hie,hiD ⟨HI.out.1,rfl⟩⟩
   case round=>
    obtain ⟨x,rfl,hx1,hx2,HX⟩:=hrel;have hcw:∀t,t<n->wr.cell? ⟨b,off+t,none⟩=some (.int .u32 (G t)):=fun t ht=>by rw [HG.out];exact HX.out.1.cell ht
    have hfw:∀t,t<n->wr.frozen? ⟨b,off+t,none⟩=false:=fun t _=>HX.out.1.frozen t
    obtain ⟨tb,htb⟩:∃t,t=(decide (x<e)&&!ltInt (G x) (G (x - 1))):=⟨_,rfl⟩;have HXT:=hiD htb;clear htb;go_upto_region 5 with (fail)
    go_cut [32] (fun s wx=>s=.bool tb/\Hid (SR w b off n pre rest dk wx))
    case first=>
     by_cases hxl:x<e
     ·have hxz:(x:Int)<(e:Int):=by omega
      go_quiet (first|(go_at_call 140;refine Calls.quiet_of_same (less_n _ _ _)));go_wp2;go_meet;exact ⟨by rw [HXT.out,decide_eq_true hxl,Bool.true_and],hiD (HX.out.1.drewN _)⟩
     ·have hxz:¬(x:Int)<(e:Int):=by omega
      go_quiet (first|(go_at_call 140;refine Calls.quiet_of_same (less_n _ _ _)));go_wp2;go_meet;exact ⟨by rw [HXT.out,decide_eq_false hxl,Bool.false_and],hiD (HX.out.1.drewN _)⟩
    case rest=>
     obtain ⟨rfl,HXW⟩:=hcut;clear hcw hfw
     cases tb with
     |true=>
      obtain ⟨hxl,hxp⟩:=and_parts HXT.out.symm;have HP:=hiD hxp;clear hxp;go_wp2
      go_roundw
      case rel=>exact ⟨x+1,by go_num,by omega,by omega,hiD ⟨HXW.out,by rw [<-HX.out.2,scanS_on ltInt (d:=dk) hxl (by rw [<-HG.out,<-HG.out];exact HP.out)]⟩⟩
      case measure=>simp [intOf];omega
     |false=>
      have hxs:scanSorted ltInt dk e i=x:=by
       rw [<-HX.out.2,scanS_off ltInt (d:=dk) (by have:=HXT.out;rw [HG.out,HG.out] at this;exact this.symm)]
      have HXS:=hiD hxs;have hst:=partialIns_succ (lt:=ltInt) a e m i dk;rw [hxs,HRO.out] at hst;have HST:=hiD hst;clear hxs hst
      by_cases hxe:x=e
      ·subst hxe;have hf:r=(dk,true):=by rw [HST.out,if_pos rfl]
       have HF:=hiD hf;clear hf;go_wp2;go_ret;rw [HF.out];exact ⟨rfl,HXW.out⟩
      ·have hxez:¬(x:Int)=(e:Int):=by omega
       by_cases h50:e - a<50
       ·have h50z:(e:Int) - (a:Int)<50:=by omega
        have hf:r=(dk,false):=by rw [HST.out,if_neg hxe,if_pos h50]
        have HF:=hiD hf;clear hf;go_wp2;go_ret;rw [HF.out];exact ⟨rfl,HXW.out⟩
       ·have h50z:¬(e:Int) - (a:Int)<50:=by omega
        obtain ⟨y,hy⟩:∃y,y=x - 1:=⟨_,rfl⟩;have hyz:(x:Int) - 1=(y:Int):=by omega
        have hyx:y<x:=by omega
        have hay:a<=y:=by omega
        obtain ⟨d1,hd1⟩:∃q,q=swp dk x y:=⟨_,rfl⟩;obtain ⟨d2,hd2⟩:∃q,q=if x - a>=2 then shiftDown ltInt y d1 else d1:=⟨_,rfl⟩;obtain ⟨d3,hd3⟩:∃q,q=if e - x>=2 then shiftUp ltInt e (x+1) d2 else d2:=⟨_,rfl⟩
        have hgo:partialIns ltInt a e m x d3=r:=by
         rw [HST.out,if_neg hxe,if_neg h50,hd3,hd2,hd1,hy]
         rfl
        have HGO:=hiD hgo;have HD1:=hiD hd1;have HD2:=hiD hd2;have HD3:=hiD hd3;have hxn:x<e:=by omega
        clear hgo hd1 hd2 hd3 hy HST HXS HXT h50 hxe;go_upto_region 11 with (fail)
        go_cut [] (fun wx=>Hid (SR w b off n pre rest (swp dk x y) wx))
        case first=>
         have hcw:∀t,t<n->wc.cell? ⟨b,off+t,none⟩=some (.int .u32 (G t)):=fun t ht=>by rw [HG.out];exact HXW.out.cell ht
         have hfw:∀t,t<n->wc.frozen? ⟨b,off+t,none⟩=false:=fun t _=>HXW.out.frozen t
         have HW:=hiD (HXW.out.swap (j:=x) (k:=y) (by omega) (by omega) 1)
         go_region
         all_goals go_wp2
         go_meet;refine hiD ?_;rw [HG.out,HG.out];exact HW.out
        case rest=>
         have HZ:=hcut;clear hcut;rw [<-HD1.out] at HZ;clear HG HX HI HRO HXW HD1
         go_upto_if 61 with (fail)
         go_cut [9] (fun _ wx=>Hid (SR w b off n pre rest d2 wx))
         case first=>
          by_cases hx2a:x - a>=2
          ·have hx2z:2<=(x:Int) - (a:Int):=by omega
           have hdd:d2=shiftDown ltInt y d1:=by rw [HD2.out,if_pos hx2a]
           have HDD:=hiD hdd;clear hdd;go_wp2
           go_loopw [9] (fun vj wr=>∃(z0:Nat) (dj:Array Int),vj=.int .i64 (z0:Int)/\z0<=y/\Hid (SR w b off n pre rest dj wr/\shiftDown ltInt z0 dj=d2)) (fun vj _=>(intOf vj).toNat)
           case atStart=>exact ⟨y,d1,rfl,nLr _,hiD ⟨HZ.out,HDD.out.symm⟩⟩
           case round=>
            obtain ⟨u,dk,rfl,huy,HU⟩:=hrel
            by_cases hu1:1<=u
            ·have hu1z:(1:Int)<=(u:Int):=by omega
             obtain ⟨v,hv⟩:∃v,v=u - 1:=⟨_,rfl⟩;have hvz:(u:Int) - 1=(v:Int):=by omega
             have hvu:v<u:=by omega
             have HV:=hiD hv;clear hv;obtain ⟨G,hG⟩:∃G:Nat->Int,∀t,G t=dk[t]!:=⟨fun t=>dk[t]!,fun _=>rfl⟩;have HG:=hiD hG;clear hG;have hcw:∀t,t<n->wr.cell? ⟨b,off+t,none⟩=some (.int .u32 (G t)):=fun t ht=>by rw [HG.out];exact HU.out.1.cell ht
             have hfw:∀t,t<n->wr.frozen? ⟨b,off+t,none⟩=false:=fun t _=>HU.out.1.frozen t
             go_upto_region 16 with (fail)
             cases hl:ltInt (G u) (G v) with
             |true=>
              have hstep:shiftDown ltInt v (swp dk u v)=d2:=by
               rw [<-HU.out.2,shiftD_on ltInt (d:=dk) hu1 (by rw [<-HV.out,<-HG.out,<-HG.out];exact hl),HV.out]
              have HSTP:=hiD hstep;clear hstep;go_quiet (first|(go_at_call 140;refine Calls.quiet_of_same (less_n _ _ _)));go_wp2
              go_region
              all_goals go_wp2
              go_roundw
              case rel=>
               refine ⟨v,swp dk u v,rfl,by omega,hiD ⟨?_,HSTP.out⟩⟩;rw [HG.out,HG.out];exact HU.out.1.swap (by omega) (by omega) (nq+1)
              case measure=>simp [intOf];omega
             |false=>
              have hstep:dk=d2:=by
               rw [<-HU.out.2,shiftD_off ltInt (d:=dk) (.inr (by rw [<-HV.out,<-HG.out,<-HG.out];exact hl))]
              have HSTP:=hiD hstep;clear hstep;go_quiet (first|(go_at_call 140;refine Calls.quiet_of_same (less_n _ _ _)));go_wp2;go_meet;exact hiD (by rw [<-HSTP.out];exact HU.out.1.drewN _)
            ·have hu1z:¬(1:Int)<=(u:Int):=by omega
             have hstep:dk=d2:=by
              rw [<-HU.out.2,shiftD_off ltInt (d:=dk) (.inl (by omega))]
             have HSTP:=hiD hstep;clear hstep;go_wp2;go_meet;exact hiD (by rw [<-HSTP.out];exact HU.out.1)
          ·have hx2z:¬2<=(x:Int) - (a:Int):=by omega
           have hdd:d1=d2:=by rw [HD2.out,if_neg hx2a]
           have HDD:=hiD hdd;clear hdd;go_wp2;go_meet;exact hiD (by rw [<-HDD.out];exact HZ.out)
         case rest=>
          have HZ2:=hcut;clear hcut HZ HD2 hyz
          by_cases hx2a:e - x>=2
          ·have hx2z:2<=(e:Int) - (x:Int):=by omega
           have hdd:d3=shiftUp ltInt e (x+1) d2:=by rw [HD3.out,if_pos hx2a]
           have HDD:=hiD hdd;clear hdd;go_wp2
           go_loopw [10] (fun vj wr=>∃(z0:Nat) (dj:Array Int),vj=.int .i64 (z0:Int)/\x<z0/\z0<=e/\Hid (SR w b off n pre rest dj wr/\shiftUp ltInt e z0 dj=d3)) (fun vj _=>e - (intOf vj).toNat)
           case atStart=>exact ⟨x+1,d2,by go_num,by omega,by omega,hiD ⟨HZ2.out,HDD.out.symm⟩⟩
           case round=>
            obtain ⟨u,dk,rfl,hux,hue,HU⟩:=hrel
            by_cases hu1:u<e
            ·have hu1z:(u:Int)<(e:Int):=by omega
             obtain ⟨v,hv⟩:∃v,v=u - 1:=⟨_,rfl⟩;have hvz:(u:Int) - 1=(v:Int):=by omega
             have hvu:v<u:=by omega
             have HV:=hiD hv;clear hv;obtain ⟨G,hG⟩:∃G:Nat->Int,∀t,G t=dk[t]!:=⟨fun t=>dk[t]!,fun _=>rfl⟩;have HG:=hiD hG;clear hG;have hcw:∀t,t<n->wr.cell? ⟨b,off+t,none⟩=some (.int .u32 (G t)):=fun t ht=>by rw [HG.out];exact HU.out.1.cell ht
             have hfw:∀t,t<n->wr.frozen? ⟨b,off+t,none⟩=false:=fun t _=>HU.out.1.frozen t
             go_upto_region 22 with (fail)
             cases hl:ltInt (G u) (G v) with
             |true=>
              have hstep:shiftUp ltInt e (u+1) (swp dk u v)=d3:=by
               rw [<-HU.out.2,shiftU_on ltInt (d:=dk) hu1 (by rw [<-HV.out,<-HG.out,<-HG.out];exact hl),HV.out]
              have HSTP:=hiD hstep;clear hstep;go_quiet (first|(go_at_call 140;refine Calls.quiet_of_same (less_n _ _ _)));go_wp2
              go_region
              all_goals go_wp2
              go_roundw
              case rel=>
               refine ⟨u+1,swp dk u v,by go_num,by omega,by omega,hiD ⟨?_,HSTP.out⟩⟩;rw [HG.out,HG.out];exact HU.out.1.swap (by omega) (by omega) (nq+1)
              case measure=>simp [intOf];omega
             |false=>
              have hstep:dk=d3:=by
               rw [<-HU.out.2,shiftU_off ltInt (d:=dk) (.inr (by rw [<-HV.out,<-HG.out,<-HG.out];exact hl))]
              have HSTP:=hiD hstep;clear hstep;go_quiet (first|(go_at_call 140;refine Calls.quiet_of_same (less_n _ _ _)));go_wp2
              go_roundw
              case rel=>exact ⟨x,s+1,d3,rfl,by go_num,by omega,by omega,by omega,hiD ⟨(by rw [<-HSTP.out];exact HU.out.1.drewN _),by rw [HM.out];exact HGO.out⟩⟩
              case measure=>simp [intOf];omega
            ·have hu1z:¬(u:Int)<(e:Int):=by omega
             have hstep:dk=d3:=by
              rw [<-HU.out.2,shiftU_off ltInt (d:=dk) (.inl hu1)]
             have HSTP:=hiD hstep;clear hstep;go_wp2
             go_roundw
             case rel=>exact ⟨x,s+1,d3,rfl,by go_num,by omega,by omega,by omega,hiD ⟨(by rw [<-HSTP.out];exact HU.out.1),by rw [HM.out];exact HGO.out⟩⟩
             case measure=>simp [intOf];omega
          ·have hx2z:¬2<=(e:Int) - (x:Int):=by omega
           have hdd:d2=d3:=by rw [HD3.out,if_neg hx2a]
           have HDD:=hiD hdd;clear hdd;go_wp2
           go_roundw
           case rel=>exact ⟨x,s+1,d3,rfl,by go_num,by omega,by omega,by omega,hiD ⟨(by rw [<-HDD.out];exact HZ2.out),by rw [HM.out];exact HGO.out⟩⟩
           case measure=>simp [intOf];omega
  ·have hsz4:¬(s:Int)<5:=by omega
   have hf:r=(dk,false):=by
    rw [<-HI.out.2,show 5 - s=0 by omega]
    rfl
   have HF:=hiD hf;clear hf;go_wp2;go_ret;rw [HF.out];exact ⟨rfl,HI.out.1⟩
theorem rev_n {w W0:World} {b off n:Nat} {pre rest:List Value} {d:Array Int} (cap a e:Nat) (hs:SR w b off n pre rest d W0) (hae:a<e) (he:e<=n) (hsz:n<1152921504606846976):
 Calls Tryz.prog 138 #[.slice (some ⟨b,off,none⟩) n cap,.int .i64 (a:Int),.int .i64 (e:Int)] W0 fun x W=>x=.returned (.tuple #[])/\SR w b off n pre rest (reverseRange d a e) W:=by
 have HS:=hiD hs;clear hs;go_enter Tryz.func138,Tryz.ntmps138;go_wp2
 go_loopw [6,7] (fun vi vj wr=>∃(i j:Nat) (dk:Array Int),vi=.int .i64 (i:Int)/\vj=.int .i64 (j:Int)/\j<e/\i<=e/\Hid (SR w b off n pre rest dk wr/\reverseLoop i j dk=reverseRange d a e)) (fun vi vj _=>(intOf vj).toNat - (intOf vi).toNat)
 case atStart=>exact ⟨a,e - 1,d,rfl,by congr 1;omega,by omega,by omega,hiD ⟨HS.out,rfl⟩⟩
 case round=>
  obtain ⟨i,j,dk,rfl,rfl,hje,hie,HI⟩:=hrel
  by_cases hlt:i<j
  ·have hlz:(i:Int)<(j:Int):=by omega
   obtain ⟨G,hG⟩:∃G:Nat->Int,∀t,G t=dk[t]!:=⟨fun t=>dk[t]!,fun _=>rfl⟩;have HG:=hiD hG;clear hG;have hcw:∀t,t<n->wr.cell? ⟨b,off+t,none⟩=some (.int .u32 (G t)):=fun t ht=>by rw [HG.out];exact HI.out.1.cell ht
   have hfw:∀t,t<n->wr.frozen? ⟨b,off+t,none⟩=false:=fun t _=>HI.out.1.frozen t
   go_wp2
   go_region
   all_goals go_wp2
   go_roundw
   case rel=>
    refine ⟨i+1,j - 1,swp dk i j,by go_num,by congr 1;omega,by omega,by omega,hiD ⟨?_,?_⟩⟩
    ·rw [HG.out,HG.out];exact HI.out.1.swap (by omega) (by omega) 1
    ·rw [<-HI.out.2]
     conv=>rhs;rw [reverseLoop,if_pos hlt]
   case measure=>simp [intOf];omega
  ·have hlz:¬(i:Int)<(j:Int):=by omega
   have hstep:dk=reverseRange d a e:=by
    rw [<-HI.out.2,reverseLoop,if_neg hlt]
   have HST:=hiD hstep;clear hstep;go_wp2;go_end0;exact ⟨rfl,by rw [<-HST.out];exact HI.out.1⟩
end Go.Proofs.YtfjmdkhemnmkpaaGreatDoor
