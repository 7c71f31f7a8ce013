/- spec.l3Draw: some data in memory of the call's own. Condition: the code's bytes can be read. -/
import Derived.Test.YtjmlfacbcfbhdaaGreatDoorYA
import Derived.Test.YtjmlfacbcfbhdaaGreatDoorY14
import Derived.Deep.CutRange
import Derived.Deep.CutBlock
import Derived.Deep.RegionLaw
set_option maxRecDepth 100000
set_option maxHeartbeats 8000000
namespace Go.Proofs.YtjmlfacbcfbhdaaGreatDoor
open Go.ChangeShapes Go.WideShapes Go.ChangeAt Go.RowKit
theorem jck {w w':World} {b:Nat} (h:w'.heap[b]? = w.heap[b]?) (o:Nat):w'.frozen? ⟨b,o,none⟩=w.frozen? ⟨b,o,none⟩:=by
 simp [World.frozen?,h]
theorem jiD (w:World) (zs:List Int) (cs:Array Value) (t:TypeId) (h:cs=(zs.map (Value.int .i64)).toArray):jlE w.heap.size zs (w.alloc (.cells cs t)):=by
 rw [h]
 intro j hj
 rw [World.cell?_alloc_mark]
 simp [List.getElem?_map,List.getElem?_eq_getElem hj,List.getD_eq_getElem?_getD]
def jgS:List ByteArray:=[⟨#[]⟩,⟨#[120]⟩,⟨#[65]⟩,⟨#[45,49]⟩]
theorem jgT:∀ z∈jgS,z.size≤2:=by decide
theorem jlX (c:Nat) (a:Option Addr) (len cap:Nat) (w:World) (hc:CurAt c a len cap w) :
  Calls Tryz.prog 62 #[.pointer (some ⟨c,0,none⟩)] w fun e w'=>∃ v,e=.returned v∧Drawn3 w w' c a len cap v:=by
 have HCW:Hid (c<w.heap.size):=hc.lt
 go_enter Tryz.func62,Tryz.ntmps62
 go_wp2_with fail
 refine (jem c a len cap w hc).mono ?_
 rintro e w1 ⟨⟨s,hs,rfl⟩,hx1,hcur1⟩
 have HE1:Hid (Ext c w w1):=hx1
 clear hx1 hc
 go_wp2_with fail
 refine (jjQ s (by omega) w1).mono ?_
 rintro e w2 ⟨hb2,hsay⟩
 have hcur2:CurAt c a len cap w2:=hcur1.below hb2
 have HE2:Hid (Ext c w w2):=HE1.out.trans (Ext.of_below hb2 (nlr _))
 have HS1:Hid (w.heap.size≤w1.heap.size):=HE1.out.size
 generalize hr:jeR s=res at hsay
 have HR:Hid (jeR s=res):=hr
 clear hr hcur1 hb2 hs
 have done0:∀ p q,Drawn3 w w2 c a len cap (.slice p 0 q):=fun p q=>⟨⟨0,fun _=>.no,.inl ⟨rfl,p,q,rfl⟩,by simp [jah,jao]⟩,HE2.out,hcur2⟩
 cases res with
 | bad p =>
  obtain ⟨q,cc,rfl⟩:=hsay
  have HD:=done0 q cc
  clear done0 hcur2
  go_wp2_with fail
  go_ret
  exact ⟨_,rfl,HD⟩
 | ok ds r =>
  obtain ⟨v,rfl,hsl,hown⟩:=hsay
  by_cases hd:ds=[]
  ·subst hd
   obtain ⟨p,q,hv⟩:=hsl.shape
   subst hv
   have HD:=done0 p q
   clear done0 hcur2 hown hsl
   go_wp2_with fail
   go_ret
   exact ⟨_,rfl,HD⟩
  ·obtain ⟨S,hS,hn,hB⟩:=hown hd
   have hpos:0<ds.length:=List.length_pos_iff.2 hd
   have HBB:Hid (Base3 w w2 c ds.length (jav ds) v S):=⟨hn,fun b h=>Nat.le_trans HS1.out (hB b h),HCW.out,jeN s ds r HR.out,HE2.out⟩
   have hwl:ds.length≤52000:=by have:=HBB.out.wt;unfold jah at this;omega
   clear hown hsl hn hB hd HR HE2 HE1 HS1 done0
   generalize jav ds=kid at *
   generalize ds.length=n at *
   obtain ⟨g0,cap0,l0,SS0,hr0⟩:=hS.row hpos
   have hv:=hr0.val
   clear hr0
   subst hv
   have HS:Hid (SOwn w2 n kid (.slice (some ⟨g0,0,none⟩) n cap0) S):=hS
   have HB:Hid (Base3 w w2 c n kid (.slice (some ⟨g0,0,none⟩) n cap0) S):=HBB.out
   clear hS HBB
   go_wp2_with fail
   refine (jaK c a len cap (n:Int) (by omega) _ hcur2).mono ?_
   rintro e w3 ⟨⟨z,z0,_,z1,rfl⟩,hx3,hcur3⟩
   have hzn:=z1 (by omega)
   obtain ⟨zn,rfl⟩:∃ k:Nat,z=k:=⟨z.toNat,by omega⟩
   have HE3:Hid (Ext c w2 w3):=hx3
   have HN0:Hid (∃ x u T,NodeAt w2 (jcG n kid) (.slice (some ⟨g0,0,none⟩) n cap0) S g0 zn x u T):=by
    obtain ⟨g,cp,u,T,hv,hN⟩:=jmz HS.out (j:=zn) (by omega)
    simp only [Value.slice.injEq,Option.some.injEq,Addr.mk.injEq,and_true,true_and] at hv
    obtain ⟨rfl,rfl⟩:=hv
    exact ⟨_,u,T,hN⟩
   clear z1 hx3 hcur2
   go_upto_block 0 with fail
   go_cut [5,6] from 23 to 51 (fun d i wx=>(∃ z:Int,i=.int .i64 z)∧∃ g j:Nat,d=.pointer (some ⟨g,j*5,none⟩)∧(∃ x u T,NodeAt w2 (jcG n kid) (.slice (some ⟨g0,0,none⟩) n cap0) S g j x u T)∧Ext c w2 wx∧CurAt c a len cap wx)
   case first =>
    go_wp2_with fail
    go_loopw [5,6] (fun d i wr=>∃ k g j:Nat,d=.pointer (some ⟨g,j*5,none⟩)∧i=.int .i64 k∧k≤6∧(∃ x u T,NodeAt w2 (jcG n kid) (.slice (some ⟨g0,0,none⟩) n cap0) S g j x u T)∧Ext c w2 wr∧CurAt c a len cap wr) (fun _ i _=>6-(intOf i).toNat)
    case atStart=>exact ⟨0,g0,zn,rfl,rfl,by omega,HN0.out,HE3.out,hcur3⟩
    case round =>
     obtain ⟨k,g,j,rfl,rfl,hk,⟨x,u,T,hN⟩,hex,hcurX⟩:=hrel
     have HN:Hid (NodeAt w2 (jcG n kid) (.slice (some ⟨g0,0,none⟩) n cap0) S g j x u T):=hN
     have HEX:Hid (Ext c w2 wr):=hex
     have HHD:Hid (Head w2 g (j*5) x u):=hN.cells.1
     have HGL:Hid (g<w2.heap.size∧g≠c):=⟨wbl w2 _ HHD.out.c0,by have:=HB.out.up g hN.facts.2.1;have:=HB.out.cw;omega⟩
     have hxw:x.len≤60000:=by
      have h1:=hN.weight
      have h2:=x.len_weight
      have h3:=HB.out.wt
      have e2:(jcG n kid).weight=jah n kid:=by rw [D.weight_eq];exact Nat.zero_add _
      omega
     obtain ⟨pu,cu,hu⟩:=hN.facts.1.in'.sl.shape
     clear hN hex hcur3 HN0 HE3
     by_cases hk6:k<6
     ·have d6:decide (k<6)=true:=by simpa using hk6
      have q4:=(ja6 (HEX.out.block g HGL.out.1 HGL.out.2) _).trans HHD.out.c4
      by_cases hx0:0<x.len
      ·have dx:decide (0<x.len)=true:=by simpa using hx0
       clear hu
       obtain ⟨g2,cap2,u2,T2,hu2,-⟩:=HN.out.step (k:=0) hx0
       have HST:Hid (∀ k,k<x.len→∃ x' u' T',NodeAt w2 (jcG n kid) (.slice (some ⟨g0,0,none⟩) n cap0) S g2 k x' u' T'):=by
        intro k hk
        obtain ⟨g3,cap3,u3,T3,hu3,h3⟩:=HN.out.step (k:=k) hk
        rw [hu2] at hu3
        simp only [Value.slice.injEq,Option.some.injEq,Addr.mk.injEq,and_true,true_and] at hu3
        obtain ⟨rfl,rfl⟩:=hu3
        exact ⟨_,_,_,h3⟩
       clear pu cu
       subst hu2
       go_wp2_with fail
       refine (jgr c a len cap 4 (by omega) _ hcurX).mono ?_
       rintro e w4 ⟨⟨bb,rfl⟩,hx4,hcur4⟩
       have HE4:Hid (Ext c w2 w4):=HEX.out.trans hx4
       have p4:=(ja6 (HE4.out.block g HGL.out.1 HGL.out.2) _).trans HHD.out.c4
       clear hcurX hx4 HEX q4
       cases bb
       ·go_wp2_with fail
        go_region_held3 (fun w'=>w'.cell? ⟨g,j*5+4,none⟩=some (.slice (some ⟨g2,0,none⟩) x.len cap2))
         (first|go_keep|exact hs3)
         ((go_at_call 15;refine (jaK c a len cap (x.len:Int) (by omega) _ (by exact hcur4)).mono ?_;rintro e w5 ⟨⟨y,y0,_,y1,rfl⟩,hx5,hcur5⟩;have hyl:=y1 (by omega);obtain ⟨yn,rfl⟩:∃ k:Nat,y=k:=⟨y.toNat,by omega⟩;have hs3:w5.cell? ⟨g,j*5+4,none⟩=some (.slice (some ⟨g2,0,none⟩) x.len cap2):=(ja6 (hx5.block g (nll HGL.out.1 HE4.out.size) HGL.out.2) _).trans p4))
        all_goals
         have HE5:Hid (Ext c w2 w5):=HE4.out.trans ⟨hx5.os,hx5.tape,hx5.output,hx5.size,hx5.block⟩
         clear hcur4 hx5 y1 HE4 p4 hs3
         go_wp2_with fail
         go_roundw
         case rel=>exact ⟨k+1,g2,yn,rfl,by go_num,by omega,HST.out yn (by omega),HE5.out,hcur5⟩
         case measure=>simp [intOf];omega
       ·go_wp2_with fail
        go_meet
        case rel=>exact ⟨⟨_,rfl⟩,g,j,rfl,⟨_,_,_,HN.out⟩,HE4.out,hcur4⟩
      ·have dx:decide (0<x.len)=false:=by simpa using hx0
       subst hu
       go_wp2_with fail
       go_meet
       case rel=>exact ⟨⟨_,rfl⟩,g,j,rfl,⟨_,_,_,HN.out⟩,HEX.out,hcurX⟩
     ·have d6:decide (k<6)=false:=by simpa using hk6
      subst hu
      go_wp2_with fail
      go_meet
      case rel=>exact ⟨⟨_,rfl⟩,g,j,rfl,⟨_,_,_,HN.out⟩,HEX.out,hcurX⟩
   case rest =>
    obtain ⟨⟨kz,rfl⟩,g,j,rfl,⟨x,u,T,hN⟩,hex,hcurX⟩:=hcut
    have HN:Hid (NodeAt w2 (jcG n kid) (.slice (some ⟨g0,0,none⟩) n cap0) S g j x u T):=hN
    have HEX:Hid (Ext c w2 wc):=hex
    have HPL:Hid (x.s.size≤maxLen∧-9223372036854775808≤x.n∧x.n≤9223372036854775807):=hN.facts.1.plain
    have HHD:Hid (Head w2 g (j*5) x u):=hN.cells.1
    have HFR:Hid (∀ k,w2.frozen? ⟨g,k,none⟩=false):=hN.cells.2
    have HGL:Hid (g<w2.heap.size∧g≠c):=⟨wbl w2 _ HHD.out.c0,by have:=HB.out.up g hN.facts.2.1;have:=HB.out.cw;omega⟩
    have hxw:x.len≤60000:=by
     have h1:=hN.weight
     have h2:=x.len_weight
     have h3:=HB.out.wt
     have e2:(jcG n kid).weight=jah n kid:=by rw [D.weight_eq];exact Nat.zero_add _
     omega
    obtain ⟨pu,cu,hu⟩:=hN.facts.1.in'.sl.shape
    clear hN hex hcur3 HN0 HE3
    subst hu
    go_wp2_with fail
    refine (jaK c a len cap 12 (by omega) _ hcurX).mono ?_
    rintro e w8 ⟨⟨y,y0,_,y1,rfl⟩,hx8,hcur8⟩
    have hy12:=y1 (by omega)
    have HE8:Hid (Ext c w2 w8):=HEX.out.trans hx8
    clear hcurX hx8 y1 HEX
    by_cases e0:y=0
    ·subst e0
     go_wp2_with fail
     refine (jaK c a len cap 5 (by omega) _ hcur8).mono ?_
     rintro e w9 ⟨⟨z,z0,_,z1,rfl⟩,hx9,hcur9⟩
     have hz5:=z1 (by omega)
     have HE9:Hid (Ext c w2 w9):=HE8.out.trans hx9
     have q0:=(ja6 (HE9.out.block g HGL.out.1 HGL.out.2) _).trans HHD.out.c0
     have qf:=(jck (HE9.out.block g HGL.out.1 HGL.out.2) _).trans (HFR.out (j*5))
     have HD:Hid (Drawn3 w (w9.setCell ⟨g,j*5,none⟩ (.int .i64 z)) c a len cap (.slice (some ⟨g0,0,none⟩) n cap0)):=jdm HB.out HN.out HE9.out hcur9 0 (.int .i64 z) (.mk z x.at_ x.n x.s x.len x.kid) (by omega) rfl rfl rfl ⟨_,_,_,_,_,_,rfl⟩ HPL.out (Nat.le_add_left _ _)
     clear hcur8 hcur9 hx9 z1 HE8 HE9
     go_wp2_with fail
     go_ret
     exact ⟨_,rfl,HD.out⟩
    ·have d0:(y==0)=false:=by simp [e0]
     by_cases e1:y=1
     ·subst e1
      go_wp2_with fail
      refine (jdS c a len cap w8.heap.size [0,5,1073741824] _ (hcur8.alloc _) (by have:=hcur8.lt;omega) 3 rfl (by omega) (by omega) (jiD w8 _ _ _ rfl)).mono ?_
      rintro e w9 ⟨⟨z,hz,rfl⟩,hx9,hcur9⟩
      have hzb:0≤z∧z≤1073741824:=by simp at hz;omega
      have HE9:Hid (Ext c w2 w9):=(HE8.out.alloc _).trans hx9
      have q0:=(ja6 (HE9.out.block g HGL.out.1 HGL.out.2) _).trans HHD.out.c2
      have qf:=(jck (HE9.out.block g HGL.out.1 HGL.out.2) _).trans (HFR.out (j*5+2))
      have HD:Hid (Drawn3 w (w9.setCell ⟨g,j*5+2,none⟩ (.int .i64 z)) c a len cap (.slice (some ⟨g0,0,none⟩) n cap0)):=jdm HB.out HN.out HE9.out hcur9 2 (.int .i64 z) (.mk x.op x.at_ z x.s x.len x.kid) (by omega) rfl rfl rfl ⟨_,_,_,_,_,_,rfl⟩ ⟨HPL.out.1,by simp only [D.n];omega,by simp only [D.n];omega⟩ (Nat.le_add_left _ _)
      clear hcur8 hcur9 hx9 hz HE8 HE9
      go_wp2_with fail
      go_ret
      exact ⟨_,rfl,HD.out⟩
     ·have d1:(y==1)=false:=by simp [e1]
      by_cases e2:y=2
      ·subst e2
       go_wp2_with fail
       refine (jco c a len cap w8.heap.size jgS _ (hcur8.alloc _) (by have:=hcur8.lt;omega) 4 rfl (by omega) (by omega) (jcJ w8 jgS _ _ (by kernel_rfl))).mono ?_
       rintro e w9 ⟨⟨z,hz,rfl⟩,hx9,hcur9⟩
       have hzb:=jgT z hz
       have HE9:Hid (Ext c w2 w9):=(HE8.out.alloc _).trans hx9
       have q0:=(ja6 (HE9.out.block g HGL.out.1 HGL.out.2) _).trans HHD.out.c3
       have qf:=(jck (HE9.out.block g HGL.out.1 HGL.out.2) _).trans (HFR.out (j*5+3))
       have HD:Hid (Drawn3 w (w9.setCell ⟨g,j*5+3,none⟩ (.string z)) c a len cap (.slice (some ⟨g0,0,none⟩) n cap0)):=jdm HB.out HN.out HE9.out hcur9 3 (.string z) (.mk x.op x.at_ x.n z x.len x.kid) (by omega) rfl rfl rfl ⟨_,_,_,_,_,_,rfl⟩ ⟨by simp only [D.s];unfold maxLen;omega,HPL.out.2⟩ (by simp only [D.s];omega)
       clear hcur8 hcur9 hx9 hz HE8 HE9
       go_wp2_with fail
       go_ret
       exact ⟨_,rfl,HD.out⟩
      ·have d2:(y==2)=false:=by simp [e2]
       by_cases e3:y=3
       ·subst e3
        have q0:=(ja6 (HE8.out.block g HGL.out.1 HGL.out.2) _).trans HHD.out.c4
        have qf:=(jck (HE8.out.block g HGL.out.1 HGL.out.2) _).trans (HFR.out (j*5+4))
        obtain ⟨la,SS,hA,hsub,hub⟩:=jnY HB.out HN.out HE8.out
        have HA:Hid (Acc w.heap.size w8 (jbw x.len x.kid) (.slice pu x.len cu) la SS∧(∀ b∈SS.flatten,b∈T)∧(∀ b,((.slice pu x.len cu):Value).ownBlock=some b→b∈T)):=⟨hA,hsub,hub⟩
        have HOWN:Hid (w8.ownsRow 0 72 5 (.slice pu x.len cu) x.len (jaF la)):=by have:=hA.own;rw [jaO] at this;exact this
        clear hA hsub hub
        have H8C:Hid (CurAt c a len cap w8):=hcur8
        clear hcur8
        have q5:∀ o,(w8.alloc o).cell? ⟨g,j*5+4,none⟩=some (.slice pu x.len cu):=fun o=>((newb w8 o).cell (by exact nll HGL.out.1 HE8.out.size)).trans q0
        have hli:(x.len:Int)<(x.len:Int)+1:=by omega
        obtain ⟨i0,hi0,hz0,hz1,hz2⟩:=info_parts jfi
        go_wp2_with fail
        go_region_law
         ((refine step_append_lies _ (by rfl) _ _ _ (by rfl) 0 72 i0 _ 5 64 Tryz.underlying70 hi0 hz0 hz1 hz2 rfl (by omega) (.slice pu x.len cu) x.len (jaF la) (by rfl) ((HOWN.out.alloc _).drew) ⟨w8.heap.size,0,none⟩ 1 1 [.int .i64 0,.int .i64 0,.int .i64 0,.string ⟨#[]⟩,.slice none 0 0] (by rfl) (by rfl) (World.news_of_block (cs:=#[.int .i64 0,.int .i64 0,.int .i64 0,.string ⟨#[]⟩,.slice none 0 0]) (t:=72) (fr:=(0,0)) (han w8 _)) (by simp [Value.oneCell']) (by omega) (by unfold maxLen;omega) (by omega) (Nat.zero_le _) (w8.heap.size+1) (by simp) ?_;intro gg cap3 w3 hown3 hgrow hat hlt3;obtain ⟨hgg,hg3,hdr⟩:=jj1 HB.out HN.out HE8.out H8C.out HA.out.1 HA.out.2.1 HA.out.2.2 hown3 hgrow hat;have HDR:Hid (Drawn3 w ((((((w3.setCell ⟨gg,x.len*5,none⟩ (.int .i64 1)).setCell ⟨gg,x.len*5+1,none⟩ (.int .i64 0)).setCell ⟨gg,x.len*5+2,none⟩ (.int .i64 3)).setCell ⟨gg,x.len*5+3,none⟩ (.string ⟨#[]⟩)).setCell ⟨gg,x.len*5+4,none⟩ (.slice none 0 0)).setCell ⟨g,j*5+4,none⟩ (.slice (some ⟨gg,0,none⟩) (x.len+1) cap3)) c a len cap (.slice (some ⟨g0,0,none⟩) n cap0)):=hdr;have HDR2:Hid (Drawn3 w ((((((w3.setCell ⟨g,j*5+4,none⟩ (.slice (some ⟨gg,0,none⟩) (x.len+1) cap3)).setCell ⟨gg,x.len*5,none⟩ (.int .i64 1)).setCell ⟨gg,x.len*5+1,none⟩ (.int .i64 0)).setCell ⟨gg,x.len*5+2,none⟩ (.int .i64 3)).setCell ⟨gg,x.len*5+3,none⟩ (.string ⟨#[]⟩)).setCell ⟨gg,x.len*5+4,none⟩ (.slice none 0 0)) c a len cap (.slice (some ⟨g0,0,none⟩) n cap0)):=Eq.mpr (congrArg (fun W=>Drawn3 w W c a len cap (.slice (some ⟨g0,0,none⟩) n cap0)) (jmd w3 g (j*5+4) gg (x.len*5) _ _ _ _ _ _ hgg)) HDR.out;have r4:=(ja6 hg3 _).trans HHD.out.c4;have rf:=(jck hg3 _).trans (HFR.out (j*5+4));have hfr3:∀ k,w3.frozen? ⟨gg,k,none⟩=false:=fun k=>hown3.frozenAt k;have hcl3:∀ k,k<5→∃ u,w3.cell? ⟨gg,x.len*5+k,none⟩=some u:=(fun k hk=>⟨_,(hown3.cellAt (x.len*5+k) (by omega)).trans (List.getElem?_eq_getElem (by have:=hown3.1;omega))⟩);obtain ⟨c0,hc0⟩:=hcl3 0 (by omega);obtain ⟨c1,hc1⟩:=hcl3 1 (by omega);obtain ⟨c2,hc2⟩:=hcl3 2 (by omega);obtain ⟨c3,hc3⟩:=hcl3 3 (by omega);obtain ⟨c4,hc4⟩:=hcl3 4 (by omega);rw [Nat.add_zero] at hc0;have hgg':¬ gg=g:=(fun e=>hgg e.symm);clear hdr hg3 hcl3 hown3 hgrow hat hlt3))
        all_goals
         go_wp2_with fail
         go_ret
         refine ⟨(.slice (some ⟨g0,0,none⟩) n cap0),rfl,?_⟩
         first|with_reducible exact HDR.out|with_reducible exact HDR2.out
       ·have d3:(y==3)=false:=by simp [e3]
        by_cases e4:y=4
        ·subst e4
         have q0:=(ja6 (HE8.out.block g HGL.out.1 HGL.out.2) _).trans HHD.out.c1
         have qf:=(jck (HE8.out.block g HGL.out.1 HGL.out.2) _).trans (HFR.out (j*5+1))
         have HD:Hid (Drawn3 w (w8.setCell ⟨g,j*5+1,none⟩ (.int .i64 (-1))) c a len cap (.slice (some ⟨g0,0,none⟩) n cap0)):=jdm HB.out HN.out HE8.out hcur8 1 (.int .i64 (-1)) (.mk x.op (-1) x.n x.s x.len x.kid) (by omega) rfl rfl rfl ⟨_,_,_,_,_,_,rfl⟩ HPL.out (Nat.le_add_left _ _)
         clear hcur8 HE8
         go_wp2_with fail
         go_ret
         exact ⟨_,rfl,HD.out⟩
        ·have d4:(y==4)=false:=by simp [e4]
         go_wp2_with fail
         go_ret
         exact ⟨_,rfl,ji4 HB.out HS.out HE8.out hcur8 (jey HN.out)⟩
end Go.Proofs.YtjmlfacbcfbhdaaGreatDoor
