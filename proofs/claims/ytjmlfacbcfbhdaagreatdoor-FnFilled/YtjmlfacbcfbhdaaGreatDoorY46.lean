/- spec.l8Kids, out of spec.l8Fill for the kids. Condition: at most 2^20 of the template, and of each One. -/
import Derived.Test.YtjmlfacbcfbhdaaGreatDoorYA
import Derived.Test.YtjmlfacbcfbhdaaGreatDoorY45
import Derived.Deep.RegionHeld3
import Derived.Deep.Cut
import Derived.Deep.CutRange
set_option maxRecDepth 100000
set_option maxHeartbeats 8000000
namespace Go.Proofs.YtjmlfacbcfbhdaaGreatDoor
open Go.ChangeShapes Go.WideShapes Go.ChangeAt Go.RowKit
theorem From.kid {w0 w:World} {t:X} {su u v sv uv:Value} {Q i:Nat} {L L':List G} {v':Value} (h:From w0 w t su u Q L v) (hi:i<t.len) (hk:(t.kid i).At 0 w0 sv uv) (hv:GsV w0 w Q L' v') (hok:∀ g∈L',GW g) (hl:L'.length≤L.length+2000000):From w0 w (t.kid i) sv uv Q L' v':=by
 have h1:(t.kid i).weight≤t.weight∧(t.kid i).count+1≤t.count:=by
  cases t with
  | no=>exact absurd hi (Nat.not_lt_zero _)
  | mk op a n s set len kid =>
   have h1:=jbo (fun i=>(kid i).weight) i len hi
   have h2:=jbo (fun i=>(kid i).count) i len hi
   have hwe:(X.mk op a n s set len kid).weight=s.size+(set.length+(len+sumX (fun i=>(kid i).weight) len)):=rfl
   have hce:(X.mk op a n s set len kid).count=1+sumX (fun i=>(kid i).count) len:=rfl
   simp only [X.kid]
   omega
 exact ⟨hk,h.bel,h.lo,hv,by have:=h.wt;omega,hok,by have:=h.few;omega⟩
theorem jo8 (t:X) (ih:∀ i,jig (t.kid i)):jlF t:=by
 intro w0 L w su u v Q fuel room hfrom hask hf0 hf1 hr0 hr1
 obtain ⟨iS,hiS,hzS0,hzS1,hzS2⟩:=info_parts jcI
 have HFR:=jaa hfrom
 have IH:=jaa ih
 obtain ⟨pu,cu,e1⟩:=hfrom.at_.xs.shape
 obtain ⟨ps,cs,e2⟩:=hfrom.at_.sets.shape
 obtain ⟨pl,cl,e3⟩:=hfrom.gs.shape
 obtain ⟨_,_,e4,hlm,hat⟩:=hfrom.at_.xs.at
 subst e1 e2 e3
 injection e4 with e41 _ e42
 subst e41 e42
 have HAT:Hid (∀ i,i<t.len→∃ b o sv uv,pu=some ⟨b,o,none⟩∧Head6 w0 b (o+i*6) (t.kid i) sv uv∧(t.kid i).At 0 w0 sv uv):=hat
 have htl:t.len≤1048576:=by
  have h1:=hfrom.wt
  cases t with
  | no=>exact nzl _
  | mk op a n s set len kid =>
   have hwe:(X.mk op a n s set len kid).weight=s.size+(set.length+(len+sumX (fun i=>(kid i).weight) len)):=rfl
   simp only [X.len]
   omega
 have hQ:Q<w.heap.size:=(aes.1 hask).1
 obtain ⟨W,hW,a0,a1,asz,ab⟩:=jhq w (.cells #[.int .i64 t.op,.int .i64 t.at_,.int .i64 t.n,.string t.s,.slice ps t.set.length cs,.slice pu t.len cu] 27) (.cells #[] 27)
 obtain ⟨N,hN⟩:∃ N,N=w.heap.size:=⟨_,rfl⟩
 rw [←hN] at a0 a1 asz ab hQ
 obtain ⟨M,hM⟩:∃ M,M=jcC t.kid (fun i L=>jaI (t.kid i) L) L t.len t.len 0:=⟨_,rfl⟩
 rw [←hM]
 have HNE:Hid (w.heap.size≤N):=by rw [hN];exact nlr _
 have hbW:But (fun k=>k=Q) w W:=But.of_all (by rw [←hN];exact ab)
 have HK0:Hid (KR w t (.slice ps t.set.length cs) (.slice pu t.len cu) Q N L fuel room M 0 (.slice (some ⟨N+1,0,none⟩) 0 0) W):=by
  refine ⟨hbW,a0,by omega,⟨_,_,_,rfl⟩,.inl ⟨([],0,0),?_,?_,by simpa using hf0,by simpa using hr0,Nat.le_refl _,by simp [Value.ownBlock],[],[],⟨⟨rfl,.inr ⟨N+1,0,#[],rfl,Nat.zero_le _,a1,Nat.le_refl _,Nat.zero_le _,rfl,rfl⟩⟩,rfl,XAcc.nil _ _ _,fun g hg=>⟨by simp,by simp only [Value.ownBlock,Option.some.injEq] at hg;omega⟩⟩⟩⟩
  ·rw [hM]
   unfold remF
   simp [FX.join]
  ·simp only [Int.natCast_zero,Int.sub_zero]
   exact (ab.block Q hQ).trans hask
 have HBW:Hid (∀ wr,But (fun k=>k=Q) w wr→Below w0.heap.size w0 wr):=fun wr h=>(HFR.out.but h).bel
 have HWW:=jaa hW
 have HN:=jaa hN
 have HM:=jaa hM
 clear hfrom ih hask hat hW hN hM a0 a1 asz ab hbW
 go_enter Tryz.func48,Tryz.ntmps48
 go_upto_region 2 with fail
 rw [HWW.out,←HN.out]
 go_wp2_with fail
 go_loopw [7,8] (fun lv iv wr=>∃ i:Nat,iv=.int .i64 i∧i≤t.len∧KR w t (.slice ps t.set.length cs) (.slice pu t.len cu) Q N L fuel room M i lv wr) (fun _ iv _=>t.len-(intOf iv).toNat)
 case atStart=>exact ⟨0,rfl,nzl _,HK0.out⟩
 case round =>
  obtain ⟨i,rfl,hi,hKR⟩:=hrel
  have HKR:=jaa hKR
  obtain ⟨h1,h2,h3,⟨p7,n7,c7,e7⟩,h5⟩:=hKR
  subst e7
  obtain ⟨x0,x1,x2,x3,x4,x5⟩:=h2.cells
  clear HK0
  rcases h5 with ⟨acc,k1,k2,k3,k4,k5,k6,la,SS,k7⟩|⟨⟨f',m',k1⟩,k2⟩
  ·obtain ⟨q0,q1,q2,qf⟩:=k2.cells
   have HA:=jaa k1
   have HX:=jaa k7
   have HB:=jaa h1
   have HK2:=jaa k2
   have HKO:Hid (KO w t (.slice ps t.set.length cs) (.slice pu t.len cu) Q N fuel room acc (.slice p7 n7 c7) la SS wr):=⟨h1,h2,h3,k2,k3,k4,k5,k6,k7⟩
   clear k1 k7 k2 h1 h2
   by_cases hlt:(i:Int)<t.len
   ·have hi':i<t.len:=by omega
    obtain ⟨b,o,sv,uv,hp,hd6,hka⟩:=HAT.out i hi'
    subst hp
    obtain ⟨pd,cd,ed⟩:=hka.sets.shape
    obtain ⟨pe,ce,ee⟩:=hka.xs.shape
    subst ed ee
    have HD6:=jaa hd6
    have HKA:=jaa hka
    obtain ⟨d0,d1,d2,d3,d4,d5⟩:=hd6.below (HBW.out wr HB.out)
    have HBX:Hid (∀ wx,Below wr.heap.size wr wx→wx.cell? ⟨N,5,none⟩=some (.slice (some ⟨b,o,none⟩) t.len cu)):=fun wx hx=>jat hx _ _ x5
    clear hd6 hka
    cases hdt:jan (t.kid i) with
    | true =>
     have HDN:=jaa hdt
     have HSD:=jaa (jbz (t.kid i) (.slice pd (t.kid i).set.length cd) (.slice pe (t.kid i).len ce) wr)
     rw [hdt] at HSD
     clear hdt
     go_wp2_with fail
     refine HSD.out.mono ?_
     rintro e w1 ⟨rfl,hb1⟩
     have HK3:Hid (Ask w1 Q true (fuel-acc.2.1) (room-acc.2.2)):=(hb1.block _ (aes.1 HK2.out).1).trans HK2.out
     have HB1:Hid (But (fun k=>k=Q) w w1):=HB.out.step (But.of_all hb1) (fun _ _ h=>h)
     clear q0 q1 q2 qf hb1 HSD
     obtain ⟨q0,q1,q2,qf⟩:=HK3.out.cells
     go_wp2_with fail
     go_ret
     refine ⟨HB1.out.setCell (.inr rfl) _,_,rfl,⟨_,_,_,rfl⟩,.inr ⟨⟨_,_,HK3.out.stop false⟩,fun r hr=>?_⟩⟩
     rw [HA.out,jc9 hi' HDN.out] at hr
     cases hr
    | false =>
     have HDN:=jaa hdt
     have HSD:=jaa (jbz (t.kid i) (.slice pd (t.kid i).set.length cd) (.slice pe (t.kid i).len ce) wr)
     rw [hdt] at HSD
     clear hdt
     go_upto_region 8 with ((go_at_call 55;refine HSD.out.mono ?_;rintro e w1 ⟨rfl,hb1⟩))
     have HK1:=jaa (HKO.out.below hb1)
     have HB1:=jaa hb1
     obtain ⟨sg,hsg⟩:∃ sg:Bool,sg=(decide (i+1=t.len) || !jan (t.kid (i+1))):=⟨_,rfl⟩
     have HSG:=jaa hsg
     clear hb1 q0 q1 q2 qf x0 x1 x2 x3 x4 x5 d0 d1 d2 d3 d4 d5 HSD hsg
     go_cut [52] from 14 to 114 (fun z wx=>z=.bool sg∧KO w t (.slice ps t.set.length cs) (.slice (some ⟨b,o,none⟩) t.len cu) Q N fuel room acc (.slice p7 n7 c7) la SS wx)
     case first =>
      obtain ⟨x0,x1,x2,x3,x4,x5⟩:=HK1.out.box.cells
      by_cases hl:((i:Int)+1==(t.len:Int))=true
      ·go_wp2_with fail
       go_meet
       refine ⟨?_,HK1.out⟩
       rw [HSG.out,dqt (by simp at hl;omega)]
       rfl
      ·have hl2:((i:Int)+1==(t.len:Int))=false:=by simpa using hl
       have hi2:i+1<t.len:=by simp at hl;omega
       obtain ⟨b2,o2,sv2,uv2,hp2,hd2,hk2⟩:=HAT.out (i+1) hi2
       injection hp2 with hp2
       injection hp2 with hp2 hp3
       subst hp2 hp3
       obtain ⟨pg,cg,eg⟩:=hk2.sets.shape
       obtain ⟨ph,ch,eh⟩:=hk2.xs.shape
       subst eg eh
       obtain ⟨f0,f1,f2,f3,f4,f5⟩:=hd2.below (HBW.out w1 HK1.out.but)
       have HSD2:=jaa (jbz (t.kid (i+1)) (.slice pg (t.kid (i+1)).set.length cg) (.slice ph (t.kid (i+1)).len ch) w1)
       have hi3:(i:Int)+1<t.len:=by omega
       clear hd2 hk2 hl
       go_wp2_with ((go_at_call 55;refine HSD2.out.mono ?_;rintro e w2 ⟨rfl,hb2⟩))
       go_meet
       refine ⟨?_,HK1.out.below hb2⟩
       rw [HSG.out,dqf (by omega)]
       rfl
     case rest =>
      obtain ⟨rfl,hKC⟩:=hcut
      have HKC:=jaa hKC
      obtain ⟨x0,x1,x2,x3,x4,x5⟩:=hKC.box.cells
      obtain ⟨d0,d1,d2,d3,d4,d5⟩:=HD6.out.below (HBW.out wc hKC.but)
      clear hKC
      cases sg with
      | true =>
       have HRO:Hid (remF t L i=(jaI (t.kid i) L).bind fun a=>(remF t L (i+1)).map fun b=>a.join b):=je4 hi' HDN.out (fun h=>by
        have h1:=HSG.out
        rw [dqf (by omega),h.2] at h1
        cases h1)
       have HFC:=jaa (IH.out i w0 L wc _ _ _ Q (fuel-acc.2.1) (room-acc.2.2) ((HFR.out.but HKC.out.but).kid hi' HKA.out (HFR.out.gs.but HKC.out.but) HFR.out.ok (by omega)) HKC.out.ask (by have:=HKC.out.f;omega) (by omega) (by have:=HKC.out.r;omega) (by omega))
       go_upto_region 10 with ((go_at_call 21;refine HFC.out.mono ?_;rintro e w3 ⟨hb3,x,sx,ux,rfl,⟨ps3,ls3,cs3,rfl⟩,⟨pu3,lu3,cu3,rfl⟩,hcase⟩;have HC3:=jaa hcase;have HB3:=jaa hb3;clear hcase hb3))
       have hRW:∀ o1 o2,((w3.alloc o1).alloc o2).ownsRow 0 27 6 (.slice p7 n7 c7) acc.1.length (jau la):=fun o1 o2=>((HKC.out.row hQ HB3.out).alloc o1).alloc o2
       have HRW:=jaa hRW
       have HNEW:Hid (∀ o1 o2,((w3.alloc o1).alloc o2).heap[w3.heap.size+1]? = some o2):=fun o1 o2=>by
        have h1:=han (w3.alloc o1) o2
        rw [World.size_alloc] at h1
        exact h1
       have hac:acc.1.length≤4000:=by have h1:=HKC.out.few;have h2:=HKC.out.f;omega
       have hlvb:Hid ((Value.slice p7 n7 c7).ownBlock≠none):=HKC.out.lvb
       clear hRW x0 x1 x2 x3 x4 x5 d0 d1 d2 d3 d4 d5
       generalize hal:acc.1.length=al at *
       have HAL:=jaa hal
       clear hal
       go_wp2_with (at_builtin;refine jas _ rfl (.tmp 61) (.tmp 63) 25 rfl 0 27 iS (.agg #[.int .i64 0,.int .i64 0,.int .i64 0,.string ⟨#[]⟩,.slice none 0 0,.slice none 0 0]) 6 88 Tryz.underlying25 hiS hzS0 hzS1 hzS2 rfl (by decide) (.slice p7 n7 c7) al (jau la) rfl (HRW.out _ _) hlvb.out (some ⟨w3.heap.size+1,0,none⟩) 1 1 [.int .i64 x.op,.int .i64 x.at_,.int .i64 x.n,.string x.s,.slice ps3 ls3 cs3,.slice pu3 lu3 cu3] rfl rfl (by simp) (fun ad had=>by injection had with had;subst had;exact World.news_of_block (cs:=#[.int .i64 x.op,.int .i64 x.at_,.int .i64 x.n,.string x.s,.slice ps3 ls3 cs3,.slice pu3 lu3 cu3]) (t:=27) (fr:=(0,0)) (HNEW.out _ _)) (by simp [Value.oneCell']) (by unfold maxLen;omega) (by omega) (Nat.zero_le _) ?_;intro v' w5 hown5 hg5 hwh5)
       have HN2:Hid (KR w t (.slice ps t.set.length cs) (.slice (some ⟨b,o,none⟩) t.len cu) Q N L fuel room M (i+1) v' w5):=by
        have hk:=HKC.out
        obtain ⟨n1,n2,n3,n4,n5⟩:=jl6 (O:=jaI (t.kid i) L) hQ HNE.out hk.but hk.box hk.sz hk.few hk.lvb hk.bld HB3.out (by rw [HAL.out];exact hown5.out) hg5.out hwh5.out (fun r hr=>jei _ _ r hr) HC3.out
        refine ⟨n1,n2,n3,n4,?_⟩
        rcases n5 with ⟨r,m1,m2⟩|⟨m1,m2⟩
        ·refine .inl ⟨acc.join r,?_,m2⟩
         rw [HA.out,HRO.out,m1,Option.bind_some,Option.map_map]
         congr 1
         funext c
         simp [FX.assoc]
        ·refine .inr ⟨m1,jl4 HA.out (O:=jaI (t.kid i) L) (fun r hr=>?_) m2⟩
         rw [HRO.out] at hr
         obtain ⟨a,ha,hr⟩:=bind_some hr
         obtain ⟨c,_,rfl⟩:=jar hr
         exact ⟨a,c,ha,rfl⟩
       clear hown5 hg5 hwh5
       go_wp2_with fail
       go_roundw
       case rel=>first|exact ⟨i+1,by go_num,by omega,HN2.out⟩|((repeat apply Exists.intro);exact ⟨⟨i+1,by go_num,by omega,HN2.out⟩,rfl⟩)
       case measure=>simp [intOf];omega
      | false =>
       have HI2:Hid (i+1<t.len∧jan (t.kid (i+1))=true):=by
        have h1:=HSG.out
        by_cases h2:i+1=t.len
        ·rw [dqt h2] at h1;cases h1
        ·rw [dqf h2] at h1
         refine ⟨by omega,?_⟩
         cases h3:jan (t.kid (i+1)) with
         | true=>rfl
         | false=>rw [h3] at h1;cases h1
       have HRO:Hid (remF t L i=(jcO t L i).bind fun a=>(remF t L (i+2)).map fun b=>a.join b):=jdo HDN.out HI2.out.1 HI2.out.2
       have hFK:=(HFR.out.but HKC.out.but).kid hi' HKA.out (HFR.out.gs.but HKC.out.but) HFR.out.ok (by omega)
       have HTC:=jaa (jlh (t.kid i) L wc _ _ _ (X.At.below hFK.bel hFK.at_) hFK.wt (hFK.gs.at hFK.bel))
       have HKW:Hid ((t.kid i).weight≤1048576∧(t.kid i).count≤1048577):=⟨hFK.wt,by have h1:=(t.kid i).count_weight;have h2:=hFK.wt;omega⟩
       obtain ⟨tm,htm⟩:∃ tm,tm=jaq L (jam (t.kid i)) (-1):=⟨_,rfl⟩
       rw [←htm] at HTC
       have htmb:tm≤9223372036854775807:=by rw [htm];exact jd7 HFR.out.gs.lens (by omega) _ _ (by omega)
       have HTM:=jaa htm
       clear htm hFK
       go_upto_region 12 with ((go_at_call 76;refine HTC.out.mono ?_;rintro e w2 ⟨rfl,hb2⟩))
       have HK2:=jaa (HKC.out.below hb2)
       clear hb2 x0 x1 x2 x3 x4 x5 d0 d1 d2 d3 d4 d5 HTC
       go_cut [] from 14 to 114 (fun wx=>KT w t (.slice ps t.set.length cs) (.slice (some ⟨b,o,none⟩) t.len cu) Q N L fuel room M i 0 acc (.slice p7 n7 c7) wx∧(tm<0→∃ f' m',Ask wx Q false f' m'))
       case first =>
        obtain ⟨q0,q1,q2,qf⟩:=HK2.out.ask.cells
        by_cases htn:(0:Int)≤tm
        ·go_wp2_with fail
         go_meet
         exact ⟨KT.start HK2.out hQ ⟨_,_,_,rfl⟩,fun h=>by omega⟩
        ·go_wp2_with fail
         go_meet
         refine ⟨KT.none HK2.out hQ ⟨_,_,_,rfl⟩ ?_,fun _=>⟨_,_,HK2.out.ask.stop false⟩⟩
         have ho:jcO t L i=none:=by unfold jcO;rw [if_pos (by have:=HTM.out;omega)]
         rw [HA.out,HRO.out,ho]
         rfl
       case rest =>
        have HKT:=jaa hcut
        clear hcut
        go_wp2_with fail
        go_loopw [7,11] (fun lv kv wx=>∃ k:Nat,kv=.int .i64 k∧((k:Int)≤tm∨(k=0∧tm<0))∧KT w t (.slice ps t.set.length cs) (.slice (some ⟨b,o,none⟩) t.len cu) Q N L fuel room M i k acc lv wx∧(tm<0→∃ f' m',Ask wx Q false f' m')) (fun _ kv _=>tm.toNat-(intOf kv).toNat)
        case atStart=>exact ⟨0,rfl,by omega,HKT.out⟩
        case round =>
         obtain ⟨k,rfl,hk,hKT,hneg⟩:=hrel
         have HNG:=jaa hneg
         clear hneg
         have HKT2:=jaa hKT
         obtain ⟨h1,h2,h3,⟨p8,n8,c8,e8⟩,h5⟩:=hKT
         subst e8
         clear HKT HK2
         rcases h5 with ⟨a,acc2,k1,k2,k3,k4,k5,k6,k7,la2,SS2,k8⟩|⟨⟨f',m',k1⟩,k2⟩
         ·obtain ⟨q0,q1,q2,qf⟩:=k3.cells
          have HKO2:Hid (KO w t (.slice ps t.set.length cs) (.slice (some ⟨b,o,none⟩) t.len cu) Q N fuel room acc2 (.slice p8 n8 c8) la2 SS2 wr):=⟨h1,h2,h3,k3,k4,k5,k6,k7,k8⟩
          have HA2:=jaa k1
          have HT2:=jaa k2
          clear k1 k2 k3 k4 k5 k6 k7 k8 h1 h2 h3
          by_cases hkt:(k:Int)<tm
          ·go_upto_region 16 with fail
           have HXF:Hid (∀ wq,But (fun k=>k=Q) wr wq→wq.cell? ⟨N,5,none⟩=some (.slice (some ⟨b,o,none⟩) t.len cu)∧Head6 wq b (o+i*6) (t.kid i) (.slice pd (t.kid i).set.length cd) (.slice pe (t.kid i).len ce)):=fun wq hq=>by
            have h6:Six wq N t.op t.at_ t.n t.s (.slice ps t.set.length cs) (.slice (some ⟨b,o,none⟩) t.len cu) 27:=hq.at HKO2.out.box (fun e=>by have e2:N=Q:=e;omega)
            exact ⟨h6.cells.2.2.2.2.2,HD6.out.below (HBW.out wq (HKO2.out.but.step hq (fun _ _ h=>h)))⟩
           have HTU:Hid (∀ wq,But (fun k=>k=Q) wr wq→Calls Tryz.prog 77 #[.agg #[.int .i64 (t.kid i).op,.int .i64 (t.kid i).at_,.int .i64 (t.kid i).n,.string (t.kid i).s,.slice pd (t.kid i).set.length cd,.slice pe (t.kid i).len ce],.slice pl L.length cl,.int .i64 k] wq fun e w'=>∃ p2 n2 c2,e=.returned (.slice p2 n2 c2)∧Below wq.heap.size wq w'∧GsV w0 w' Q (jaA L k (jam (t.kid i))++L) (.slice p2 n2 c2)):=fun wq hq=>by
            have hb:=HKO2.out.but.step hq (fun _ _ h=>h)
            have hK:=(HFR.out.but hb).kid hi' HKA.out (HFR.out.gs.but hb) HFR.out.ok (by omega)
            have hQs:Q<wq.heap.size:=by have h1:=HKO2.out.sz;have h2:=hq.size;omega
            have hnl:(jam (t.kid i)).length≤1048577:=by have h1:=jeq (t.kid i) ([],false);have h2:=HKW.out.2;simp only [List.length_nil] at h1;unfold jam;omega
            refine (jm7 w0 Q (t.kid i) L k wq _ _ _ (X.At.below hK.bel hK.at_) hK.wt hK.bel hQs hK.gs (by have:=HFR.out.few;omega) (jiO (X.At.below hK.bel hK.at_)) hnl).mono ?_
            rintro e w' ⟨v',rfl,h1,h2⟩
            obtain ⟨p2,c2,e2⟩:=h2.shape
            exact ⟨p2,_,c2,by rw [e2],h1,by rw [←e2];exact h2⟩
           have HFI:Hid (∀ wq p2 n2 c2,But (fun k=>k=Q) wr wq→GsV w0 wq Q (jaA L k (jam (t.kid i))++L) (.slice p2 n2 c2)→Ask wq Q true (fuel-acc2.2.1) (room-acc2.2.2)→Calls Tryz.prog 21 #[.pointer (some ⟨Q,0,none⟩),.agg #[.int .i64 (t.kid i).op,.int .i64 (t.kid i).at_,.int .i64 (t.kid i).n,.string (t.kid i).s,.slice pd (t.kid i).set.length cd,.slice pe (t.kid i).len ce],.slice p2 n2 c2] wq fun e w'=>jcz wq Q (fuel-acc2.2.1) (room-acc2.2.2) (jaI (t.kid i) (jaA L k (jam (t.kid i))++L)) e w'):=fun wq p2 n2 c2 hq hg ha=>by
            have hb:=HKO2.out.but.step hq (fun _ _ h=>h)
            have hnl:(jam (t.kid i)).length≤1048577:=by have h1:=jeq (t.kid i) ([],false);have h2:=HKW.out.2;simp only [List.length_nil] at h1;unfold jam;omega
            have htl:=jfZ L k (jam (t.kid i))
            exact IH.out i w0 _ wq _ _ _ Q _ _ ((HFR.out.but hb).kid hi' HKA.out hg (jou HFR.out.ok) (by rw [lla];omega)) ha (by have:=HKO2.out.f;omega) (by omega) (by have:=HKO2.out.r;omega) (by omega)
           have HAS:Hid (Ask wr Q true (fuel-acc2.2.1) (room-acc2.2.2)∧Q<wr.heap.size):=⟨HKO2.out.ask,by have:=HKO2.out.sz;omega⟩
           go_cut [12] from 83 to 112 (fun z wx=>jgK wr Q (fuel-acc2.2.1) (room-acc2.2.2) (jaI (t.kid i) (jaA L k (jam (t.kid i))++L)) z wx)
           case first =>
            have HS0:But (fun k=>k=Q) wr wr.drew:=(But.refl _ _).drew
            refine wp_region_held_drew (S:=fun wq=>But (fun k=>k=Q) wr wq) (by kernel_rfl) HS0 (fun _=>?_)
            refine wpAnyH_take (i:=0) (oi:={dst:=some 94,op:=Op.move (Operand.tmp 0),type:=49,pos := "l08_fill.go:80",after:=#[],guard:=none}) (v:=.pointer (some ⟨Q,0,none⟩)) rfl (by kernel_rfl) (by kernel_rfl) (by kernel_rfl) (fun _ _ _ h=>h) (Or.inl ⟨by rfl,?_⟩) HS0 ?_
            ·intro wq hSq
             clear hSq
             go_simp
            try simp only [pLq]
            refine wpAnyH_take (i:=1) (oi:={dst:=some 95,op:=Op.fieldAddr 27 (Operand.tmp 4) 5,type:=0,pos := "l08_fill.go:80",after:=#[],guard:=none}) (v:=.pointer (some ⟨N,5,none⟩)) rfl (by kernel_rfl) (by kernel_rfl) (by kernel_rfl) (fun _ _ _ h=>h) (Or.inl ⟨by rfl,?_⟩) HS0 ?_
            ·intro wq hSq
             clear hSq
             go_simp
            try simp only [pLq]
            refine wpAnyH_take (i:=2) (oi:={dst:=some 96,op:=Op.load 25 (Operand.tmp 95),type:=25,pos := "l08_fill.go:80",after:=#[{on:=1,ground:=Ground.data}],guard:=none}) (v:=.slice (some ⟨b,o,none⟩) t.len cu) rfl (by kernel_rfl) (by kernel_rfl) (by kernel_rfl) (fun _ _ _ h=>h) (Or.inl ⟨by rfl,?_⟩) HS0 ?_
            ·intro wq hSq
             have f5:=(HXF.out wq hSq).1
             clear hSq
             go_simp
            try simp only [pLq]
            refine wpAnyH_take (i:=3) (oi:={dst:=some 97,op:=Op.move (Operand.tmp 8),type:=3,pos := "l08_fill.go:80",after:=#[],guard:=none}) (v:=.int .i64 i) rfl (by kernel_rfl) (by kernel_rfl) (by kernel_rfl) (fun _ _ _ h=>h) (Or.inl ⟨by rfl,?_⟩) HS0 ?_
            ·intro wq hSq
             clear hSq
             go_simp
            try simp only [pLq]
            refine wpAnyH_take (i:=4) (oi:={dst:=some 98,op:=Op.indexAddr 25 (Operand.tmp 96) (Operand.tmp 97),type:=0,pos := "l08_fill.go:80",after:=#[{on:=2,ground:=Ground.data},{on:=3,ground:=Ground.data}],guard:=none}) (v:=.pointer (some ⟨b,o+i*6,none⟩)) rfl (by kernel_rfl) (by kernel_rfl) (by kernel_rfl) (fun _ _ _ h=>h) (Or.inl ⟨by rfl,?_⟩) HS0 ?_
            ·intro wq hSq
             clear hSq
             go_simp
            try simp only [pLq]
            refine wpAnyH_take (i:=5) (oi:={dst:=some 99,op:=Op.load 27 (Operand.tmp 98),type:=27,pos := "l08_fill.go:80",after:=#[{on:=4,ground:=Ground.data}],guard:=none}) (v:=.agg #[.int .i64 (t.kid i).op,.int .i64 (t.kid i).at_,.int .i64 (t.kid i).n,.string (t.kid i).s,.slice pd (t.kid i).set.length cd,.slice pe (t.kid i).len ce]) rfl (by kernel_rfl) (by kernel_rfl) (by kernel_rfl) (fun _ _ _ h=>h) (Or.inl ⟨by rfl,?_⟩) HS0 ?_
            ·intro wq hSq
             obtain ⟨d0,d1,d2,d3,d4,d5⟩:=(HXF.out wq hSq).2
             clear hSq
             go_simp
            try simp only [pLq]
            refine wpAnyH_take (i:=6) (oi:={dst:=some 100,op:=Op.fieldAddr 27 (Operand.tmp 4) 5,type:=0,pos := "l08_fill.go:80",after:=#[],guard:=none}) (v:=.pointer (some ⟨N,5,none⟩)) rfl (by kernel_rfl) (by kernel_rfl) (by kernel_rfl) (fun _ _ _ h=>h) (Or.inl ⟨by rfl,?_⟩) HS0 ?_
            ·intro wq hSq
             clear hSq
             go_simp
            try simp only [pLq]
            refine wpAnyH_take (i:=7) (oi:={dst:=some 101,op:=Op.load 25 (Operand.tmp 100),type:=25,pos := "l08_fill.go:80",after:=#[{on:=6,ground:=Ground.data}],guard:=none}) (v:=.slice (some ⟨b,o,none⟩) t.len cu) rfl (by kernel_rfl) (by kernel_rfl) (by kernel_rfl) (fun _ _ _ h=>h) (Or.inl ⟨by rfl,?_⟩) HS0 ?_
            ·intro wq hSq
             have f5:=(HXF.out wq hSq).1
             clear hSq
             go_simp
            try simp only [pLq]
            refine wpAnyH_take (i:=8) (oi:={dst:=some 102,op:=Op.move (Operand.tmp 8),type:=3,pos := "l08_fill.go:80",after:=#[],guard:=none}) (v:=.int .i64 i) rfl (by kernel_rfl) (by kernel_rfl) (by kernel_rfl) (fun _ _ _ h=>h) (Or.inl ⟨by rfl,?_⟩) HS0 ?_
            ·intro wq hSq
             clear hSq
             go_simp
            try simp only [pLq]
            refine wpAnyH_take (i:=9) (oi:={dst:=some 103,op:=Op.indexAddr 25 (Operand.tmp 101) (Operand.tmp 102),type:=0,pos := "l08_fill.go:80",after:=#[{on:=7,ground:=Ground.data},{on:=8,ground:=Ground.data}],guard:=none}) (v:=.pointer (some ⟨b,o+i*6,none⟩)) rfl (by kernel_rfl) (by kernel_rfl) (by kernel_rfl) (fun _ _ _ h=>h) (Or.inl ⟨by rfl,?_⟩) HS0 ?_
            ·intro wq hSq
             clear hSq
             go_simp
            try simp only [pLq]
            refine wpAnyH_take (i:=10) (oi:={dst:=some 104,op:=Op.load 27 (Operand.tmp 103),type:=27,pos := "l08_fill.go:80",after:=#[{on:=9,ground:=Ground.data}],guard:=none}) (v:=.agg #[.int .i64 (t.kid i).op,.int .i64 (t.kid i).at_,.int .i64 (t.kid i).n,.string (t.kid i).s,.slice pd (t.kid i).set.length cd,.slice pe (t.kid i).len ce]) rfl (by kernel_rfl) (by kernel_rfl) (by kernel_rfl) (fun _ _ _ h=>h) (Or.inl ⟨by rfl,?_⟩) HS0 ?_
            ·intro wq hSq
             obtain ⟨d0,d1,d2,d3,d4,d5⟩:=(HXF.out wq hSq).2
             clear hSq
             go_simp
            try simp only [pLq]
            refine wpAnyH_take (i:=11) (oi:={dst:=some 105,op:=Op.move (Operand.tmp 2),type:=28,pos := "l08_fill.go:80",after:=#[],guard:=none}) (v:=.slice pl L.length cl) rfl (by kernel_rfl) (by kernel_rfl) (by kernel_rfl) (fun _ _ _ h=>h) (Or.inl ⟨by rfl,?_⟩) HS0 ?_
            ·intro wq hSq
             clear hSq
             go_simp
            try simp only [pLq]
            refine wpAnyH_take (i:=12) (oi:={dst:=some 106,op:=Op.move (Operand.tmp 11),type:=3,pos := "l08_fill.go:80",after:=#[],guard:=none}) (v:=.int .i64 k) rfl (by kernel_rfl) (by kernel_rfl) (by kernel_rfl) (fun _ _ _ h=>h) (Or.inl ⟨by rfl,?_⟩) HS0 ?_
            ·intro wq hSq
             clear hSq
             go_simp
            try simp only [pLq]
            refine wpAnyH_ready (rs:=[13,15]) (by kernel_rfl) (by simp) ?_
            refine (AllReadyH.cons (o:={dst:=some 107,op:=Op.call {callee:=Callee.value (Operand.func 77),args:=#[Operand.tmp 104,Operand.tmp 105,Operand.tmp 106],argTypes:=#[27,28,3]},type:=28,pos := "l08_fill.go:80",after:=#[{on:=10,ground:=Ground.data},{on:=11,ground:=Ground.data},{on:=12,ground:=Ground.data}],guard:=none}) rfl (fun KK hK=>?_) (AllReadyH.cons (o:={dst:=some 12,op:=Op.alloc 27,type:=0,pos := "l08_fill.go:80",after:=#[],guard:=none}) rfl (fun KK hK=>?_) AllReadyH.nil))
            ·refine jbt rfl 77 (.tmp 104) (.tmp 105) (.tmp 106) 27 28 3 rfl jfY (.agg #[.int .i64 (t.kid i).op,.int .i64 (t.kid i).at_,.int .i64 (t.kid i).n,.string (t.kid i).s,.slice pd (t.kid i).set.length cd,.slice pe (t.kid i).len ce]) (.slice pl L.length cl) (.int .i64 k) rfl rfl rfl _ (HTU.out _ (HS0)) ?_
             rintro e w2 ⟨p2,n2,c2,rfl,hb2,hg2⟩
             refine ⟨_,rfl,?_⟩
             have HS1:But (fun k=>k=Q) wr w2:=(HS0).step (But.of_all hb2) (fun _ _ h=>h)
             have HG2:=jaa hg2
             have HA2':Hid (Ask w2 Q true (fuel-acc2.2.1) (room-acc2.2.2)):=(hb2.block Q (by have h1:=(HS0).size;have h2:=HAS.out.2;omega)).trans HAS.out.1
             clear hg2
             refine hK.out _ _ HS1 (fun _=>?_)
             clear hK KK
             try simp only [pLq]
             refine wpAnyH_ready (rs:=[14,15]) (by kernel_rfl) (by simp) ?_
             refine (AllReadyH.cons (o:={dst:=some 108,op:=Op.call {callee:=Callee.value (Operand.func 21),args:=#[Operand.tmp 94,Operand.tmp 99,Operand.tmp 107],argTypes:=#[49,27,28]},type:=27,pos := "l08_fill.go:80",after:=#[{on:=0,ground:=Ground.data},{on:=5,ground:=Ground.data},{on:=13,ground:=Ground.data},{on:=13,ground:=Ground.chain}],guard:=none}) rfl (fun KK hK=>?_) (AllReadyH.cons (o:={dst:=some 12,op:=Op.alloc 27,type:=0,pos := "l08_fill.go:80",after:=#[],guard:=none}) rfl (fun KK hK=>?_) AllReadyH.nil))
             ·refine jbt rfl 21 (.tmp 94) (.tmp 99) (.tmp 107) 49 27 28 rfl jdA (.pointer (some ⟨Q,0,none⟩)) (.agg #[.int .i64 (t.kid i).op,.int .i64 (t.kid i).at_,.int .i64 (t.kid i).n,.string (t.kid i).s,.slice pd (t.kid i).set.length cd,.slice pe (t.kid i).len ce]) (.slice p2 n2 c2) rfl rfl rfl _ (HFI.out _ _ _ _ HS1 HG2.out HA2'.out) ?_
              rintro e w3 ⟨hb3,x,sx,ux,rfl,⟨ps3,ls3,cs3,rfl⟩,⟨pu3,lu3,cu3,rfl⟩,hcase⟩
              refine ⟨_,rfl,?_⟩
              have HS2:But (fun k=>k=Q) wr w3:=HS1.step hb3 (fun _ _ h=>h)
              have HC3:=jaa hcase
              have HB3:=jaa hb3
              clear hcase hb3
              refine hK.out _ _ HS2 (fun _=>?_)
              clear hK KK
              try simp only [pLq]
              refine wpAnyH_ready (rs:=[15]) (by kernel_rfl) (by simp) ?_
              refine (AllReadyH.cons (o:={dst:=some 12,op:=Op.alloc 27,type:=0,pos := "l08_fill.go:80",after:=#[],guard:=none}) rfl (fun KK hK=>?_) AllReadyH.nil)
              go_simp
              refine hK.out _ _ (HS2.alloc _) (fun _=>?_)
              clear hK KK
              try simp only [pLq]
              have hz:(w3.alloc (.cells #[.int .i64 0,.int .i64 0,.int .i64 0,.string ⟨#[]⟩,.slice none 0 0,.slice none 0 0] 27)).heap[w3.heap.size]? = some (.cells #[.int .i64 0,.int .i64 0,.int .i64 0,.string ⟨#[]⟩,.slice none 0 0,.slice none 0 0] 27):=han w3 _
              have y0:=crw (w3.alloc (.cells #[.int .i64 0,.int .i64 0,.int .i64 0,.string ⟨#[]⟩,.slice none 0 0,.slice none 0 0] 27)) _ 0 _ _ _ hz
              have y1:=crw (w3.alloc (.cells #[.int .i64 0,.int .i64 0,.int .i64 0,.string ⟨#[]⟩,.slice none 0 0,.slice none 0 0] 27)) _ 1 _ _ _ hz
              have y2:=crw (w3.alloc (.cells #[.int .i64 0,.int .i64 0,.int .i64 0,.string ⟨#[]⟩,.slice none 0 0,.slice none 0 0] 27)) _ 2 _ _ _ hz
              have y3:=crw (w3.alloc (.cells #[.int .i64 0,.int .i64 0,.int .i64 0,.string ⟨#[]⟩,.slice none 0 0,.slice none 0 0] 27)) _ 3 _ _ _ hz
              have y4:=crw (w3.alloc (.cells #[.int .i64 0,.int .i64 0,.int .i64 0,.string ⟨#[]⟩,.slice none 0 0,.slice none 0 0] 27)) _ 4 _ _ _ hz
              have y5:=crw (w3.alloc (.cells #[.int .i64 0,.int .i64 0,.int .i64 0,.string ⟨#[]⟩,.slice none 0 0,.slice none 0 0] 27)) _ 5 _ _ _ hz
              have yf:∀ j,(w3.alloc (.cells #[.int .i64 0,.int .i64 0,.int .i64 0,.string ⟨#[]⟩,.slice none 0 0,.slice none 0 0] 27)).frozen? ⟨w3.heap.size,j,none⟩=false:=fun j=>fzr (w3.alloc (.cells #[.int .i64 0,.int .i64 0,.int .i64 0,.string ⟨#[]⟩,.slice none 0 0,.slice none 0 0] 27)) _ j _ _ hz
              refine wpAnyH_ready (rs:=[16]) (by kernel_rfl) (by simp) ?_
              refine (AllReadyH.cons (o:={dst:=none,op:=Op.store 27 (Operand.tmp 12) (Operand.tmp 108),type:=0,pos := "l08_fill.go:80",after:=#[{on:=15,ground:=Ground.data},{on:=14,ground:=Ground.data},{on:=14,ground:=Ground.chain},{on:=0,ground:=Ground.phase},{on:=1,ground:=Ground.phase},{on:=2,ground:=Ground.phase},{on:=3,ground:=Ground.phase},{on:=4,ground:=Ground.phase},{on:=5,ground:=Ground.phase},{on:=6,ground:=Ground.phase},{on:=7,ground:=Ground.phase},{on:=8,ground:=Ground.phase},{on:=9,ground:=Ground.phase},{on:=10,ground:=Ground.phase},{on:=11,ground:=Ground.phase},{on:=12,ground:=Ground.phase},{on:=13,ground:=Ground.phase},{on:=14,ground:=Ground.phase},{on:=15,ground:=Ground.phase}],guard:=none}) rfl (fun KK hK=>?_) AllReadyH.nil)
              go_simp
              refine hK.out _ _ (HS2.alloc _) (fun _=>?_)
              clear hK KK
              try simp only [pLq]
              refine wpAnyH_done (by kernel_rfl) ?_ _
              go_wp2_with fail
              go_meet
              exact jlu HS1 HB3.out HC3.out
             ·go_simp
              refine hK.out _ _ (HS1.alloc _) (fun _=>?_)
              clear hK KK
              try simp only [pLq]
              refine wpAnyH_ready (rs:=[14]) (by kernel_rfl) (by simp) ?_
              refine (AllReadyH.cons (o:={dst:=some 108,op:=Op.call {callee:=Callee.value (Operand.func 21),args:=#[Operand.tmp 94,Operand.tmp 99,Operand.tmp 107],argTypes:=#[49,27,28]},type:=27,pos := "l08_fill.go:80",after:=#[{on:=0,ground:=Ground.data},{on:=5,ground:=Ground.data},{on:=13,ground:=Ground.data},{on:=13,ground:=Ground.chain}],guard:=none}) rfl (fun KK hK=>?_) AllReadyH.nil)
              refine jbt rfl 21 (.tmp 94) (.tmp 99) (.tmp 107) 49 27 28 rfl jdA (.pointer (some ⟨Q,0,none⟩)) (.agg #[.int .i64 (t.kid i).op,.int .i64 (t.kid i).at_,.int .i64 (t.kid i).n,.string (t.kid i).s,.slice pd (t.kid i).set.length cd,.slice pe (t.kid i).len ce]) (.slice p2 n2 c2) rfl rfl rfl _ (HFI.out _ _ _ _ (HS1.alloc _) (HG2.out.but (But.of_all (newx w2 _))) ((bha w2 _ Q (by have h1:=HS1.size;have h2:=HAS.out.2;omega)).trans HA2'.out)) ?_
              rintro e w3 ⟨hb3,x,sx,ux,rfl,⟨ps3,ls3,cs3,rfl⟩,⟨pu3,lu3,cu3,rfl⟩,hcase⟩
              refine ⟨_,rfl,?_⟩
              have HS2:But (fun k=>k=Q) wr w3:=(HS1.alloc _).step hb3 (fun _ _ h=>h)
              have HC3:=jaa hcase
              have HB3:=jaa hb3
              clear hcase hb3
              refine hK.out _ _ HS2 (fun _=>?_)
              clear hK KK
              try simp only [pLq]
              have hz:(w3).heap[w2.heap.size]? = some (.cells #[.int .i64 0,.int .i64 0,.int .i64 0,.string ⟨#[]⟩,.slice none 0 0,.slice none 0 0] 27):=HB3.out.at (han w2 _) (fun e=>by have e2:w2.heap.size=Q:=e;have h1:=HS1.size;have h2:=HAS.out.2;omega)
              have y0:=crw (w3) _ 0 _ _ _ hz
              have y1:=crw (w3) _ 1 _ _ _ hz
              have y2:=crw (w3) _ 2 _ _ _ hz
              have y3:=crw (w3) _ 3 _ _ _ hz
              have y4:=crw (w3) _ 4 _ _ _ hz
              have y5:=crw (w3) _ 5 _ _ _ hz
              have yf:∀ j,(w3).frozen? ⟨w2.heap.size,j,none⟩=false:=fun j=>fzr (w3) _ j _ _ hz
              refine wpAnyH_ready (rs:=[16]) (by kernel_rfl) (by simp) ?_
              refine (AllReadyH.cons (o:={dst:=none,op:=Op.store 27 (Operand.tmp 12) (Operand.tmp 108),type:=0,pos := "l08_fill.go:80",after:=#[{on:=15,ground:=Ground.data},{on:=14,ground:=Ground.data},{on:=14,ground:=Ground.chain},{on:=0,ground:=Ground.phase},{on:=1,ground:=Ground.phase},{on:=2,ground:=Ground.phase},{on:=3,ground:=Ground.phase},{on:=4,ground:=Ground.phase},{on:=5,ground:=Ground.phase},{on:=6,ground:=Ground.phase},{on:=7,ground:=Ground.phase},{on:=8,ground:=Ground.phase},{on:=9,ground:=Ground.phase},{on:=10,ground:=Ground.phase},{on:=11,ground:=Ground.phase},{on:=12,ground:=Ground.phase},{on:=13,ground:=Ground.phase},{on:=14,ground:=Ground.phase},{on:=15,ground:=Ground.phase}],guard:=none}) rfl (fun KK hK=>?_) AllReadyH.nil)
              go_simp
              have HS3:=But.six (G:=w2.heap.size) HS2 HS1.size (.int .i64 x.op) (.int .i64 x.at_) (.int .i64 x.n) (.string x.s) (.slice ps3 ls3 cs3) (.slice pu3 lu3 cu3)
              refine hK.out _ _ HS3 (fun _=>?_)
              clear hK KK
              try simp only [pLq]
              clear HS3
              refine wpAnyH_done (by kernel_rfl) ?_ _
              go_wp2_with fail
              go_meet
              refine jid (HS1.alloc _) HB3.out HAS.out.2 HS1.size hz ?_
              rcases HC3.out with ⟨r,S,c1,c2,c3,c4,c5,c6,c7,c8⟩|h
              ·exact .inl ⟨r,S,c1,c2,c3,c4,c5,c6,c7,fun k hk=>by have h1:=c8 k hk;simp only [World.size_alloc] at h1;have h2:=HS1.size;omega⟩
              ·exact .inr h
            ·go_simp
             refine hK.out _ _ (HS0.alloc _) (fun _=>?_)
             clear hK KK
             try simp only [pLq]
             refine wpAnyH_ready (rs:=[13]) (by kernel_rfl) (by simp) ?_
             refine (AllReadyH.cons (o:={dst:=some 107,op:=Op.call {callee:=Callee.value (Operand.func 77),args:=#[Operand.tmp 104,Operand.tmp 105,Operand.tmp 106],argTypes:=#[27,28,3]},type:=28,pos := "l08_fill.go:80",after:=#[{on:=10,ground:=Ground.data},{on:=11,ground:=Ground.data},{on:=12,ground:=Ground.data}],guard:=none}) rfl (fun KK hK=>?_) AllReadyH.nil)
             refine jbt rfl 77 (.tmp 104) (.tmp 105) (.tmp 106) 27 28 3 rfl jfY (.agg #[.int .i64 (t.kid i).op,.int .i64 (t.kid i).at_,.int .i64 (t.kid i).n,.string (t.kid i).s,.slice pd (t.kid i).set.length cd,.slice pe (t.kid i).len ce]) (.slice pl L.length cl) (.int .i64 k) rfl rfl rfl _ (HTU.out _ (((But.refl (fun k=>k=Q) wr).alloc (.cells #[.int .i64 0,.int .i64 0,.int .i64 0,.string ⟨#[]⟩,.slice none 0 0,.slice none 0 0] 27)).drew)) ?_
             rintro e w2 ⟨p2,n2,c2,rfl,hb2,hg2⟩
             refine ⟨_,rfl,?_⟩
             have HS1:But (fun k=>k=Q) wr w2:=(((But.refl (fun k=>k=Q) wr).alloc (.cells #[.int .i64 0,.int .i64 0,.int .i64 0,.string ⟨#[]⟩,.slice none 0 0,.slice none 0 0] 27)).drew).step (But.of_all hb2) (fun _ _ h=>h)
             have HG2:=jaa hg2
             have HA2':Hid (Ask w2 Q true (fuel-acc2.2.1) (room-acc2.2.2)):=(hb2.block Q (by have h1:=(((But.refl (fun k=>k=Q) wr).alloc (.cells #[.int .i64 0,.int .i64 0,.int .i64 0,.string ⟨#[]⟩,.slice none 0 0,.slice none 0 0] 27)).drew).size;have h2:=HAS.out.2;omega)).trans ((bha wr _ Q HAS.out.2).trans HAS.out.1)
             clear hg2
             refine hK.out _ _ HS1 (fun _=>?_)
             clear hK KK
             try simp only [pLq]
             refine wpAnyH_ready (rs:=[14]) (by kernel_rfl) (by simp) ?_
             refine (AllReadyH.cons (o:={dst:=some 108,op:=Op.call {callee:=Callee.value (Operand.func 21),args:=#[Operand.tmp 94,Operand.tmp 99,Operand.tmp 107],argTypes:=#[49,27,28]},type:=27,pos := "l08_fill.go:80",after:=#[{on:=0,ground:=Ground.data},{on:=5,ground:=Ground.data},{on:=13,ground:=Ground.data},{on:=13,ground:=Ground.chain}],guard:=none}) rfl (fun KK hK=>?_) AllReadyH.nil)
             refine jbt rfl 21 (.tmp 94) (.tmp 99) (.tmp 107) 49 27 28 rfl jdA (.pointer (some ⟨Q,0,none⟩)) (.agg #[.int .i64 (t.kid i).op,.int .i64 (t.kid i).at_,.int .i64 (t.kid i).n,.string (t.kid i).s,.slice pd (t.kid i).set.length cd,.slice pe (t.kid i).len ce]) (.slice p2 n2 c2) rfl rfl rfl _ (HFI.out _ _ _ _ HS1 HG2.out HA2'.out) ?_
             rintro e w3 ⟨hb3,x,sx,ux,rfl,⟨ps3,ls3,cs3,rfl⟩,⟨pu3,lu3,cu3,rfl⟩,hcase⟩
             refine ⟨_,rfl,?_⟩
             have HS2:But (fun k=>k=Q) wr w3:=HS1.step hb3 (fun _ _ h=>h)
             have HC3:=jaa hcase
             have HB3:=jaa hb3
             clear hcase hb3
             refine hK.out _ _ HS2 (fun _=>?_)
             clear hK KK
             try simp only [pLq]
             have hz:(w3).heap[wr.heap.size]? = some (.cells #[.int .i64 0,.int .i64 0,.int .i64 0,.string ⟨#[]⟩,.slice none 0 0,.slice none 0 0] 27):=(HB3.out.at ((hb2.block _ (by show wr.heap.size<(wr.alloc (.cells #[.int .i64 0,.int .i64 0,.int .i64 0,.string ⟨#[]⟩,.slice none 0 0,.slice none 0 0] 27)).heap.size;simp)).trans (han wr (.cells #[.int .i64 0,.int .i64 0,.int .i64 0,.string ⟨#[]⟩,.slice none 0 0,.slice none 0 0] 27))) (fun e=>by have e2:wr.heap.size=Q:=e;have h2:=HAS.out.2;omega))
             have y0:=crw (w3) _ 0 _ _ _ hz
             have y1:=crw (w3) _ 1 _ _ _ hz
             have y2:=crw (w3) _ 2 _ _ _ hz
             have y3:=crw (w3) _ 3 _ _ _ hz
             have y4:=crw (w3) _ 4 _ _ _ hz
             have y5:=crw (w3) _ 5 _ _ _ hz
             have yf:∀ j,(w3).frozen? ⟨wr.heap.size,j,none⟩=false:=fun j=>fzr (w3) _ j _ _ hz
             refine wpAnyH_ready (rs:=[16]) (by kernel_rfl) (by simp) ?_
             refine (AllReadyH.cons (o:={dst:=none,op:=Op.store 27 (Operand.tmp 12) (Operand.tmp 108),type:=0,pos := "l08_fill.go:80",after:=#[{on:=15,ground:=Ground.data},{on:=14,ground:=Ground.data},{on:=14,ground:=Ground.chain},{on:=0,ground:=Ground.phase},{on:=1,ground:=Ground.phase},{on:=2,ground:=Ground.phase},{on:=3,ground:=Ground.phase},{on:=4,ground:=Ground.phase},{on:=5,ground:=Ground.phase},{on:=6,ground:=Ground.phase},{on:=7,ground:=Ground.phase},{on:=8,ground:=Ground.phase},{on:=9,ground:=Ground.phase},{on:=10,ground:=Ground.phase},{on:=11,ground:=Ground.phase},{on:=12,ground:=Ground.phase},{on:=13,ground:=Ground.phase},{on:=14,ground:=Ground.phase},{on:=15,ground:=Ground.phase}],guard:=none}) rfl (fun KK hK=>?_) AllReadyH.nil)
             go_simp
             have HS3:=But.six (G:=wr.heap.size) HS2 (nlr _) (.int .i64 x.op) (.int .i64 x.at_) (.int .i64 x.n) (.string x.s) (.slice ps3 ls3 cs3) (.slice pu3 lu3 cu3)
             refine hK.out _ _ HS3 (fun _=>?_)
             clear hK KK
             try simp only [pLq]
             clear HS3
             refine wpAnyH_done (by kernel_rfl) ?_ _
             go_wp2_with fail
             go_meet
             refine jid HS1 HB3.out HAS.out.2 (nlr _) hz ?_
             rcases HC3.out with ⟨r,S,c1,c2,c3,c4,c5,c6,c7,c8⟩|h
             ·exact .inl ⟨r,S,c1,c2,c3,c4,c5,c6,c7,fun k hk=>by have h1:=c8 k hk;have h2:wr.heap.size+1≤w2.heap.size:=(by have h3:(wr.alloc (.cells #[.int .i64 0,.int .i64 0,.int .i64 0,.string ⟨#[]⟩,.slice none 0 0,.slice none 0 0] 27)).heap.size≤w2.heap.size:=hb2.size;simpa using h3);omega⟩
             ·exact .inr h
           case rest =>
            obtain ⟨G,x,ps3,ls3,cs3,pu3,lu3,cu3,rfl,h6,hbx,hcase⟩:=hcut
            obtain ⟨y0,y1,y2,y3,y4,y5⟩:=h6.cells
            have HC3:=jaa hcase
            have HB3:=jaa hbx
            have HRW:Hid (∀ o2,(wc.alloc o2).ownsRow 0 27 6 (.slice p8 n8 c8) acc2.1.length (jau la2)):=fun o2=>(HKO2.out.row hQ HB3.out).alloc o2
            have hac:acc2.1.length≤4000:=by have h1:=HKO2.out.few;have h2:=HKO2.out.f;omega
            have hlvb:Hid ((Value.slice p8 n8 c8).ownBlock≠none):=HKO2.out.lvb
            clear hcase hbx h6 HTU HFI HXF q0 q1 q2 qf
            generalize hal:acc2.1.length=al at *
            have HAL:=jaa hal
            clear hal
            go_wp2_with (at_builtin;refine jas _ rfl (.tmp 109) (.tmp 111) 25 rfl 0 27 iS (.agg #[.int .i64 0,.int .i64 0,.int .i64 0,.string ⟨#[]⟩,.slice none 0 0,.slice none 0 0]) 6 88 Tryz.underlying25 hiS hzS0 hzS1 hzS2 rfl (by decide) (.slice p8 n8 c8) al (jau la2) rfl (HRW.out _) hlvb.out (some ⟨wc.heap.size,0,none⟩) 1 1 [.int .i64 x.op,.int .i64 x.at_,.int .i64 x.n,.string x.s,.slice ps3 ls3 cs3,.slice pu3 lu3 cu3] rfl rfl (by simp) (fun ad had=>by injection had with had;subst had;exact World.news_of_block (cs:=#[.int .i64 x.op,.int .i64 x.at_,.int .i64 x.n,.string x.s,.slice ps3 ls3 cs3,.slice pu3 lu3 cu3]) (t:=27) (fr:=(0,0)) (han wc _)) (by simp [Value.oneCell']) (by unfold maxLen;omega) (by omega) (Nat.zero_le _) ?_;intro v' w5 hown5 hg5 hwh5)
            have HN2:Hid (KT w t (.slice ps t.set.length cs) (.slice (some ⟨b,o,none⟩) t.len cu) Q N L fuel room M i (k+1) acc v' w5):=by
             have hk2:=HKO2.out
             obtain ⟨n1,n2,n3,n4,n5⟩:=jki (O:=jaI (t.kid i) (jaA L k (jam (t.kid i))++L)) hQ HNE.out hk2.but hk2.box hk2.sz hk2.few hk2.lvb hk2.bld HB3.out (by rw [HAL.out];exact hown5.out) hg5.out hwh5.out (fun r hr=>jei _ _ r hr) HC3.out
             refine ⟨n1,n2,n3,n4,?_⟩
             rcases n5 with ⟨r,m1,m2⟩|⟨m1,m2⟩
             ·exact .inl ⟨a.join r,acc2.join r,by rw [HA2.out,FX.assoc],jjj HT2.out m1,m2⟩
             ·exact .inr ⟨m1,jnk HA.out HRO.out (by rw [←HTM.out];exact hkt) HT2.out (by rw [←HA2.out];exact m2)⟩
            clear hown5 hg5 hwh5 y0 y1 y2 y3 y4 y5
            go_wp2_with fail
            go_roundw
            case rel=>first|exact ⟨k+1,by go_num,by omega,HN2.out,fun h=>by omega⟩|((repeat apply Exists.intro);exact ⟨⟨k+1,by go_num,by omega,HN2.out,fun h=>by omega⟩,rfl⟩)
            case measure=>simp [intOf];omega
          ·have hke:(k:Int)=tm∨tm<0:=by omega
           have HE:Hid (KR w t (.slice ps t.set.length cs) (.slice (some ⟨b,o,none⟩) t.len cu) Q N L fuel room M (i+2) (.slice p8 n8 c8) wr):=by
            rcases hke with h|h
            ·exact HKT2.out.done HA.out HRO.out (by rw [h];exact HTM.out)
            ·exfalso
             obtain ⟨f',m',h2⟩:=HNG.out h
             have a0:=HKO2.out.ask.cells.1
             rw [h2.cells.1] at a0
             injection a0 with a0
             injection a0 with a0
             cases a0
           go_wp2_with fail
           go_roundw
           case rel=>first|exact ⟨i+2,by go_num,by have:=HI2.out.1;omega,HE.out⟩|((repeat apply Exists.intro);exact ⟨⟨i+2,by go_num,by have:=HI2.out.1;omega,HE.out⟩,rfl⟩)
           case measure=>simp [intOf];omega
         ·obtain ⟨q0,q1,q2,qf⟩:=k1.cells
          have HE:=jaa (HKT2.out.over k1 (i+2))
          clear k1 k2 h1 h2 h3
          by_cases hkt:(k:Int)<tm
          ·go_wp2_with fail
           go_roundw
           case rel=>first|exact ⟨i+2,by go_num,by have:=HI2.out.1;omega,HE.out⟩|((repeat apply Exists.intro);exact ⟨⟨i+2,by go_num,by have:=HI2.out.1;omega,HE.out⟩,rfl⟩)
           case measure=>simp [intOf];omega
          ·go_wp2_with fail
           go_roundw
           case rel=>first|exact ⟨i+2,by go_num,by have:=HI2.out.1;omega,HE.out⟩|((repeat apply Exists.intro);exact ⟨⟨i+2,by go_num,by have:=HI2.out.1;omega,HE.out⟩,rfl⟩)
           case measure=>simp [intOf];omega
   ·go_wp2_with fail
    go_ret
    exact HKR.out.done (by omega) hf1 HNE.out
  ·obtain ⟨q0,q1,q2,qf⟩:=k1.cells
   have HA:=jaa k1
   by_cases hlt:(i:Int)<t.len
   ·go_wp2_with fail
    go_ret
    exact HKR.out.stop HA.out
   ·go_wp2_with fail
    go_ret
    exact HKR.out.stop HA.out
end Go.Proofs.YtjmlfacbcfbhdaaGreatDoor
