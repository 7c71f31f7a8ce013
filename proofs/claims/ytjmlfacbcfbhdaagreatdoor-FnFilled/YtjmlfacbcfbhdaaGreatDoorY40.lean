/- impl.filledKids, out of the filler of each kid. Conditions: the kids are written plainly; at most 2^21 of each. -/
import Derived.Test.YtjmlfacbcfbhdaaGreatDoorYA
import Derived.Test.YtjmlfacbcfbhdaaGreatDoorY39
import Derived.Test.YtjmlfacbcfbhdaaGreatDoorY20
set_option maxRecDepth 100000
set_option maxHeartbeats 8000000
namespace Go.Proofs.YtjmlfacbcfbhdaaGreatDoor
open Go.ChangeShapes Go.WideShapes Go.ChangeAt Go.RowKit
theorem jjM {acc:FX} {M O R:Option FX} {c:Nat} (hM:M=R.map (fun b=>acc.join b)) (hR:∀ r,R=some r→∃ a b,O=some a∧r=a.join b) (hf:∀ r,O=some r→4000<c+acc.2.1+r.2.1):∀ r,M=some r→4000<c+r.2.1:=by
 intro r hr
 rw [hM] at hr
 obtain ⟨b,h1,rfl⟩:=jar hr
 obtain ⟨a,b',h2,rfl⟩:=hR b h1
 have:=hf a h2
 show 4000<c+(acc.2.1+(a.2.1+b'.2.1))
 omega
theorem jgh {O R':Option FX}:∀ r,(O.bind fun a=>R'.map fun b=>a.join b)=some r→∃ a b,O=some a∧r=a.join b:=by
 intro r hr
 obtain ⟨a,h1,h2⟩:=bind_some hr
 obtain ⟨b,_,h3⟩:=jar h2
 exact ⟨a,b,h1,h3.symm⟩
theorem jkC (a b c:FX):(a.join b).join c=a.join (b.join c):=by
 unfold FX.join
 simp only [List.append_assoc,Nat.add_assoc]
theorem jjN {acc o:FX} {M R R':Option FX} (hM:M=R.map (fun b=>acc.join b)) (hR:R=(some o).bind fun a=>R'.map fun b=>a.join b):M=R'.map (fun b=>(acc.join o).join b):=by
 rw [hM,hR]
 cases R' with
 | none=>rfl
 | some b=>exact congrArg some (jkC _ _ _).symm
structure KidK (K B:Nat) (w0 W:World) (a:Addr) (c:Nat) (t:X) (L:List G) (i:Nat) (acc:FX) (lv:Value) (la:List XR) (wr:World):Prop where
 rem:remF t L 0=(remF t L i).map (fun b=>acc.join b)
 le:acc.1.length≤acc.2.1
 fil:FillerAt K B w0 wr a (c+acc.2.1)
 but:But (fun j=>j=K) W wr
 row:RowA w0.heap.size W.heap.size wr lv acc.1 la
theorem KidK.next {K B:Nat} {w0 W:World} {a:Addr} {c:Nat} {t:X} {L:List G} {i i':Nat} {acc r:FX} {lv lv':Value} {la l2:List XR} {wr wc w5:World}
  (h:KidK K B w0 W a c t L i acc lv la wr) (hF:FillerAt K B w0 W a c) (hR:remF t L i=(some r).bind fun a=>(remF t L i').map fun b=>a.join b) (hle:r.1.length≤r.2.1) (hb:But (fun j=>j=K) wr wc) (h3:CountAt K wc (c+acc.2.1+r.2.1)) (h4:c+acc.2.1+r.2.1≤4000)
  (hm:l2.map (·.1)=r.1) (hne:r.1≠[]) (h5:EachF w0.heap.size W.heap.size wc lv l2)
  (hown:w5.ownsRow W.heap.size 27 6 lv' (acc.1.length+r.1.length) (jau la++jau l2)) (hg:wc.grownBy w5 lv.ownBlock) (hat:lv'.ownBlock=lv.ownBlock∨lv'.ownBlock=some wc.heap.size) :
  ∃ p n1 c1,lv'=.slice p n1 c1∧KidK K B w0 W a c t L i' (acc.join r) lv' (la++l2) w5:=by
 have hKW:K<W.heap.size:=(aes.1 hF.cnt).1
 have hS:=hF.ne.2.1
 have hrow:=h.row.but hb ⟨hS,hKW⟩
 have hnew:RowA w0.heap.size W.heap.size w5 lv' (acc.1++r.1) (la++l2):=RowA.app hrow h5 hm hne hown hg hat
 have hgr:∀ g,lv.ownBlock=some g→W.heap.size≤g:=fun g hg=>(h.row.lt hg).1
 have hbut:But (fun j=>j=K) W w5:=(h.but.trans hb).grown hg (fun g hg'=>.inl (hgr g hg'))
 obtain ⟨p,c1,e,_⟩:=hnew.shape
 refine ⟨p,_,c1,e,jjN h.rem hR,?_,?_,hbut,hnew⟩
 ·have h1:=h.le
  show (acc.1++r.1).length≤acc.2.1+r.2.1
  rw [lla];omega
 ·have hc2:CountAt K w5 (c+(acc.join r).2.1):=by
   show CountAt K w5 (c+(acc.2.1+r.2.1))
   rw [←Nat.add_assoc]
   exact (hg.block K (aes.1 h3).1 (fun e=>by have:=hgr K e.symm;omega)).trans h3
  refine hF.but hbut hc2 ?_
  show c+(acc.2.1+r.2.1)≤4000
  omega
theorem KidK.none {K B:Nat} {w0 W:World} {a:Addr} {c:Nat} {t:X} {L:List G} {i i':Nat} {acc r:FX} {lv:Value} {la:List XR} {wr wc:World}
  (h:KidK K B w0 W a c t L i acc lv la wr) (hF:FillerAt K B w0 W a c) (hR:remF t L i=(some r).bind fun a=>(remF t L i').map fun b=>a.join b) (hb:But (fun j=>j=K) wr wc) (h3:CountAt K wc (c+acc.2.1+r.2.1)) (h4:c+acc.2.1+r.2.1≤4000) (hn:r.1=[]) :
  KidK K B w0 W a c t L i' (acc.join r) lv la wc:=by
 have hKW:K<W.heap.size:=(aes.1 hF.cnt).1
 have hrow:=h.row.but hb ⟨hF.ne.2.1,hKW⟩
 refine ⟨jjN h.rem hR,?_,hF.but (h.but.trans hb) (by show CountAt K wc (c+(acc.2.1+r.2.1));rw [←Nat.add_assoc];exact h3) (by show c+(acc.2.1+r.2.1)≤4000;omega),h.but.trans hb,?_⟩
 ·have h1:=h.le
  show (acc.1++r.1).length≤acc.2.1+r.2.1
  rw [hn,lan];omega
 ·show RowA _ _ _ _ (acc.1++r.1) _
  rw [hn,lan];exact hrow
theorem jiv {K B:Nat} {w0 W:World} {a:Addr} {c:Nat} {f:Value} {L:List G} (t:X) (u:Value) (hp:PlainX t) (hfi:∀ i,i<t.len→jih K B w0 a (t.kid i)) (hF:FillerAt K B w0 W a c) (hf:Finds K w0 W f L) (hL:FullL L) (hu:XsAt 0 w0 t.len t.kid u) (hc:t.count≤2097152) :
  Calls Tryz.prog 66 #[u,f,jcX K B] W fun e w'=>jgf w0.heap.size K a (remF t L 0) c W w' e:=by
 obtain ⟨pu,cu,e1,hlen,hat⟩:=hu.at
 subst e1
 have HAT:Hid (∀ i,i<t.len→∃ b o sv u,pu=some ⟨b,o,none⟩∧Head6 w0 b (o+i*6) (t.kid i) sv u∧(t.kid i).At 0 w0 sv u):=hat
 have HP:Hid (PlainX t∧(∀ i,i<t.len→jih K B w0 a (t.kid i))∧FullL L∧Finds K w0 W f L):=⟨hp,hfi,hL,hf⟩
 have HF:Hid (FillerAt K B w0 W a c):=hF
 have hKW:K<W.heap.size:=(aes.1 hF.cnt).1
 have HCT:Hid (∀ i,i<t.len→(t.kid i).count≤2097152):=fun i hi=>by
  have h1:=jbo (fun i=>(t.kid i).count) i t.len hi
  have h2:=t.count_eq
  omega
 have hlc:t.len≤2097152:=by
  have h2:=t.count_eq
  have h3:t.len≤sumX (fun i=>(t.kid i).count) t.len:=by
   have:∀ k,k≤sumX (fun i=>(t.kid i).count) k:=by
    intro k
    induction k with
    | zero=>exact nzl _
    | succ k ih =>
     have h4:1≤(t.kid k).count:=by rw [X.count_eq];omega
     show k+1≤sumX _ k+(t.kid k).count
     omega
   exact this t.len
  omega
 have HS0:Hid (KidK K B w0 W a c t L 0 ([],0,0) (.slice none 0 0) [] W):=by
  refine ⟨?_,nlr _,hF,But.refl _ _,RowA.nil _ _ _⟩
  cases remF t L 0 with
  | none=>rfl
  | some b=>show some _=some _;unfold FX.join;simp
 clear hp hfi hF hf hL hu hc hat hlen
 unfold jcX
 go_enter Tryz.func66,Tryz.ntmps66
 go_wp2_with fail
 go_loopw [9,8] (fun i lv wr=>∃ (k:Nat) (acc:FX) (la:List XR) (p8:Option Addr) (n8 c8:Nat),i=.int .i64 k∧k≤t.len∧lv=.slice p8 n8 c8∧KidK K B w0 W a c t L k acc lv la wr) (fun i _ _=>t.len-(intOf i).toNat)
 case atStart=>exact ⟨0,_,_,_,_,_,rfl,nzl _,rfl,HS0.out⟩
 case round =>
  obtain ⟨k,acc,la,p8,n8,c8,rfl,hk,rfl,hst⟩:=hrel
  have HST:=jad hst
  clear hst HS0
  by_cases hlt:(k:Int)<t.len
  ·have hlt':k<t.len:=by omega
   obtain ⟨b,o,sv,uv,hpu,hd,hka⟩:=HAT.out k hlt'
   subst hpu
   obtain ⟨pv,cv,ev⟩:=hka.sets.shape
   obtain ⟨px,cx,ex⟩:=hka.xs.shape
   subst ev ex
   have HKA:Hid ((t.kid k).At 0 w0 (.slice pv (t.kid k).set.length cv) (.slice px (t.kid k).len cx)∧Head6 w0 b (o+k*6) (t.kid k) (.slice pv (t.kid k).set.length cv) (.slice px (t.kid k).len cx)):=⟨hka,hd⟩
   have HBW:Hid (Below w0.heap.size w0 wr):=HST.out.fil.bel
   obtain ⟨d0,d1,d2,d3,d4,d5⟩:=hd.below HBW.out
   clear hka hd
   have HFN:Hid (∀ wq,But (fun j=>j=K) W wq→Finds K w0 wq f L):=fun wq h=>HP.out.2.2.2.but h
   obtain ⟨DD,hDD⟩:∃ DD,(decide (k+1<t.len)&&jan (t.kid (k+1)))=DD:=⟨_,rfl⟩
   have HDD:=jad hDD
   clear hDD
   go_upto_region 5 with fail
   go_cut [32] from 20 to 32 (fun z wx=>z=.bool DD∧Below wr.heap.size wr wx)
   case first =>
    by_cases hn:(k:Int)+1<t.len
    ·have hn':k+1<t.len:=by omega
     obtain ⟨b2,o2,sw,uw,hp2,hd2,hka2⟩:=HAT.out (k+1) hn'
     simp only [Option.some.injEq,Addr.mk.injEq,and_true] at hp2
     obtain ⟨rfl,rfl⟩:=hp2
     obtain ⟨g0,g1,g2,g3,g4,g5⟩:=hd2.below HBW.out
     obtain ⟨pw,cw,ew⟩:=hka2.sets.shape
     obtain ⟨py,cy,ey⟩:=hka2.xs.shape
     subst ew ey
     have HDE:Hid (jan (t.kid (k+1))=DD):=by show _=_;rw [←HDD.out,dqt hn',Bool.true_and]
     clear hd2 hka2 d0 d1 d2 d3 d4 d5
     go_wp2_with (go_at_call 89;refine (jiE (t.kid (k+1)) _ _ _).mono ?_;rintro e w1 ⟨rfl,hb1⟩;rw [HDE.out])
     go_meet
     exact ⟨rfl,hb1⟩
    ·have HDE:Hid (DD=false):=by show _=_;rw [←HDD.out,dqf (by omega)];rfl
     clear d0 d1 d2 d3 d4 d5
     go_wp2_with fail
     go_meet
     exact ⟨by rw [HDE.out],brf _ _⟩
   case rest =>
   obtain ⟨rfl,hwb⟩:=hcut
   have HWB:=jad hwb
   have HFL:Hid (FillerAt K B w0 wc a (c+acc.2.1)∧Finds K w0 wc f L∧But (fun j=>j=K) wr wc∧But (fun j=>j=K) W wc):=⟨HST.out.fil.below hwb,HFN.out _ (HST.out.but.trans (But.of_all hwb)),But.of_all hwb,HST.out.but.trans (But.of_all hwb)⟩
   have e0:=jat hwb _ _ d0
   have e1:=jat hwb _ _ d1
   have e2:=jat hwb _ _ d2
   have e3:=jat hwb _ _ d3
   have e4:=jat hwb _ _ d4
   have e5:=jat hwb _ _ d5
   clear hwb d0 d1 d2 d3 d4 d5
   have hac:acc.1.length≤4000:=by have a1:=HST.out.le;have a2:=HST.out.fil.few;omega
   obtain ⟨iS,hiS,hzS0,hzS1,hzS2⟩:=info_parts jcI
   cases DD with
   | true =>
    have hDN:k+1<t.len∧jan (t.kid (k+1))=true:=by have:=HDD.out;rw [Bool.and_eq_true,decide_eq_true_eq] at this;exact this
    have HR:Hid (remF t L k=(jcc (t.kid k) L).bind fun a=>(remF t L (k+2)).map fun b=>a.join b):=jmP HP.out.1 hDN.1 hDN.2
    have HOF:Hid (Calls Tryz.prog 90 #[.agg #[.int .i64 (t.kid k).op,.int .i64 (t.kid k).at_,.int .i64 (t.kid k).n,.string (t.kid k).s,.slice pv (t.kid k).set.length cv,.slice px (t.kid k).len cx],f,.func (.func 63) #[] #[.pointer (some ⟨K,0,none⟩),.pointer (some ⟨B,0,none⟩)]] wc fun e w'=>jgf w0.heap.size K a (jcc (t.kid k) L) (c+acc.2.1) wc w' e) :=
     jhz (t.kid k) _ _ (HP.out.1.kid hlt') (HP.out.2.1 k hlt') HFL.out.1 HFL.out.2.1 HP.out.2.2.1 HKA.out.1 (HCT.out k hlt')
    have hk2:k+2≤t.len:=by omega
    clear hDN HDD
    go_wp2_with fail
    refine HOF.out.mono ?_
    rintro e w2 ⟨hb2,hcase⟩
    have HB2:=jad hb2
    clear hb2 e0 e1 e2 e3 e4 e5
    rcases hcase with ⟨r,v,l2,h1,h2,h3,h4,rfl,h6⟩|⟨h1,rfl⟩
    ·have HRR:=jad (And.intro h2 (And.intro h3 (And.intro h4 h6)))
     have HR2:Hid (remF t L k=(some r).bind fun a=>(remF t L (k+2)).map fun b=>a.join b):=by have:=HR.out;rw [h1] at this;exact this
     obtain ⟨p1,c1,ev,hev⟩:=h6.shape
     have hrl:r.1.length≤4000:=by omega
     have HBT:Hid (But (fun j=>j=K) wr w2):=HFL.out.2.2.1.trans HB2.out
     have HRW:Hid (w2.ownsRow W.heap.size 27 6 (.slice p8 n8 c8) acc.1.length (jau la)):=(HST.out.row.but HBT.out ⟨HF.out.ne.2.1,by omega⟩).row
     subst ev
     by_cases hrn:r.1=[]
     ·have ep:p1=none∧c1=0∧r.1.length=0:=by
       have:=HRR.out.2.2.2.emp hrn
       rw [hrn] at this
       simp only [List.length_nil,Value.slice.injEq,true_and] at this
       exact ⟨this.1,this.2,by rw [hrn];rfl⟩
      obtain ⟨rfl,rfl,el⟩:=ep
      have HNX:=jad (HST.out.none HF.out HR2.out HBT.out HRR.out.2.1 HRR.out.2.2.1 hrn)
      rw [el]
      clear h1 h2 h3 h4 h6 hev el hrn
      generalize acc.1.length=al at *
      go_wp2_with (at_builtin;refine wpList_append_own_none rfl (.tmp 46) (.tmp 47) 25 rfl W.heap.size 27 iS 6 Tryz.underlying25 hiS (.slice p8 n8 c8) al (jau la) rfl HRW.out rfl ?_)
      go_roundw
      case rel=>exact ⟨k+2,_,_,_,_,_,by go_num,by omega,rfl,HNX.out⟩
      case measure=>simp [intOf];omega
     ·obtain ⟨ao,cc,es,hnone,hsrc⟩:=jez h6.row
      simp only [Value.slice.injEq,true_and] at es
      obtain ⟨rfl,rfl⟩:=es
      have hsm:∃ ad,p1=some ad:=by
       cases p1 with
       | none=>exact absurd (hev rfl).1 hrn
       | some ad=>exact ⟨ad,rfl⟩
      obtain ⟨ad,rfl⟩:=hsm
      have HSR:Hid (∀ j u,(jau l2)[j]? = some u→w2.cell? (ad.add j)=some u):=hsrc ad rfl
      have HL2:Hid ((jau l2).length=r.1.length*6∧(∀ y∈jau l2,y.oneCell'=true)):=⟨by rw [jdc,h6.len],h6.one⟩
      have hr0:0<r.1.length:=List.length_pos_iff.2 hrn
      have HSW:Hid (W.heap.size≤w2.heap.size):=Nat.le_trans HFL.out.2.2.2.size HB2.out.size
      have HRN:=jad hrn
      clear h1 h2 h3 h4 h6 hev hnone hsrc hrn
      generalize hal:acc.1.length=al at *
      have HAL:=jad hal
      generalize hrm:r.1.length=rm at *
      have HRM:=jad hrm
      clear hal hrm
      go_wp2_with (at_builtin;refine jbg _ rfl (.tmp 46) (.tmp 47) 25 rfl W.heap.size 27 iS (.agg #[.int .i64 0,.int .i64 0,.int .i64 0,.string ⟨#[]⟩,.slice none 0 0,.slice none 0 0]) 6 88 Tryz.underlying25 hiS hzS0 hzS1 hzS2 rfl (by decide) (.slice p8 n8 c8) al (jau la) rfl HRW.out ad rm c1 (jau l2) rfl HL2.out.1 HSR.out HL2.out.2 (by unfold maxLen;omega) (by omega) HSW.out hr0 ?_)
      intro v' w5 hown hg5 hat5
      have HNX:=jad (HST.out.next (lv':=v') HF.out HR2.out (by rw [HRM.out];exact HRR.out.1) HBT.out HRR.out.2.1 HRR.out.2.2.1 HRR.out.2.2.2.map HRN.out (EachF.late HRR.out.2.2.2.each HFL.out.2.2.2.size HF.out.bel.size (fun g hg=>⟨(HST.out.row.lt hg).1,nll (HST.out.row.lt hg).2 HFL.out.2.2.1.size⟩)) (by rw [HAL.out,HRM.out];exact hown.out) hg5.out hat5.out)
      clear hown hg5 hat5
      obtain ⟨p9,n9,c9,e9,h9⟩:=HNX.out
      subst e9
      have HN9:=jad h9
      clear h9 HNX
      go_wp2_with fail
      go_roundw
      case rel=>exact ⟨k+2,_,_,_,_,_,by go_num,by omega,rfl,HN9.out⟩
      case measure=>simp [intOf];omega
    ·have HX:Hid (∀ r,remF t L 0=some r→4000<c+r.2.1):=jjM HST.out.rem (by rw [HR.out];exact jgh) h1
     have HB:Hid (But (fun j=>j=K) W w2):=HFL.out.2.2.2.trans HB2.out
     clear h1
     unfold errV
     go_wp2_with fail
     refine bpr (results_tmp2 rfl _ _ _) rfl ?_
     exact ⟨HB.out,.inr ⟨HX.out,rfl⟩⟩
   | false =>
    have HR:Hid (remF t L k=(jaX (t.kid k) L).bind fun a=>(remF t L (k+1)).map fun b=>a.join b):=jpg hlt' (fun h=>by have:=HDD.out;rw [dqt h.1,h.2] at this;cases this)
    have HOF:Hid (Calls Tryz.prog 63 #[.agg #[.int .i64 (t.kid k).op,.int .i64 (t.kid k).at_,.int .i64 (t.kid k).n,.string (t.kid k).s,.slice pv (t.kid k).set.length cv,.slice px (t.kid k).len cx],f,.pointer (some ⟨K,0,none⟩),.pointer (some ⟨B,0,none⟩)] wc fun e w'=>jeI w0.heap.size K a (jaX (t.kid k) L) (c+acc.2.1) wc w' e) :=
     HP.out.2.1 k hlt' L f wc _ _ _ HFL.out.1 HFL.out.2.1 HP.out.2.2.1 HKA.out.1
    clear HDD
    go_wp2_with fail
    refine HOF.out.mono ?_
    rintro e w2 hpart
    obtain ⟨x,p3,q3,n1,n2,n3,n4,ev,rfl,hb2,hcase⟩:=jbI hpart
    have HB2:=jad hb2
    clear hpart hb2 e0 e1 e2 e3 e4 e5
    rcases hcase with ⟨r,F,h1,h2,h3,h4,rfl,h5,h7⟩|⟨h1,rfl⟩
    ·have HRR:=jad (And.intro h2 (And.intro h3 (And.intro h4 (And.intro h5 h7))))
     have HPS:=jad (jfo h1)
     have HR2:Hid (remF t L k=(some r).bind fun a=>(remF t L (k+1)).map fun b=>a.join b):=by have:=HR.out;rw [h1] at this;exact this
     have HBT:Hid (But (fun j=>j=K) wr w2):=HFL.out.2.2.1.trans HB2.out
     have HRW:Hid (∀ ob oc,((w2.alloc ob).alloc oc).ownsRow W.heap.size 27 6 (.slice p8 n8 c8) acc.1.length (jau la)):=fun ob oc=>(((HST.out.row.but HBT.out ⟨HF.out.ne.2.1,by omega⟩).below (newx w2 ob)).below (newx _ oc)).row
     have HSW:Hid (∀ ob oc,W.heap.size≤((w2.alloc ob).alloc oc).heap.size):=fun ob oc=>by have a1:=HFL.out.2.2.2.size;have a2:=HB2.out.size;simp;omega
     clear h1 h2 h3 h4 h5 h7
     generalize hal:acc.1.length=al at *
     have HAL:=jad hal
     clear hal
     go_wp2_with (at_builtin;refine jbg _ rfl (.tmp 64) (.tmp 66) 25 rfl W.heap.size 27 iS (.agg #[.int .i64 0,.int .i64 0,.int .i64 0,.string ⟨#[]⟩,.slice none 0 0,.slice none 0 0]) 6 88 Tryz.underlying25 hiS hzS0 hzS1 hzS2 rfl (by decide) (.slice p8 n8 c8) al (jau la) rfl (HRW.out _ _) ⟨w2.heap.size+1,0,none⟩ 1 1 [.int .i64 x.op,.int .i64 x.at_,.int .i64 x.n,.string x.s,.slice p3 n1 n2,.slice q3 n3 n4] rfl rfl ?c1 ?c2 ?c3 ?c4 (HSW.out _ _) (by omega) ?_)
     case c1 =>
      have:=han (w2.alloc (.cells #[.int .i64 x.op,.int .i64 x.at_,.int .i64 x.n,.string x.s,.slice p3 n1 n2,.slice q3 n3 n4] 27)) (.cells #[.int .i64 x.op,.int .i64 x.at_,.int .i64 x.n,.string x.s,.slice p3 n1 n2,.slice q3 n3 n4] 27)
      rw [World.size_alloc] at this
      exact World.news_of_block (cs:=#[.int .i64 x.op,.int .i64 x.at_,.int .i64 x.n,.string x.s,.slice p3 n1 n2,.slice q3 n3 n4]) (t:=27) (fr:=(0,0)) this
     case c2=>intro u hu;simp at hu;rcases hu with rfl|rfl|rfl|rfl|rfl|rfl <;> rfl
     case c3=>unfold maxLen;omega
     case c4=>omega
     intro v' w5 hown hg5 hat5
     obtain ⟨r2,r3,r4,r5,r6⟩:=HRR.out
     have HNX:=jad (KidK.next (lv':=v') (l2:=[(x,.slice p3 n1 n2,.slice q3 n3 n4)]) HST.out HF.out HR2.out (by rw [r2];exact HPS.out.1) (((HBT.out.alloc _).alloc _)) ((r3.below (newx w2 _)).below (newx _ _)) r4 r2.symm (by rw [r2];simp) (EachF.one ((r5.below (newx w2 _)).below (newx _ _)) r6 HFL.out.2.2.2.size HF.out.bel.size (fun g hg=>⟨(HST.out.row.lt hg).1,nll (HST.out.row.lt hg).2 HFL.out.2.2.1.size⟩)) (by rw [HAL.out,r2];exact hown.out) hg5.out (by have:=hat5.out;simpa using this))
     clear hown hg5 hat5 r2 r3 r4 r5 r6
     obtain ⟨p9,n9,c9,e9,h9⟩:=HNX.out
     subst e9
     have HN9:=jad h9
     clear h9 HNX
     go_wp2_with fail
     go_roundw
     case rel=>exact ⟨k+1,_,_,_,_,_,by go_num,by omega,rfl,HN9.out⟩
     case measure=>simp [intOf];omega
    ·have HX:Hid (∀ r,remF t L 0=some r→4000<c+r.2.1):=jjM HST.out.rem (by rw [HR.out];exact jgh) h1
     have HB:Hid (∀ ob,But (fun j=>j=K) W (w2.alloc ob)):=fun ob=>(HFL.out.2.2.2.trans HB2.out).alloc ob
     clear h1
     unfold errV
     go_wp2_with fail
     refine bpr (results_tmp2 rfl _ _ _) rfl ?_
     exact ⟨HB.out _,.inr ⟨HX.out,rfl⟩⟩
  ·have hke:k=t.len:=by omega
   have HFIN:Hid (jgf w0.heap.size K a (remF t L 0) c W wr (.returned (.tuple #[.slice p8 n8 c8,.nilIface]))):=by
    refine ⟨HST.out.but,.inl ⟨acc,_,la,?_,HST.out.le,HST.out.fil.cnt,HST.out.fil.few,rfl,HST.out.row⟩⟩
    rw [HST.out.rem,jdn t L (by omega)]
    show some _=some _
    unfold FX.join
    simp
   clear HST
   go_wp2_with fail
   refine bpr (results_tmp2 rfl _ _ _) rfl ?_
   exact HFIN.out
end Go.Proofs.YtjmlfacbcfbhdaaGreatDoor
