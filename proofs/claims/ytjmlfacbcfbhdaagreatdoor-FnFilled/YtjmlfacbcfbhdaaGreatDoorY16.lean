/- How slices of texts lie: to be read (RdS), and owned (OwnS). No conditions. -/
import Derived.Test.YtjmlfacbcfbhdaaGreatDoorYA
import Derived.Test.YtjmlfacbcfbhdaaGreatDoorY2
import Derived.Test.YtjmlfacbcfbhdaaGreatDoorY10
import Derived.Test.YtjmlfacbcfbhdaaGreatDoorY15
import Derived.Test.YtjmlfacbcfbhdaaGreatDoorY1
import Derived.Test.YtjmlfacbcfbhdaaGreatDoorY13
import Derived.Test.YtjmlfacbcfbhdaaGreatDoorY11
import Derived.Test.YtjmlfacbcfbhdaaGreatDoorY12
import Derived.Test.YtjmlfacbcfbhdaaGreatDoorY0
import Derived.Test.YtjmlfacbcfbhdaaGreatDoorY5
import Derived.WalkKit
import Derived.ProofKit
import Derived.Below
import Derived.WalkLawsBesides
import Derived.Deep.RegionLaw
import Derived.Deep.AppendLies
import Derived.Deep.RegionWith
set_option maxRecDepth 100000
set_option maxHeartbeats 8000000
namespace Go.Proofs.YtjmlfacbcfbhdaaGreatDoor
open Go.ChangeShapes Go.WideShapes Go.ChangeAt Go.RowKit
abbrev jnv:Obj:=.cells #[.int .i64 0,.int .i64 0,.int .i64 0,.string ⟨#[]⟩,.slice none 0 0] 72
theorem D.InB.ext {B c:Nat} {w w':World} {t:D} {v:Value} (h:t.InB B w v) (he:Ext c w w') (hc:c<B):t.InB B w' v :=
 D.InB.kept (fun a u ha hx=>(wcb (he.block a.block (wbl w a hx) (by omega))).trans hx) t h
theorem SlB.ext {B c:Nat} {w w':World} {n:Nat} {kid:Nat→D} {v:Value} (h:SlB B w n kid v) (he:Ext c w w') (hc:c<B):SlB B w' n kid v :=
 SlB.kept (fun a u ha hx=>(wcb (he.block a.block (wbl w a hx) (by omega))).trans hx) h
theorem jfq (w:World) (R:Nat) (v0 v1 v2 v3 v4:Value) (x:Nat) (h:x≠R):(((((w.setCell ⟨R,0,none⟩ v0).setCell ⟨R,1,none⟩ v1).setCell ⟨R,2,none⟩ v2).setCell ⟨R,3,none⟩ v3).setCell ⟨R,4,none⟩ v4).heap[x]? = w.heap[x]? := by
 rw [bhs _ _ _ _ h,bhs _ _ _ _ h,bhs _ _ _ _ h,bhs _ _ _ _ h,bhs _ _ _ _ h]
theorem jko (w:World) (B R:Nat) (hR:B≤R) (v0 v1 v2 v3 v4:Value):Below B w (((((w.setCell ⟨R,0,none⟩ v0).setCell ⟨R,1,none⟩ v1).setCell ⟨R,2,none⟩ v2).setCell ⟨R,3,none⟩ v3).setCell ⟨R,4,none⟩ v4) :=
 (((((brf B w).setCell (by exact hR) v0).setCell (by exact hR) v1).setCell (by exact hR) v2).setCell (by exact hR) v3).setCell (by exact hR) v4
theorem jjv {c:Nat} {w w1:World} (h:Ext c w w1) (R:Nat) (hR:w.heap.size≤R) (v0 v1 v2 v3 v4:Value):Ext c w (((((w1.setCell ⟨R,0,none⟩ v0).setCell ⟨R,1,none⟩ v1).setCell ⟨R,2,none⟩ v2).setCell ⟨R,3,none⟩ v3).setCell ⟨R,4,none⟩ v4) :=
 h.transB (jko w1 w.heap.size R hR v0 v1 v2 v3 v4)
theorem row5 {w:World} {R:Nat} {v0 v1 v2 v3 v4:Value} (h:w.heap[R]? = some (.cells #[v0,v1,v2,v3,v4] 72 (0,0))) :
  w.cell? ⟨R,0,none⟩=some v0∧w.cell? ⟨R,1,none⟩=some v1∧w.cell? ⟨R,2,none⟩=some v2∧w.cell? ⟨R,3,none⟩=some v3∧w.cell? ⟨R,4,none⟩=some v4 :=
 ⟨crw w _ 0 _ _ _ h,crw w _ 1 _ _ _ h,crw w _ 2 _ _ _ h,crw w _ 3 _ _ _ h,crw w _ 4 _ _ _ h⟩
theorem frz5 {w:World} {R:Nat} {v0 v1 v2 v3 v4:Value} (h:w.heap[R]? = some (.cells #[v0,v1,v2,v3,v4] 72 (0,0))) :
  w.frozen? ⟨R,0,none⟩=false∧w.frozen? ⟨R,1,none⟩=false∧w.frozen? ⟨R,2,none⟩=false∧w.frozen? ⟨R,3,none⟩=false∧w.frozen? ⟨R,4,none⟩=false :=
 ⟨fzr w _ 0 _ _ h,fzr w _ 1 _ _ h,fzr w _ 2 _ _ h,fzr w _ 3 _ _ h,fzr w _ 4 _ _ h⟩
theorem jit (c:Nat) (a:Option Addr) (len cap:Nat) (w:World) (hc:CurAt c a len cap w) :
  Calls Tryz.prog 34 #[.pointer (some ⟨c,0,none⟩)] w fun e w'=>∃ (t:D) (v:Value),e=.returned (.agg #[.int .i64 t.op,.int .i64 t.at_,.int .i64 t.n,.string t.s,v])∧t.InB w.heap.size w' v∧t.weight≤60000∧Ext c w w'∧CurAt c a len cap w':=by
 have HCW:Hid (c<w.heap.size):=hc.lt
 obtain ⟨R,hR⟩:∃ R,R=w.heap.size:=⟨_,rfl⟩
 go_enter Tryz.func34,Tryz.ntmps34
 go_wp2_with fail
 refine (jlX c a len cap _ (hc.alloc _)).mono ?_
 rintro e w2 ⟨v,rfl,hd⟩
 obtain ⟨n,kid,hsl,hwt⟩:=hd.ex
 have hcur2:=hd.cur
 have HE2:Hid (Ext c (w.alloc jnv) w2):=hd.ext
 have hsz:(w.alloc jnv).heap.size=w.heap.size+1:=by simp
 rw [hsz] at hsl
 have HRR:Hid (R=w.heap.size):=hR
 have HR2:Hid (w2.heap[R]? = some (.cells #[.int .i64 0,.int .i64 0,.int .i64 0,.string ⟨#[]⟩,.slice none 0 0] 72 (0,0))):=by
  show _=_
  rw [hR]
  exact (HE2.out.block _ (by simp) (by have:=HCW.out;omega)).trans (han w _)
 have HEW:Hid (Ext c w w2):=((Ext.refl c w).alloc _).trans HE2.out
 have HSL:Hid (SlB (w.heap.size+1) w2 n kid v∧jah n kid≤60000):=⟨hsl,hwt⟩
 obtain ⟨p,q,hv⟩:=hsl.shape
 have hn6:n≤60000:=by unfold jah at hwt;omega
 clear hd hsl hwt hsz hc HE2
 rw [←hR]
 clear hR
 subst hv
 by_cases h0:n=0
 ·subst h0
  obtain ⟨r0,r1,r2,r3,r4⟩:=row5 HR2.out
  obtain ⟨f0,f1,f2,f3,f4⟩:=frz5 HR2.out
  go_wp2_with fail
  refine bpr (v:=.agg #[.int .i64 0,.int .i64 0,.int .i64 0,.string ⟨#[]⟩,.slice none 0 0]) (by rw [jaT (p:=2) (ty:=72) (by kernel_rfl)];simp [go_sem,r0,r1,r2,r3,r4]) rfl ?_
  refine ⟨.mk 0 0 0 ⟨#[]⟩ 0 (fun _=>.no),.slice none 0 0,rfl,D.InB.mk' (by unfold maxLen;exact nzl _) ⟨by omega,by omega⟩ (.inl ⟨rfl,_,_,rfl⟩),by decide,?_,?_⟩
  ·exact jjv HEW.out R (by rw [HRR.out];exact nlr _) _ _ _ _ _
  ·exact hcur2.keepC fun k hk=>jfq w2 R _ _ _ _ _ k (by have:=HCW.out;have:=HRR.out;omega)
 ·have hne:((n:Int)==0)=false:=by simp;omega
  go_wp2_with fail
  refine (jaK c a len cap (n:Int) (by omega) _ hcur2).mono ?_
  rintro e w3 ⟨⟨z,z0,_,z1,rfl⟩,hx3,hcur3⟩
  have hzn:=z1 (by omega)
  obtain ⟨zn,rfl⟩:∃ k:Nat,z=k:=⟨z.toNat,by omega⟩
  have HE3:Hid (Ext c w w3):=HEW.out.trans hx3
  have HR3:Hid (w3.heap[R]? = some (.cells #[.int .i64 0,.int .i64 0,.int .i64 0,.string ⟨#[]⟩,.slice none 0 0] 72 (0,0))) :=
   (hx3.block R (aes.1 HR2.out).1 (by have:=HCW.out;have:=HRR.out;omega)).trans HR2.out
  have HS3:Hid (SlB (w.heap.size+1) w3 n kid (.slice p n q)):=HSL.out.1.ext hx3 (by have:=HCW.out;omega)
  rcases HS3.out with ⟨h,_⟩|⟨b,o,cp,V,hv,hBb,hlc,hcm,hall⟩
  ·omega
  simp only [Value.slice.injEq,true_and] at hv
  obtain ⟨rfl,rfl⟩:=hv
  obtain ⟨⟨k0,k1,k2,k3,k4⟩,hin⟩:=hall zn (by omega)
  have HT:Hid ((kid zn).InB (w.heap.size+1) w3 (V zn)∧(kid zn).weight≤60000):=⟨hin,by
   have h1:=jbU (fun i=>(kid i).weight) zn n (by omega)
   have h2:=HSL.out.2
   unfold jah at h2
   omega⟩
  obtain ⟨pk,ck,hvk⟩:=hin.sl.shape
  obtain ⟨r0,r1,r2,r3,r4⟩:=row5 HR3.out
  obtain ⟨f0,f1,f2,f3,f4⟩:=frz5 HR3.out
  have hbR:¬ b=R:=by have:=HRR.out;omega
  have hRb:¬ R=b:=by omega
  clear hall hin z1 hx3 hcur2 HEW HR2 HSL
  rw [hvk] at k4 HT
  generalize kid zn=t at *
  clear HS3
  go_wp2_with fail
  refine bpr (v:=.agg #[.int .i64 t.op,.int .i64 t.at_,.int .i64 t.n,.string t.s,.slice pk t.len ck]) (by rw [jaT (p:=2) (ty:=72) (by kernel_rfl)];simp [go_sem,r0,r1,r2,r3,r4]) rfl ?_
  refine ⟨t,_,rfl,?_,HT.out.2,jjv HE3.out R (by rw [HRR.out];exact nlr _) _ _ _ _ _,?_⟩
  ·refine D.InB.mono (Nat.le_succ _) _ (D.InB.kept (w:=w3) (fun ad u ha hx=>?_) t HT.out.1)
   exact (wcb (jfq w3 R _ _ _ _ _ ad.block (by have:=HRR.out;omega))).trans hx
  ·exact hcur3.keepC fun k hk=>jfq w3 R _ _ _ _ _ k (by have:=HCW.out;have:=HRR.out;omega)
theorem jgx (xs:List Int) (t:D):(stxD xs t).op=t.op∧(stxD xs t).at_=t.at_∧(stxD xs t).n=t.n∧(stxD xs t).s=t.s:=by cases t <;> exact ⟨rfl,rfl,rfl,rfl⟩
theorem jkG (c:Nat) (a:Option Addr) (len cap:Nat) (w:World) (hc:CurAt c a len cap w) :
  Calls Tryz.prog 16 #[.pointer (some ⟨c,0,none⟩)] w fun e w'=>∃ (t:X) (su u:Value) (S:List Nat),e=.returned (.agg #[.int .i64 t.op,.int .i64 t.at_,.int .i64 t.n,.string t.s,su,u])∧(Ext c w w'∧CurAt c a len cap w')∧XOwn w' t su u S∧S.Nodup∧(∀ x∈S,w.heap.size≤x)∧(datX t).weight≤60000∧t.SetsLe 8:=by
 have HCW:Hid (c<w.heap.size):=hc.lt
 obtain ⟨w0,hw0⟩:∃ w0,w0=w.alloc (.cells #[.int .i64 0,.int .i64 0,.int .i64 0,.string ⟨#[]⟩,.slice none 0 0,.slice none 0 0] 27):=⟨_,rfl⟩
 have hs0:w0.heap.size=w.heap.size+1:=by rw [hw0];simp
 have h60:Six w0 w.heap.size 0 0 0 ⟨#[]⟩ (.slice none 0 0) (.slice none 0 0) 27:=by rw [hw0];exact han w _
 have hx0:Ext c w w0:=by rw [hw0];exact (Ext.refl c w).alloc _
 have hc0:CurAt c a len cap w0:=by rw [hw0];exact hc.alloc' _
 have HC0:Hid (CurAt c a len cap w0):=hc0
 have H0:Hid (w0.heap.size=w.heap.size+1∧Six w0 w.heap.size 0 0 0 ⟨#[]⟩ (.slice none 0 0) (.slice none 0 0) 27∧Ext c w w0):=⟨hs0,h60,hx0⟩
 clear hs0 h60 hx0 hc0 hc
 go_enter Tryz.func16,Tryz.ntmps16
 go_wp2_with fail
 rw [←hw0]
 clear hw0
 refine (jit c a len cap _ HC0.out).mono ?_
 rintro e w1 ⟨t,v,rfl,hin,hwt,hx1,hc1⟩
 have H1:Hid (t.InB w0.heap.size w1 v∧t.weight≤60000∧Ext c w0 w1∧CurAt c a len cap w1):=⟨hin,hwt,hx1,hc1⟩
 clear hin hwt hx1 hc1
 go_wp2_with fail
 refine (jbY c a len cap _ H1.out.2.2.2).mono ?_
 rintro e w2 ⟨us,xs,rfl,hxs,hown,hx2,hc2⟩
 have H2:Hid (xs.length≤8∧Own w2 w1.heap.size us xs∧Ext c w1 w2∧CurAt c a len cap w2):=⟨hxs,hown,hx2,hc2⟩
 clear hxs hown hx2 hc2
 go_wp2_with fail
 have HI2:Hid (t.In w2 v):=(H1.out.1.ext H2.out.2.2.1 (by have:=H0.out.1;have:=HCW.out;omega)).mono (nzl _)
 refine (jfR xs (by have:=H2.out.1;omega) t w2 v us HI2.out (H2.out.2.1.setB (nzl _)).rd (by have:=H1.out.2.1;omega)).mono ?_
 rintro e w3 ⟨su,u,S,rfl,hb3,hX3,hn3,hS3⟩
 have H3:Hid (Below w2.heap.size w2 w3∧XOwn w3 (stxD xs t) su u S∧∀ x∈S,w2.heap.size≤x):=⟨hb3,hX3,hS3⟩
 clear hb3 hX3 hn3 hS3
 go_wp2_with fail
 have hle:(stxD xs t).SetsLe 8:=X.SetsLe.mono H2.out.1 _ (jfU xs t)
 have hwd:(stxD xs t).weight≤1048576:=by
  have h1:=X.weight_sets (m:=8) _ hle
  rw [jfh] at h1
  have:=H1.out.2.1
  omega
 have hm:=jpb c a len cap (stxD xs t) w3 su u (H2.out.2.2.2.below' H3.out.1) (H3.out.2.1.at' _ (fun x hx=>by have:=H3.out.2.2 x hx;have:=H0.out.1;have:=HCW.out;have:=H0.out.2.2.size;have:=H1.out.2.2.1.size;have:=H2.out.2.2.1.size;omega)) hwd hle
 obtain ⟨e0,e1,e2,e3⟩:=jgx xs t
 rw [e0,e1,e2,e3] at hm
 refine hm.mono ?_
 rintro e w4 ⟨t',su',u',S',rfl,⟨hx4,hc4⟩,hX4,hn4,hS4,hd4,hs4⟩
 have hcw:=HCW.out
 have hq1:=H1.out.2.2.1
 have hq2:=H2.out.2.2.1
 have hq3:=H3.out.1
 have z0:jfc w0 w.heap.size:=H0.out.2.1
 have z1:jfc w1 w.heap.size:=(hq1.block _ z0.lt (by omega)).trans z0
 have z2:jfc w2 w.heap.size:=(hq2.block _ z1.lt (by omega)).trans z1
 have z3:jfc w3 w.heap.size:=z2.below hq3
 have z4:jfc w4 w.heap.size:=(hx4.block _ z3.lt (by omega)).trans z3
 have hsz:w.heap.size<w3.heap.size:=z3.lt
 have hxw:Ext c w w4:=(((H0.out.2.2.trans hq1).trans hq2).trans (Ext.of_below hq3 (nlr _))).trans hx4
 obtain ⟨pv,cv,hv'⟩:=hX4.at0.xs.shape
 obtain ⟨pw,cw,hw'⟩:=hX4.at0.sets.shape
 subst hv' hw'
 obtain ⟨f0,f1,f2,f3⟩:=jhu hd4
 have hwt4:(datX t').weight≤60000:=by rw [hd4,jfh];exact H1.out.2.1
 obtain ⟨R,hR⟩:∃ R,R=w.heap.size:=⟨_,rfl⟩
 rw [←hR] at z4
 have hE:=hxw.put6 (R:=R) (by omega) t.op t.at_ t.n t.s (.slice pw t'.set.length cw) (.slice pv t'.len cv)
 have hCu:=hc4.put6 (R:=R) (by omega) t.op t.at_ t.n t.s (.slice pw t'.set.length cw) (.slice pv t'.len cv)
 have hXX:=hX4.put6 (R:=R) (fun x hx=>by have:=hS4 x hx;omega) t.op t.at_ t.n t.s (.slice pw t'.set.length cw) (.slice pv t'.len cv)
 have HS:Hid ((Ext c w (put6 w4 R t.op t.at_ t.n t.s (.slice pw t'.set.length cw) (.slice pv t'.len cv))∧CurAt c a len cap (put6 w4 R t.op t.at_ t.n t.s (.slice pw t'.set.length cw) (.slice pv t'.len cv)))∧XOwn (put6 w4 R t.op t.at_ t.n t.s (.slice pw t'.set.length cw) (.slice pv t'.len cv)) t' (.slice pw t'.set.length cw) (.slice pv t'.len cv) S'∧S'.Nodup∧(∀ x∈S',w.heap.size≤x)∧(datX t').weight≤60000∧t'.SetsLe 8) :=
  ⟨⟨hE,hCu⟩,hXX,hn4,fun g hg=>by have:=hS4 g hg;omega,hwt4,hs4⟩
 have HE:Hid (t'.op=t.op∧t'.at_=t.at_∧t'.n=t.n∧t'.s=t.s):=⟨f0.trans e0,f1.trans e1,f2.trans e2,f3.trans e3⟩
 clear hE hCu hXX hq1 hq2 hq3 hcw z0 z1 z2 z3 f0 f1 f2 f3 e0 e1 e2 e3 hxw hsz hx4 hc4 hX4 hn4 hS4 hd4 hs4 hm hle hwd hwt4
 clear H0 H1 H2 H3 HCW HC0 HI2
 obtain ⟨r0,r1,r2,r3,r4,r5⟩:=z4.cells
 have rf:=z4.fr
 clear z4
 rw [←hR]
 clear hR
 go_wp2_with fail
 refine bpr (v:=.agg #[.int .i64 t.op,.int .i64 t.at_,.int .i64 t.n,.string t.s,.slice pw t'.set.length cw,.slice pv t'.len cv]) (by rw [jae (p:=2) (ty:=27) (by kernel_rfl)];simp [go_sem,r0,r1,r2,r3,r4,r5]) rfl ⟨t',_,_,S',by rw [HE.out.1,HE.out.2.1,HE.out.2.2.1,HE.out.2.2.2],HS.out⟩
theorem jaC {p:Prop} (h:p):Hid p:=h
structure NewX (w w':World) (t:X) (su u:Value) (S:List Nat):Prop where
 own:XOwn w' t su u S
 nd:S.Nodup
 lo:∀ x∈S,w.heap.size≤x
 wt:(datX t).weight≤60000
 st:t.SetsLe 8
def zeroT:X:=.mk 0 0 0 ⟨#[]⟩ [] 0 (fun _=>.no)
theorem jif (w:World):XOwn w zeroT (.slice none 0 0) (.slice none 0 0) []:=by
 refine XOwn.mk' (S2:=[]) ⟨nzl _,by omega,nzl _⟩ ⟨rfl,.inl ⟨rfl,rfl⟩⟩ ?_
 exact .inl ⟨rfl,rfl,rfl⟩
theorem jeo (s:ByteArray) (hs:s.size≤1048576) (set:List Int) (hl:set.length≤8) (w:World) (sv:Value) (hrd:Rd w sv set) :
  Calls Tryz.prog 29 #[.string s,sv] w fun e w'=>∃ (t:X) (su u:Value) (S:List Nat),e=.returned (.agg #[.int .i64 t.op,.int .i64 t.at_,.int .i64 t.n,.string t.s,su,u])∧NewX w w' t su u S∧Below w.heap.size w w':=by
 obtain ⟨R,hR⟩:∃ R,R=w.heap.size:=⟨_,rfl⟩
 obtain ⟨w0,hw0⟩:∃ w0,w0=w.alloc (.cells #[.int .i64 0,.int .i64 0,.int .i64 0,.string ⟨#[]⟩,.slice none 0 0,.slice none 0 0] 27):=⟨_,rfl⟩
 have nb:Below w.heap.size w w0:=by rw [hw0];exact newx w _
 have h6:w0.heap[R]? = some (.cells #[.int .i64 0,.int .i64 0,.int .i64 0,.string ⟨#[]⟩,.slice none 0 0,.slice none 0 0] 27 (0,0)):=by rw [hw0,hR];exact han w _
 have HWW:Hid (w0=w.alloc (.cells #[.int .i64 0,.int .i64 0,.int .i64 0,.string ⟨#[]⟩,.slice none 0 0,.slice none 0 0] 27)∧R=w.heap.size):=⟨hw0,hR⟩
 have H0:Hid (Below w.heap.size w w0∧w0.heap[R]? = some (.cells #[.int .i64 0,.int .i64 0,.int .i64 0,.string ⟨#[]⟩,.slice none 0 0,.slice none 0 0] 27 (0,0))∧w.heap.size≤R∧Rd w sv set):=⟨nb,h6,by omega,hrd⟩
 obtain ⟨ps,cs,es,-⟩:=hrd.shape
 subst es
 clear hR hw0 nb h6 hrd
 go_enter Tryz.func29,Tryz.ntmps29
 go_upto_region 1 with fail
 rw [←HWW.out.1,←HWW.out.2]
 go_wp2_with fail
 refine (jjQ s hs w0).mono ?_
 rintro e w1 ⟨hb1,hcase⟩
 have HB1:Hid (Below w0.heap.size w0 w1∧Below w.heap.size w w1):=⟨hb1,H0.out.1.trans (hb1.mono H0.out.1.size)⟩
 have z:=(hb1.block _ (aes.1 H0.out.2.1).1).trans H0.out.2.1
 have HZ:=jaC z
 have z0:=crw w1 _ 0 _ _ _ z
 have z1:=crw w1 _ 1 _ _ _ z
 have z2:=crw w1 _ 2 _ _ _ z
 have z3:=crw w1 _ 3 _ _ _ z
 have z4:=crw w1 _ 4 _ _ _ z
 have z5:=crw w1 _ 5 _ _ _ z
 have zf:∀ j,w1.frozen? ⟨R,j,none⟩=false:=fun j=>fzr w1 _ j _ _ z
 have HZE:Hid (∃ (t:X) (su u:Value) (S:List Nat),Ending.returned (.agg #[.int .i64 0,.int .i64 0,.int .i64 0,.string ⟨#[]⟩,.slice none 0 0,.slice none 0 0])=.returned (.agg #[.int .i64 t.op,.int .i64 t.at_,.int .i64 t.n,.string t.s,su,u])∧NewX w (put6 w1 R 0 0 0 ⟨#[]⟩ (.slice none 0 0) (.slice none 0 0)) t su u S∧Below w.heap.size w (put6 w1 R 0 0 0 ⟨#[]⟩ (.slice none 0 0) (.slice none 0 0))) :=
  ⟨zeroT,_,_,[],rfl,⟨jif _,by simp,by simp,by decide,⟨by decide,fun i hi=>absurd hi (Nat.not_lt_zero _)⟩⟩,jbs HB1.out.2 R H0.out.2.2.1 _ _ _ _ _ _⟩
 clear z hb1
 cases hp:jeR s with
 | bad p =>
  rw [hp] at hcase
  obtain ⟨q,c,rfl⟩:=hcase
  clear hp
  go_wp2_with fail
  refine bpr (v:=.agg #[.int .i64 0,.int .i64 0,.int .i64 0,.string ⟨#[]⟩,.slice none 0 0,.slice none 0 0]) (by rw [jae (p:=4) (ty:=27) (by kernel_rfl)];simp [go_sem,z0,z1,z2,z3,z4,z5]) rfl ?_
  exact HZE.out
 | ok ds rr =>
  rw [hp] at hcase
  obtain ⟨v,rfl,hsl,-⟩:=hcase
  obtain ⟨pv,cv,rfl,hlen,hat⟩:=hsl.at
  have hwt:=jeN s ds rr hp
  cases ds with
  | nil =>
   clear hp hat hwt
   simp only [List.length_nil]
   go_wp2_with fail
   refine bpr (v:=.agg #[.int .i64 0,.int .i64 0,.int .i64 0,.string ⟨#[]⟩,.slice none 0 0,.slice none 0 0]) (by rw [jae (p:=4) (ty:=27) (by kernel_rfl)];simp [go_sem,z0,z1,z2,z3,z4,z5]) rfl ?_
   exact HZE.out
  | cons d ds' =>
   obtain ⟨b,o,u,hpv,hd,hin⟩:=hat 0 (by simp)
   have ek:jav (d::ds') 0=d:=rfl
   rw [ek] at hd hin
   simp only [Nat.zero_mul,Nat.add_zero] at hd
   subst hpv
   obtain ⟨d0,d1,d2,d3,d4⟩:=hd
   obtain ⟨pu,cu,eu⟩:=hin.sl.shape
   have hdw:d.weight≤52000:=by
    have h1:=jbU (fun i=>(jav (d::ds') i).weight) 0 (d::ds').length (by simp)
    unfold jah at hwt
    simp only [jao,ek] at h1
    omega
   have HSX:Hid (Calls Tryz.prog 33 #[.agg #[.int .i64 d.op,.int .i64 d.at_,.int .i64 d.n,.string d.s,u],.slice ps set.length cs] w1 fun e w'=>∃ su u S,e=.returned (.agg #[.int .i64 d.op,.int .i64 d.at_,.int .i64 d.n,.string d.s,su,u])∧Below w1.heap.size w1 w'∧XOwn w' (stxD set d) su u S∧S.Nodup∧∀ x∈S,w1.heap.size≤x):=jfR set (by omega) d w1 u _ hin (H0.out.2.2.2.below HB1.out.2) (by omega)
   have hpos:((((d::ds').length:Nat):Int)==0)=false:=by simp;omega
   have hpos2:(0:Int)<((d::ds').length:Nat):=by simp
   generalize (d::ds').length=n at *
   clear hp hwt hin
   subst eu
   unfold maxLen at hlen
   go_wp2_with fail
   refine HSX.out.mono ?_
   rintro e w2 ⟨su2,u2,S,rfl,hb2,ho,hsn,hSg⟩
   obtain ⟨p2,c2,e2⟩:=ho.at0.sets.shape
   obtain ⟨q2,c3,e3⟩:=ho.at0.xs.shape
   subst e2 e3
   have z:=(hb2.block _ (aes.1 HZ.out).1).trans HZ.out
   have hh:=jgx set d
   have HFIN:Hid (NewX w (put6 w2 R d.op d.at_ d.n d.s (.slice p2 (stxD set d).set.length c2) (.slice q2 (stxD set d).len c3)) (stxD set d) (.slice p2 (stxD set d).set.length c2) (.slice q2 (stxD set d).len c3) S∧Below w.heap.size w (put6 w2 R d.op d.at_ d.n d.s (.slice p2 (stxD set d).set.length c2) (.slice q2 (stxD set d).len c3))):=by
    have hRl:R<w1.heap.size:=(aes.1 HZ.out).1
    have hb:Below w.heap.size w w2:=HB1.out.2.trans (hb2.mono HB1.out.2.size)
    refine ⟨⟨ho.put6 (fun x hx e=>by have:=hSg x hx;omega) _ _ _ _ _ _,hsn,fun x hx=>by have a1:=hSg x hx;have a2:=HB1.out.2.size;omega,?_,?_⟩,jbs hb R H0.out.2.2.1 _ _ _ _ _ _⟩
    ·rw [jfh];omega
    ·exact X.SetsLe.mono hl _ (jfU set d)
   have y0:=crw w2 _ 0 _ _ _ z
   have y1:=crw w2 _ 1 _ _ _ z
   have y2:=crw w2 _ 2 _ _ _ z
   have y3:=crw w2 _ 3 _ _ _ z
   have y4:=crw w2 _ 4 _ _ _ z
   have y5:=crw w2 _ 5 _ _ _ z
   have yf:∀ j,w2.frozen? ⟨R,j,none⟩=false:=fun j=>fzr w2 _ j _ _ z
   clear z z0 z1 z2 z3 z4 z5 zf hb2 ho hsn hSg d0 d1 d2 d3 d4
   go_wp2_with fail
   refine bpr (v:=.agg #[.int .i64 d.op,.int .i64 d.at_,.int .i64 d.n,.string d.s,.slice p2 (stxD set d).set.length c2,.slice q2 (stxD set d).len c3]) (by rw [jae (p:=4) (ty:=27) (by kernel_rfl)];simp [go_sem,y0,y1,y2,y3,y4,y5]) rfl ?_
   exact ⟨stxD set d,_,_,S,by rw [hh.1,hh.2.1,hh.2.2.1,hh.2.2.2],HFIN.out.1,HFIN.out.2⟩
theorem NewX.up {w w1 w':World} {t:X} {su u:Value} {S:List Nat} (h:NewX w1 w' t su u S) (hs:w.heap.size≤w1.heap.size):NewX w w' t su u S:=⟨h.own,h.nd,fun x hx=>Nat.le_trans hs (h.lo x hx),h.wt,h.st⟩
theorem Ext.rise {c:Nat} {w w1 w2:World} (h:Ext c w w1) (g:Ext c w1 w2):Ext c w w2 :=
 ⟨g.os.trans h.os,g.tape.trans h.tape,g.output.trans h.output,Nat.le_trans h.size g.size,fun k hk hne=>(g.block k (nll hk h.size) hne).trans (h.block k hk hne)⟩
theorem Ext.new {c:Nat} {w w':World} (h:Below w.heap.size w w'):Ext c w w':=⟨h.os,h.tape,h.output,h.size,fun k hk _=>h.block k hk⟩
def texts_l7DrawPattern:List ByteArray:=[⟨#[120]⟩,⟨#[40,120,32,121,41]⟩,⟨#[40,120,32,46,46,46,41]⟩,⟨#[40,40,120,32,121,41,32,46,46,46,41]⟩,⟨#[40,120,32,40,121,32,46,46,46,41,32,46,46,46,41]⟩,⟨#[40,49,32,120,41]⟩,⟨#[40,95,32,120,32,95,41]⟩,⟨#[40,40,120,32,46,46,46,41,32,121,41]⟩,⟨#[40,120,32,120,41]⟩,⟨#[40,46,46,46,32,120,41]⟩,⟨#[40,41]⟩,⟨#[40,120,32,46,46,46,32,121,41]⟩,⟨#[95]⟩,⟨#[46,46,46]⟩,⟨#[40,40,120,32,40,121,32,46,46,46,41,41,32,46,46,46,41]⟩]
theorem jdH:∀ s∈texts_l7DrawPattern,s.size≤1048576:=fun s hs=>of_decide_eq_true (List.all_eq_true.1 (show (texts_l7DrawPattern.all fun s=>decide (s.size≤1048576))=true by kernel_rfl) s hs)
theorem jen (c:Nat) (a:Option Addr) (len cap:Nat) (w:World) (hc:CurAt c a len cap w) :
  Calls Tryz.prog 12 #[.pointer (some ⟨c,0,none⟩)] w fun e w'=>∃ (t:X) (su u:Value) (S:List Nat),e=.returned (.agg #[.int .i64 t.op,.int .i64 t.at_,.int .i64 t.n,.string t.s,su,u])∧NewX w w' t su u S∧Ext c w w'∧CurAt c a len cap w':=by
 have hcw:c<w.heap.size:=hc.lt
 obtain ⟨R,hR⟩:∃ R,R=w.heap.size:=⟨_,rfl⟩
 obtain ⟨w0,hw0⟩:∃ w0,w0=w.alloc (.cells #[.int .i64 0,.int .i64 0,.int .i64 0,.string ⟨#[]⟩,.slice none 0 0,.slice none 0 0] 27):=⟨_,rfl⟩
 have nb:Below w.heap.size w w0:=by rw [hw0];exact newx w _
 have h6:w0.heap[R]? = some (.cells #[.int .i64 0,.int .i64 0,.int .i64 0,.string ⟨#[]⟩,.slice none 0 0,.slice none 0 0] 27 (0,0)):=by rw [hw0,hR];exact han w _
 have HWW:Hid (w0=w.alloc (.cells #[.int .i64 0,.int .i64 0,.int .i64 0,.string ⟨#[]⟩,.slice none 0 0,.slice none 0 0] 27)∧R=w.heap.size):=⟨hw0,hR⟩
 have H0:Hid (Below w.heap.size w w0∧w0.heap[R]? = some (.cells #[.int .i64 0,.int .i64 0,.int .i64 0,.string ⟨#[]⟩,.slice none 0 0,.slice none 0 0] 27 (0,0))∧w.heap.size≤R∧c<w.heap.size∧R<w0.heap.size):=⟨nb,h6,by omega,hcw,(aes.1 h6).1⟩
 have HC0:Hid (CurAt c a len cap w0):=by rw [hw0];exact hc.alloc' _
 clear hR hw0 nb h6 hc hcw
 go_enter Tryz.func12,Tryz.ntmps12
 go_upto_region 1 with fail
 rw [←HWW.out.1,←HWW.out.2]
 go_wp2_with fail
 refine (jco c a len cap w0.heap.size texts_l7DrawPattern _ (HC0.out.alloc' _) (by have:=H0.out.2.2.2.1;have:=H0.out.1.size;omega) 15 rfl (by omega) (by omega) (jcJ w0 texts_l7DrawPattern _ _ (by kernel_rfl))).mono ?_
 rintro e w1 ⟨⟨s,hs,rfl⟩,hx1,hc1⟩
 have HS:=jaC (jdH s hs)
 have H1:Hid (Ext c w0 w1∧CurAt c a len cap w1):=⟨(Ext.new (newx w0 _)).rise hx1,hc1⟩
 clear hx1 hc1 hs
 go_wp2_with fail
 refine (jbY c a len cap w1 H1.out.2).mono ?_
 rintro e w2 ⟨v,xs,rfl,hxl,hown,hx2,hc2⟩
 obtain ⟨pv,cv,ev⟩:=(hown.setB (B:=0) (nzl _)).shape
 have HRD:Hid (Rd w2 v xs):=(hown.setB (B:=0) (nzl _)).rd
 have H2:Hid (Ext c w0 w2∧CurAt c a len cap w2):=⟨H1.out.1.rise hx2,hc2⟩
 clear hx2 hc2 hown
 subst ev
 go_wp2_with fail
 refine (jeo s HS.out xs hxl w2 _ HRD.out).mono ?_
 rintro e w3 ⟨t,su,u,S,rfl,hn,hb3⟩
 obtain ⟨ps,cs,es⟩:=hn.own.at0.sets.shape
 obtain ⟨pu,cu,eu⟩:=hn.own.at0.xs.shape
 subst es eu
 have z:w3.heap[R]? = _:=(hb3.block R (nll H0.out.2.2.2.2 H2.out.1.size)).trans ((H2.out.1.block R H0.out.2.2.2.2 (by have a1:=H0.out.2.2.1;have a2:=H0.out.2.2.2.1;omega)).trans H0.out.2.1)
 have HFIN:Hid (NewX w (put6 w3 R t.op t.at_ t.n t.s (.slice ps t.set.length cs) (.slice pu t.len cu)) t (.slice ps t.set.length cs) (.slice pu t.len cu) S∧Ext c w (put6 w3 R t.op t.at_ t.n t.s (.slice ps t.set.length cs) (.slice pu t.len cu))∧CurAt c a len cap (put6 w3 R t.op t.at_ t.n t.s (.slice ps t.set.length cs) (.slice pu t.len cu))):=by
  have hsz:w.heap.size≤w2.heap.size:=Nat.le_trans H0.out.1.size H2.out.1.size
  have hR2:R<w2.heap.size:=nll H0.out.2.2.2.2 H2.out.1.size
  have h1:=hn.up hsz
  refine ⟨⟨h1.own.put6 (fun x hx e=>by have:=hn.lo x hx;omega) _ _ _ _ _ _,h1.nd,h1.lo,h1.wt,h1.st⟩,?_,?_⟩
  ·exact Ext.put6 (((Ext.new H0.out.1).rise H2.out.1).rise (Ext.new hb3)) H0.out.2.2.1 _ _ _ _ _ _
  ·exact CurAt.put6 (H2.out.2.below' hb3) (by have a1:=H0.out.2.2.1;have a2:=H0.out.2.2.2.1;omega) _ _ _ _ _ _
 have y0:=crw w3 _ 0 _ _ _ z
 have y1:=crw w3 _ 1 _ _ _ z
 have y2:=crw w3 _ 2 _ _ _ z
 have y3:=crw w3 _ 3 _ _ _ z
 have y4:=crw w3 _ 4 _ _ _ z
 have y5:=crw w3 _ 5 _ _ _ z
 have yf:∀ j,w3.frozen? ⟨R,j,none⟩=false:=fun j=>fzr w3 _ j _ _ z
 clear z hn hb3
 go_wp2_with fail
 refine bpr (v:=.agg #[.int .i64 t.op,.int .i64 t.at_,.int .i64 t.n,.string t.s,.slice ps t.set.length cs,.slice pu t.len cu]) (by rw [jae (p:=2) (ty:=27) (by kernel_rfl)];simp [go_sem,y0,y1,y2,y3,y4,y5]) rfl ?_
 exact ⟨t,_,_,S,rfl,HFIN.out.1,HFIN.out.2.1,HFIN.out.2.2⟩
def texts_l7DrawForm:List ByteArray:=[⟨#[97]⟩,⟨#[40,97,32,98,41]⟩,⟨#[40,97,32,98,32,99,32,100,41]⟩,⟨#[40,40,97,32,49,41,32,40,98,32,50,41,41]⟩,⟨#[40,97,32,40,98,32,99,41,32,40,41,41]⟩,⟨#[40,49,32,122,41]⟩,⟨#[40,97,32,40,49,32,50,41,32,40,51,41,41]⟩,⟨#[40,41]⟩,⟨#[40,40,97,32,98,41,32,99,41]⟩,⟨#[40,40,97,32,40,98,32,99,41,41,32,40,100,32,40,41,41,41]⟩,⟨#[55]⟩,⟨#[40,49,32,50,32,51,41]⟩]
theorem jeT:∀ s∈texts_l7DrawForm,s.size≤1048576:=fun s hs=>of_decide_eq_true (List.all_eq_true.1 (show (texts_l7DrawForm.all fun s=>decide (s.size≤1048576))=true by kernel_rfl) s hs)
theorem jf9 (c:Nat) (a:Option Addr) (len cap:Nat) (w:World) (hc:CurAt c a len cap w) :
  Calls Tryz.prog 13 #[.pointer (some ⟨c,0,none⟩)] w fun e w'=>∃ (t:X) (su u:Value) (S:List Nat),e=.returned (.agg #[.int .i64 t.op,.int .i64 t.at_,.int .i64 t.n,.string t.s,su,u])∧NewX w w' t su u S∧Ext c w w'∧CurAt c a len cap w':=by
 have hcw:c<w.heap.size:=hc.lt
 obtain ⟨R,hR⟩:∃ R,R=w.heap.size:=⟨_,rfl⟩
 obtain ⟨w0,hw0⟩:∃ w0,w0=w.alloc (.cells #[.int .i64 0,.int .i64 0,.int .i64 0,.string ⟨#[]⟩,.slice none 0 0,.slice none 0 0] 27):=⟨_,rfl⟩
 have nb:Below w.heap.size w w0:=by rw [hw0];exact newx w _
 have h6:w0.heap[R]? = some (.cells #[.int .i64 0,.int .i64 0,.int .i64 0,.string ⟨#[]⟩,.slice none 0 0,.slice none 0 0] 27 (0,0)):=by rw [hw0,hR];exact han w _
 have HWW:Hid (w0=w.alloc (.cells #[.int .i64 0,.int .i64 0,.int .i64 0,.string ⟨#[]⟩,.slice none 0 0,.slice none 0 0] 27)∧R=w.heap.size):=⟨hw0,hR⟩
 have H0:Hid (Below w.heap.size w w0∧w0.heap[R]? = some (.cells #[.int .i64 0,.int .i64 0,.int .i64 0,.string ⟨#[]⟩,.slice none 0 0,.slice none 0 0] 27 (0,0))∧w.heap.size≤R∧c<w.heap.size∧R<w0.heap.size):=⟨nb,h6,by omega,hcw,(aes.1 h6).1⟩
 have HC0:Hid (CurAt c a len cap w0):=by rw [hw0];exact hc.alloc' _
 clear hR hw0 nb h6 hc hcw
 go_enter Tryz.func13,Tryz.ntmps13
 go_upto_region 1 with fail
 rw [←HWW.out.1,←HWW.out.2]
 go_wp2_with fail
 refine (jco c a len cap w0.heap.size texts_l7DrawForm _ (HC0.out.alloc' _) (by have:=H0.out.2.2.2.1;have:=H0.out.1.size;omega) 12 rfl (by omega) (by omega) (jcJ w0 texts_l7DrawForm _ _ (by kernel_rfl))).mono ?_
 rintro e w1 ⟨⟨s,hs,rfl⟩,hx1,hc1⟩
 have HS:=jaC (jeT s hs)
 have H1:Hid (Ext c w0 w1∧CurAt c a len cap w1):=⟨(Ext.new (newx w0 _)).rise hx1,hc1⟩
 clear hx1 hc1 hs
 go_wp2_with fail
 refine (jbY c a len cap w1 H1.out.2).mono ?_
 rintro e w2 ⟨v,xs,rfl,hxl,hown,hx2,hc2⟩
 obtain ⟨pv,cv,ev⟩:=(hown.setB (B:=0) (nzl _)).shape
 have HRD:Hid (Rd w2 v xs):=(hown.setB (B:=0) (nzl _)).rd
 have H2:Hid (Ext c w0 w2∧CurAt c a len cap w2):=⟨H1.out.1.rise hx2,hc2⟩
 clear hx2 hc2 hown
 subst ev
 go_wp2_with fail
 refine (jeo s HS.out xs hxl w2 _ HRD.out).mono ?_
 rintro e w3 ⟨t,su,u,S,rfl,hn,hb3⟩
 obtain ⟨ps,cs,es⟩:=hn.own.at0.sets.shape
 obtain ⟨pu,cu,eu⟩:=hn.own.at0.xs.shape
 subst es eu
 have z:w3.heap[R]? = _:=(hb3.block R (nll H0.out.2.2.2.2 H2.out.1.size)).trans ((H2.out.1.block R H0.out.2.2.2.2 (by have a1:=H0.out.2.2.1;have a2:=H0.out.2.2.2.1;omega)).trans H0.out.2.1)
 have HFIN:Hid (NewX w (put6 w3 R t.op t.at_ t.n t.s (.slice ps t.set.length cs) (.slice pu t.len cu)) t (.slice ps t.set.length cs) (.slice pu t.len cu) S∧Ext c w (put6 w3 R t.op t.at_ t.n t.s (.slice ps t.set.length cs) (.slice pu t.len cu))∧CurAt c a len cap (put6 w3 R t.op t.at_ t.n t.s (.slice ps t.set.length cs) (.slice pu t.len cu))):=by
  have hsz:w.heap.size≤w2.heap.size:=Nat.le_trans H0.out.1.size H2.out.1.size
  have hR2:R<w2.heap.size:=nll H0.out.2.2.2.2 H2.out.1.size
  have h1:=hn.up hsz
  refine ⟨⟨h1.own.put6 (fun x hx e=>by have:=hn.lo x hx;omega) _ _ _ _ _ _,h1.nd,h1.lo,h1.wt,h1.st⟩,?_,?_⟩
  ·exact Ext.put6 (((Ext.new H0.out.1).rise H2.out.1).rise (Ext.new hb3)) H0.out.2.2.1 _ _ _ _ _ _
  ·exact CurAt.put6 (H2.out.2.below' hb3) (by have a1:=H0.out.2.2.1;have a2:=H0.out.2.2.2.1;omega) _ _ _ _ _ _
 have y0:=crw w3 _ 0 _ _ _ z
 have y1:=crw w3 _ 1 _ _ _ z
 have y2:=crw w3 _ 2 _ _ _ z
 have y3:=crw w3 _ 3 _ _ _ z
 have y4:=crw w3 _ 4 _ _ _ z
 have y5:=crw w3 _ 5 _ _ _ z
 have yf:∀ j,w3.frozen? ⟨R,j,none⟩=false:=fun j=>fzr w3 _ j _ _ z
 clear z hn hb3
 go_wp2_with fail
 refine bpr (v:=.agg #[.int .i64 t.op,.int .i64 t.at_,.int .i64 t.n,.string t.s,.slice ps t.set.length cs,.slice pu t.len cu]) (by rw [jae (p:=2) (ty:=27) (by kernel_rfl)];simp [go_sem,y0,y1,y2,y3,y4,y5]) rfl ?_
 exact ⟨t,_,_,S,rfl,HFIN.out.1,HFIN.out.2.1,HFIN.out.2.2⟩
def texts_l8DrawTemplate:List ByteArray:=[⟨#[120]⟩,⟨#[40,121,32,120,41]⟩,⟨#[40,120,32,46,46,46,41]⟩,⟨#[40,122,32,40,120,32,121,41,32,46,46,46,41]⟩,⟨#[40,40,120,32,40,121,32,46,46,46,41,41,32,46,46,46,41]⟩,⟨#[40,121,32,46,46,46,32,46,46,46,41]⟩,⟨#[40,122,32,46,46,46,41]⟩,⟨#[40,49,32,120,32,122,41]⟩,⟨#[40,41]⟩,⟨#[46,46,46]⟩,⟨#[40,120,32,46,46,46,32,121,41]⟩,⟨#[40,40,121,32,46,46,46,41,32,46,46,46,41]⟩]
theorem jdr:∀ s∈texts_l8DrawTemplate,s.size≤1048576:=fun s hs=>of_decide_eq_true (List.all_eq_true.1 (show (texts_l8DrawTemplate.all fun s=>decide (s.size≤1048576))=true by kernel_rfl) s hs)
theorem jdT (c:Nat) (a:Option Addr) (len cap:Nat) (w:World) (hc:CurAt c a len cap w) :
  Calls Tryz.prog 14 #[.pointer (some ⟨c,0,none⟩)] w fun e w'=>∃ (t:X) (su u:Value) (S:List Nat),e=.returned (.agg #[.int .i64 t.op,.int .i64 t.at_,.int .i64 t.n,.string t.s,su,u])∧NewX w w' t su u S∧Ext c w w'∧CurAt c a len cap w':=by
 have hcw:c<w.heap.size:=hc.lt
 obtain ⟨R,hR⟩:∃ R,R=w.heap.size:=⟨_,rfl⟩
 obtain ⟨w0,hw0⟩:∃ w0,w0=w.alloc (.cells #[.int .i64 0,.int .i64 0,.int .i64 0,.string ⟨#[]⟩,.slice none 0 0,.slice none 0 0] 27):=⟨_,rfl⟩
 have nb:Below w.heap.size w w0:=by rw [hw0];exact newx w _
 have h6:w0.heap[R]? = some (.cells #[.int .i64 0,.int .i64 0,.int .i64 0,.string ⟨#[]⟩,.slice none 0 0,.slice none 0 0] 27 (0,0)):=by rw [hw0,hR];exact han w _
 have HWW:Hid (w0=w.alloc (.cells #[.int .i64 0,.int .i64 0,.int .i64 0,.string ⟨#[]⟩,.slice none 0 0,.slice none 0 0] 27)∧R=w.heap.size):=⟨hw0,hR⟩
 have H0:Hid (Below w.heap.size w w0∧w0.heap[R]? = some (.cells #[.int .i64 0,.int .i64 0,.int .i64 0,.string ⟨#[]⟩,.slice none 0 0,.slice none 0 0] 27 (0,0))∧w.heap.size≤R∧c<w.heap.size∧R<w0.heap.size):=⟨nb,h6,by omega,hcw,(aes.1 h6).1⟩
 have HC0:Hid (CurAt c a len cap w0):=by rw [hw0];exact hc.alloc' _
 clear hR hw0 nb h6 hc hcw
 go_enter Tryz.func14,Tryz.ntmps14
 go_upto_region 1 with fail
 rw [←HWW.out.1,←HWW.out.2]
 go_wp2_with fail
 refine (jco c a len cap w0.heap.size texts_l8DrawTemplate _ (HC0.out.alloc' _) (by have:=H0.out.2.2.2.1;have:=H0.out.1.size;omega) 12 rfl (by omega) (by omega) (jcJ w0 texts_l8DrawTemplate _ _ (by kernel_rfl))).mono ?_
 rintro e w1 ⟨⟨s,hs,rfl⟩,hx1,hc1⟩
 have HS:=jaC (jdr s hs)
 have H1:Hid (Ext c w0 w1∧CurAt c a len cap w1):=⟨(Ext.new (newx w0 _)).rise hx1,hc1⟩
 clear hx1 hc1 hs
 go_wp2_with fail
 refine (jbY c a len cap w1 H1.out.2).mono ?_
 rintro e w2 ⟨v,xs,rfl,hxl,hown,hx2,hc2⟩
 obtain ⟨pv,cv,ev⟩:=(hown.setB (B:=0) (nzl _)).shape
 have HRD:Hid (Rd w2 v xs):=(hown.setB (B:=0) (nzl _)).rd
 have H2:Hid (Ext c w0 w2∧CurAt c a len cap w2):=⟨H1.out.1.rise hx2,hc2⟩
 clear hx2 hc2 hown
 subst ev
 go_wp2_with fail
 refine (jeo s HS.out xs hxl w2 _ HRD.out).mono ?_
 rintro e w3 ⟨t,su,u,S,rfl,hn,hb3⟩
 obtain ⟨ps,cs,es⟩:=hn.own.at0.sets.shape
 obtain ⟨pu,cu,eu⟩:=hn.own.at0.xs.shape
 subst es eu
 have z:w3.heap[R]? = _:=(hb3.block R (nll H0.out.2.2.2.2 H2.out.1.size)).trans ((H2.out.1.block R H0.out.2.2.2.2 (by have a1:=H0.out.2.2.1;have a2:=H0.out.2.2.2.1;omega)).trans H0.out.2.1)
 have HFIN:Hid (NewX w (put6 w3 R t.op t.at_ t.n t.s (.slice ps t.set.length cs) (.slice pu t.len cu)) t (.slice ps t.set.length cs) (.slice pu t.len cu) S∧Ext c w (put6 w3 R t.op t.at_ t.n t.s (.slice ps t.set.length cs) (.slice pu t.len cu))∧CurAt c a len cap (put6 w3 R t.op t.at_ t.n t.s (.slice ps t.set.length cs) (.slice pu t.len cu))):=by
  have hsz:w.heap.size≤w2.heap.size:=Nat.le_trans H0.out.1.size H2.out.1.size
  have hR2:R<w2.heap.size:=nll H0.out.2.2.2.2 H2.out.1.size
  have h1:=hn.up hsz
  refine ⟨⟨h1.own.put6 (fun x hx e=>by have:=hn.lo x hx;omega) _ _ _ _ _ _,h1.nd,h1.lo,h1.wt,h1.st⟩,?_,?_⟩
  ·exact Ext.put6 (((Ext.new H0.out.1).rise H2.out.1).rise (Ext.new hb3)) H0.out.2.2.1 _ _ _ _ _ _
  ·exact CurAt.put6 (H2.out.2.below' hb3) (by have a1:=H0.out.2.2.1;have a2:=H0.out.2.2.2.1;omega) _ _ _ _ _ _
 have y0:=crw w3 _ 0 _ _ _ z
 have y1:=crw w3 _ 1 _ _ _ z
 have y2:=crw w3 _ 2 _ _ _ z
 have y3:=crw w3 _ 3 _ _ _ z
 have y4:=crw w3 _ 4 _ _ _ z
 have y5:=crw w3 _ 5 _ _ _ z
 have yf:∀ j,w3.frozen? ⟨R,j,none⟩=false:=fun j=>fzr w3 _ j _ _ z
 clear z hn hb3
 go_wp2_with fail
 refine bpr (v:=.agg #[.int .i64 t.op,.int .i64 t.at_,.int .i64 t.n,.string t.s,.slice ps t.set.length cs,.slice pu t.len cu]) (by rw [jae (p:=2) (ty:=27) (by kernel_rfl)];simp [go_sem,y0,y1,y2,y3,y4,y5]) rfl ?_
 exact ⟨t,_,_,S,rfl,HFIN.out.1,HFIN.out.2.1,HFIN.out.2.2⟩
def gB (a op:Int) (wb sb e n0 l0 z0 st:Bool):Bool :=
 decide (0≤a)&&(if op=1 then wb&&(e&&(z0&&l0)) else if op=2 then sb&&(n0&&(st&&l0)) else if op=3 then n0&&(e&&z0) else false)
def jn8 (t:X):Bool:=(decide (t.op=2)&&setB t.set)||decide (t.set.length=0)
def ja2 (t:X):Bool:=jbH (datX t)&&jn8 t
theorem jee (t:X):(datX t).op=t.op∧(datX t).at_=t.at_∧(datX t).n=t.n∧(datX t).s=t.s∧(datX t).len=t.len:=by cases t <;> exact ⟨rfl,rfl,rfl,rfl,rfl⟩
theorem jnF (t:X) (i:Nat):(datX t).kid i=datX (t.kid i):=by cases t <;> rfl
theorem jdz (t:X):ja2 t=gB t.at_ t.op (decide (-1073741824≤t.n∧t.n≤1073741823)) (symB t.s.data.toList) (t.s.toList == []) (t.n==0) ((t.len:Int)==0) ((t.set.length:Int)==0) (setB t.set):=by
 obtain ⟨h1,h2,h3,h4,h5⟩:=jee t
 unfold ja2 jbH jn8
 rw [h1,h2,h3,h4,h5]
 have hz:(((t.set.length:Nat):Int)==0)=decide (t.set.length=0):=by
  by_cases h:t.set.length=0
  ·simp [h]
  ·rw [dqf h,beq_eq_false_iff_ne];omega
 have hst:t.set.length=0→setB t.set=true:=fun h=>by rw [List.eq_nil_of_length_eq_zero h];exact joo
 rw [hz]
 generalize decide (-1073741824≤t.n∧t.n≤1073741823)=wb
 generalize symB t.s.data.toList=sb
 generalize (t.s.toList == [])=e
 generalize (t.n==0)=n0
 generalize ((t.len:Int)==0)=l0
 generalize setB t.set=st at *
 unfold fB gB
 by_cases hz0:t.set.length=0
 ·rw [hst hz0,dqt hz0]
  by_cases h1:t.op=1
  ·simp [h1]
  ·by_cases h2:t.op=2
   ·simp [h2]
   ·by_cases h3:t.op=3
    ·simp [h3]
    ·simp [h1,h2,h3]
 ·rw [dqf hz0]
  by_cases h1:t.op=1
  ·simp [h1]
  ·by_cases h2:t.op=2
   ·simp only [h2,decide_true,Bool.true_and,Bool.or_false]
    cases decide (0≤t.at_) <;> cases sb <;> cases n0 <;> cases st <;> cases l0 <;> rfl
   ·by_cases h3:t.op=3
    ·simp [h3]
    ·simp [h1,h2,h3]
def jcQ (g:X→Nat→Option Nat) (kid:Nat→X) (left:Nat):Nat→Option Nat
 | 0=>some left
 | k+1=>(jcQ g kid left k).bind (g (kid k))
theorem jgm {g:X→Nat→Option Nat} {kid:Nat→X} {left k n:Nat} (h:jcQ g kid left k=none) (hk:k≤n):jcQ g kid left n=none:=by
 induction n with
 | zero =>
  obtain rfl:k=0:=by omega
  exact h
 | succ n ih =>
  rcases Nat.lt_or_ge n k with h1|h1
  ·obtain rfl:k=n+1:=by omega
   exact h
  ·simp [jcQ,ih h1]
def jbb:Nat→Nat→Nat→(Nat→X)→Option Nat
 | 0,left,len,_=>if len=0 then some left else none
 | nest+1,left,len,kid=>if left<len then none else jcQ (fun d l=>if ja2 d=true then jbb nest l d.len d.kid else none) kid (left-len) len
theorem jk9 (t:X):t.setsB=(allX (fun i=>(t.kid i).setsB) t.len&&jn8 t):=by
 cases t with
 | no=>rfl
 | mk op a n s set len kid=>rfl
theorem jjD (nest:Nat):∀ left len kid,jbb nest left len kid=if allX (fun i=>(kid i).setsB) len=true then look nest left len (fun i=>datX (kid i)) else none:=by
 induction nest with
 | zero =>
  intro left len kid
  unfold jbb look
  by_cases h:len=0
  ·subst h;simp [allX]
  ·rw [if_neg h];simp
 | succ nest ih =>
  intro left len kid
  have hone:∀ (d:X) (l:Nat),(if ja2 d=true then jbb nest l d.len d.kid else none)=if d.setsB=true then (if jbH (datX d)=true then look nest l (datX d).len (datX d).kid else none) else none:=by
   intro d l
   have hk:(datX d).kid=fun i=>datX (d.kid i):=by funext i;exact jnF d i
   rw [ih,jk9 d,(jee d).2.2.2.2,hk]
   unfold ja2
   cases jbH (datX d) <;> cases jn8 d <;> cases allX (fun i=>(d.kid i).setsB) d.len <;> simp
  have hf:∀ k,jcQ (fun d l=>if ja2 d=true then jbb nest l d.len d.kid else none) kid (left-len) k=if allX (fun i=>(kid i).setsB) k=true then jdO (fun d l=>if jbH d=true then look nest l d.len d.kid else none) (fun i=>datX (kid i)) (left-len) k else none:=by
   intro k
   induction k with
   | zero=>simp [jcQ,jdO,allX]
   | succ k ihk =>
    unfold jcQ jdO
    rw [ihk,show allX (fun i=>(kid i).setsB) (k+1)=(allX (fun i=>(kid i).setsB) k&&(kid k).setsB) from rfl]
    by_cases ha:allX (fun i=>(kid i).setsB) k=true
    ·rw [if_pos ha,ha,Bool.true_and]
     generalize jdO (fun d l=>if jbH d=true then look nest l d.len d.kid else none) (fun i=>datX (kid i)) (left-len) k=o
     cases o with
     | none=>simp
     | some l=>exact hone (kid k) l
    ·have hb:allX (fun i=>(kid i).setsB) k=false:=by simpa using ha
     rw [if_neg ha,hb]
     simp
  unfold jbb look
  by_cases h:left<len
  ·rw [if_pos h,if_pos h];simp
  ·rw [if_neg h,if_neg h]
   exact hf len
def jax (t:X):Bool:=t.setsB&&jef 1 (fun _=>datX t)
theorem jdp (t:X):jax t=(jbb 20 1500 1 (fun _=>t)).isSome:=by
 unfold jax
 rw [jjD,jkM]
 simp only [allX,Bool.true_and]
 cases t.setsB <;> simp
def ja4 {α:Type} (f:Nat→α→α):Nat→α→α
 | 0,a=>a
 | k+1,a=>f k (ja4 f k a)
def jb3:List UInt8:=[46,46,46]
def jkJ:List UInt8:=[95]
def jbl (op:Int) (s:ByteArray):Bool:=(op==2)&&(!(s.toList==jkJ) && !(s.toList==jb3))
def jan (t:X):Bool:=(t.op==2)&&(t.s.toList==jb3)
def inS (l:List ByteArray) (s:ByteArray):Bool:=l.any fun x=>x.toList==s.toList
def addN (s:ByteArray) (a:List ByteArray×Bool):List ByteArray×Bool:=if inS a.1 s then (a.1,true) else (a.1++[s],a.2)
def jaz:X→List ByteArray×Bool→List ByteArray×Bool
 | .no,a=>a
 | .mk op _ _ s _ len kid,a=>if jbl op s then addN s a else ja4 (fun i a=>jaz (kid i) a) len a
theorem jc4 (op a n:Int) (s:ByteArray) (set:List Int) (len:Nat) (kid:Nat→X) (x:List ByteArray×Bool):jaz (.mk op a n s set len kid) x=if jbl op s then addN s x else ja4 (fun i a=>jaz (kid i) a) len x:=rfl
theorem jnB (s:ByteArray) (a:List ByteArray×Bool):(addN s a).1.length≤a.1.length+1:=by
 unfold addN
 split <;> simp
theorem jeq (t:X):∀ a,(jaz t a).1.length≤a.1.length+t.count:=by
 induction t with
 | no=>intro a;exact Nat.le_add_right _ _
 | mk op b n s set len kid ih =>
  intro a
  rw [jc4]
  have hc:(X.mk op b n s set len kid).count=1+sumX (fun i=>(kid i).count) len:=rfl
  split
  ·have:=jnB s a;omega
  ·have h:∀ k,(ja4 (fun i a=>jaz (kid i) a) k a).1.length≤a.1.length+sumX (fun i=>(kid i).count) k:=by
    intro k
    induction k with
    | zero=>exact Nat.le_add_right _ _
    | succ k ihk =>
     simp only [ja4,sumX]
     have:=ih k (ja4 (fun i a=>jaz (kid i) a) k a)
     omega
   have:=h len
   omega
theorem jpI {l:List ByteArray} {s:ByteArray} (h:∀ i,i<l.length→((l.getD i ⟨#[]⟩).toList==s.toList)=false):inS l s=false:=by
 unfold inS
 rw [List.any_eq_false]
 intro x hx
 obtain ⟨i,hi,rfl⟩:=List.mem_iff_getElem.1 hx
 have:=h i hi
 rw [lgd,lgg hi,Option.getD_some] at this
 simp [this]
theorem jo4 {l:List ByteArray} {s:ByteArray} (i:Nat) (hi:i<l.length) (h:((l.getD i ⟨#[]⟩).toList==s.toList)=true):inS l s=true:=by
 unfold inS
 rw [List.any_eq_true]
 rw [lgd,lgg hi,Option.getD_some] at h
 exact ⟨_,List.getElem_mem hi,h⟩
def jaP (len:Nat) (kid:Nat→X) (i:Nat):Bool:=!(jan (kid i)&&(!(decide (i+1=len))||(decide (i=0)||jan (kid (i-1)))))
def jaS:X→Bool
 | .no=>true
 | .mk _ _ _ _ _ len kid=>allX (fun i=>jaP len kid i&&jaS (kid i)) len
theorem jgu (op a n:Int) (s:ByteArray) (set:List Int) (len:Nat) (kid:Nat→X):jaS (.mk op a n s set len kid)=allX (fun i=>jaP len kid i&&jaS (kid i)) len:=rfl
def jcd (t:X):Bool:=jax t&&(!(jaz t ([],false)).2&&(!jan t&&jaS t))
def RdS (w:World) (v:Value) (xs:List ByteArray):Prop :=
 ∃ a cap,v=.slice a xs.length cap∧∀ j,j<xs.length→∃ b off,a=some ⟨b,off,none⟩∧w.cell? ⟨b,off+j,none⟩=some (.string (xs.getD j ⟨#[]⟩))
def OwnS (w:World) (base:Nat) (v:Value) (xs:List ByteArray):Prop:=w.ownsRow base 9 1 v xs.length (xs.map Value.string)
theorem OwnS.rd {w:World} {base:Nat} {v:Value} {xs:List ByteArray} (h:OwnS w base v xs):RdS w v xs:=by
 have h':=h
 rcases h.2 with ⟨rfl,hn⟩|⟨g,cap,cur,rfl,hbg,hg,hnc,_⟩
 ·have:xs=[]:=List.eq_nil_of_length_eq_zero hn
  subst this
  exact ⟨none,0,rfl,fun j hj=>by simp at hj⟩
 ·refine ⟨_,cap,rfl,fun j hj=>⟨g,0,rfl,?_⟩⟩
  rw [Nat.zero_add,World.ownsRow.cellAt h' j (by omega)]
  simp [List.getElem?_eq_getElem hj]
theorem OwnS.below {w w':World} {base:Nat} {v:Value} {xs:List ByteArray} (h:OwnS w base v xs) (hb:Below w.heap.size w w'):OwnS w' base v xs :=
 World.ownsRow.kept (row:=none) h ⟨hb.os,hb.tape,hb.output,hb.size,fun k hk _=>hb.block k hk⟩ (by
  cases hv:v.ownBlock with
  | none=>exact .inl rfl
  | some k=>exact .inr (by simp))
theorem OwnS.mono {w:World} {base base':Nat} {v:Value} {xs:List ByteArray} (h:OwnS w base v xs) (hb:base'≤base):OwnS w base' v xs:=by
 refine ⟨h.1,?_⟩
 rcases h.2 with h|⟨g,cap,cur,rfl,hbg,rest⟩
 ·exact .inl h
 ·exact .inr ⟨g,cap,cur,rfl,Nat.le_trans hb hbg,rest⟩
theorem jjc:(Tryz.prog.info? 9).map (fun i=>(i.zero,i.size,i.bytes))=some (some (.string ⟨#[]⟩),1,16):=by kernel_rfl
theorem jmH {B:Nat} {w wr w1:World} {r0 v':Value} {L:List ByteArray} {x:ByteArray} {t:TypeId} (h:OwnS wr B r0 L) (hb:Below B w wr) (hB:B≤wr.heap.size)
  (h1:w1.ownsRow B 9 1 v' (L.length+1) (L.map Value.string++[.string x])) (hg:(wr.alloc (.cells #[.string x] t)).grownBy w1 r0.ownBlock):OwnS w1 B v' (L++[x])∧Below B w w1:=by
 refine ⟨?_,?_⟩
 ·unfold OwnS
  rw [lla,List.length_singleton,List.map_append]
  exact h1
 ·exact (hb.alloc hB _).grown hg (by simp;omega) (fun k hk=>(h.lt k hk).1)
end Go.Proofs.YtjmlfacbcfbhdaaGreatDoor
