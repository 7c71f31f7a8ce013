/- What stands while the kids of a template are filled. No conditions. -/
import Derived.Test.YtjmlfacbcfbhdaaGreatDoorYA
import Derived.Test.YtjmlfacbcfbhdaaGreatDoorY28
set_option maxRecDepth 100000
set_option maxHeartbeats 8000000
namespace Go.Proofs.YtjmlfacbcfbhdaaGreatDoor
open Go.ChangeShapes Go.WideShapes Go.ChangeAt Go.RowKit
theorem XBuild.congr {B:Nat} {w:World} {kid kid':Nat→X} {k:Nat} {lv:Value} {la:List XR} {SS:List (List Nat)} (h:XBuild B w kid k lv la SS) (he:∀ i,i<k→kid i=kid' i):XBuild B w kid' k lv la SS:=by
 have hl:∀ {i:Nat} {q:XR},la[i]? = some q→i<k:=fun hq=>by have:=(List.getElem?_eq_some_iff.1 hq).1;have:=h.num;omega
 refine ⟨h.own,h.num,⟨h.rows.len,fun i q hq=>by rw [h.rows.ks i q hq,he i (hl hq)],fun i hi=>?_,h.rows.nd,h.rows.ge⟩,h.out⟩
 obtain ⟨su,u,T,k1,k2,k3⟩:=h.rows.each i hi
 have hi':i<k:=by have:=h.num;omega
 exact ⟨su,u,T,by rw [k1,he i hi'],k2,by rw [←he i hi'];exact k3⟩
theorem jmg {α:Type} (xs:List α) (x d:α) {i:Nat} (h:i<xs.length):(xs++[x]).getD i d=xs.getD i d:=by simp [List.getD_eq_getElem?_getD,List.getElem?_append_left h]
theorem jfr {α:Type} (xs:List α) (x d:α):(xs++[x]).getD xs.length d=x:=by simp [List.getD_eq_getElem?_getD]
theorem XBuild.push {B:Nat} {wr w w3:World} {xs:List X} {lv v' su u:Value} {x:X} {T:List Nat} {la:List XR} {SS:List (List Nat)} {o:Obj}
  (h:XBuild B wr (fun j=>xs.getD j .no) xs.length lv la SS) (hs:∀ k,B≤k→k<wr.heap.size→w.heap[k]? = wr.heap[k]?) (hsz:wr.heap.size≤w.heap.size) (hB:B≤wr.heap.size) (hd:XOwn w x su u T) (hn:T.Nodup) (hT:∀ k∈T,wr.heap.size≤k)
  (hown:w3.ownsRow 0 27 6 v' (xs.length+1) (jau la++[.int .i64 x.op,.int .i64 x.at_,.int .i64 x.n,.string x.s,su,u])) (hg:(w.alloc o).grownBy w3 lv.ownBlock) (hlv:lv.ownBlock≠none) (hat:v'.ownBlock=lv.ownBlock∨v'.ownBlock=some (w.heap.size+1)) :
  IsSl v'∧v'.ownBlock≠none∧∃ la' SS',XBuild B w3 (fun j=>(xs++[x]).getD j .no) (xs++[x]).length v' la' SS':=by
 have hv':v'.ownBlock≠none:=by
  rcases hat with h1|h1
  ·rw [h1];exact hlv
  ·rw [h1];simp
 rcases hown.2 with ⟨e,_⟩|⟨g,cap,cur,e,_⟩
 ·rw [e] at hv';exact absurd rfl hv'
 ·subst e
  refine ⟨⟨_,_,_,rfl⟩,hv',la++[(x,su,u)],SS++[T],?_⟩
  have h1:XBuild B w (fun j=>(xs++[x]).getD j .no) xs.length lv la SS:=(h.same hs).congr (fun i hi=>(jmg xs x .no hi).symm)
  have hlt:=h.rows.lt
  have hd':XOwn w ((xs++[x]).getD xs.length .no) su u T:=by rw [jfr];exact hd
  have hat':lv.ownBlock=some g∨g=w.heap.size+1:=by
   rcases hat with h2|h2
   ·exact .inl h2.symm
   ·right;simp only [Value.ownBlock,Option.some.injEq] at h2;exact h2
  have r:=XBuild.app (o:=o) (g:=g) (cap:=cap) h1 hd' hn (fun k hk hk'=>by have:=hT k hk;have:=hlt k hk';omega) (fun k hk e=>by have:=hT k hk;have:=(h.own.lt k e).2;omega) (fun k hk=>by have:=hT k hk;omega) (by omega) (by rw [jfr];exact hown) hg hat'
  rw [jfr] at r
  rw [lla]
  exact r
def KR (w:World) (t:X) (su u:Value) (Q N:Nat) (L:List G) (fuel room:Int) (M:Option FX) (i:Nat) (lv:Value) (wr:World):Prop :=
 But (fun k=>k=Q) w wr∧Six wr N t.op t.at_ t.n t.s su u 27∧N+2≤wr.heap.size∧IsSl lv ∧
 ((∃ acc:FX,M=(remF t L i).map (fun b=>acc.join b)∧Ask wr Q true (fuel-acc.2.1) (room-acc.2.2)∧(acc.2.1:Int)≤fuel∧(acc.2.2:Int)≤room∧acc.1.length≤acc.2.1∧lv.ownBlock≠none∧∃ la SS,XBuild (N+1) wr (fun j=>acc.1.getD j .no) acc.1.length lv la SS) ∨
  ((∃ f' m',Ask wr Q false f' m')∧∀ r,M=some r→fuel<r.2.1∨room<r.2.2))
def KT (w:World) (t:X) (su u:Value) (Q N:Nat) (L:List G) (fuel room:Int) (M:Option FX) (i k:Nat) (acc0:FX) (lv:Value) (wr:World):Prop :=
 But (fun k=>k=Q) w wr∧Six wr N t.op t.at_ t.n t.s su u 27∧N+2≤wr.heap.size∧IsSl lv ∧
 ((∃ a acc:FX,acc=acc0.join a∧jaV (fun k=>jaI (t.kid i) (jaA L k (jam (t.kid i))++L)) k=some a∧Ask wr Q true (fuel-acc.2.1) (room-acc.2.2)∧(acc.2.1:Int)≤fuel∧(acc.2.2:Int)≤room∧acc.1.length≤acc.2.1∧lv.ownBlock≠none∧∃ la SS,XBuild (N+1) wr (fun j=>acc.1.getD j .no) acc.1.length lv la SS) ∨
  ((∃ f' m',Ask wr Q false f' m')∧∀ r,M=some r→fuel<r.2.1∨room<r.2.2))
theorem KR.done {w wr:World} {t:X} {su u lv:Value} {Q N i:Nat} {L:List G} {fuel room:Int} {M:Option FX} (h:KR w t su u Q N L fuel room M i lv wr) (hi:t.len≤i) (hf:fuel≤4000) (hN:w.heap.size≤N):jgI w Q fuel room M (.returned lv) wr:=by
 obtain ⟨h1,h2,h3,h4,h5⟩:=h
 refine ⟨h1,lv,rfl,h4,?_⟩
 rcases h5 with ⟨acc,e1,e2,e3,e4,e5,e6,la,SS,e7⟩|h5
 ·obtain ⟨S,s1,s2,s3⟩:=e7.xsown
  rw [jdn t L hi] at e1
  simp only [Option.map_some,FX.join_nil] at e1
  exact .inl ⟨acc,S,e1,e2,e3,e4,s1,s2,fun k hk=>by have:=s3 k hk;omega,by omega⟩
 ·exact .inr h5
theorem KR.stop {w wr:World} {t:X} {su u lv:Value} {Q N i:Nat} {L:List G} {fuel room f' m':Int} {M:Option FX} (h:KR w t su u Q N L fuel room M i lv wr) (ha:Ask wr Q false f' m'):jgI w Q fuel room M (.returned lv) wr:=by
 obtain ⟨h1,h2,h3,h4,h5⟩:=h
 refine ⟨h1,lv,rfl,h4,?_⟩
 rcases h5 with ⟨acc,e1,e2,e3,e4,e5,e6,la,SS,e7⟩|h5
 ·exfalso
  have a0:=e2.cells.1
  rw [ha.cells.1] at a0
  injection a0 with a0
  injection a0 with a0
  cases a0
 ·exact .inr h5
theorem jl4 {acc:FX} {M O R:Option FX} {fuel room:Int} (hM:M=R.map (fun b=>acc.join b)) (hR:∀ r,R=some r→∃ a b,O=some a∧r=a.join b) (hf:∀ r,O=some r→fuel-acc.2.1<r.2.1∨room-acc.2.2<r.2.2):∀ r,M=some r→fuel<r.2.1∨room<r.2.2:=by
 intro r hr
 rw [hM] at hr
 obtain ⟨c,hc,rfl⟩:=jar hr
 obtain ⟨a,b,ha,rfl⟩:=hR c hc
 have:=hf a ha
 simp only [FX.join]
 omega
theorem jl6 {w wr w1 w4:World} {t x:X} {su u lv v' sx ux:Value} {Q N:Nat} {fuel room:Int} {acc:FX} {O:Option FX} {la:List XR} {SS:List (List Nat)} {o1 o2:Obj} (hQ:Q<N) (hN:w.heap.size≤N)
  (hb:But (fun k=>k=Q) w wr) (hbox:Six wr N t.op t.at_ t.n t.s su u 27) (hsz:N+2≤wr.heap.size) (hfew:acc.1.length≤acc.2.1) (hlv:lv.ownBlock≠none) (hX:XBuild (N+1) wr (fun j=>acc.1.getD j .no) acc.1.length lv la SS)
  (hb1:But (fun k=>k=Q) wr w1) (hown:w4.ownsRow 0 27 6 v' (acc.1.length+1) (jau la++[.int .i64 x.op,.int .i64 x.at_,.int .i64 x.n,.string x.s,sx,ux])) (hg:((w1.alloc o1).alloc o2).grownBy w4 lv.ownBlock) (hat:v'.ownBlock=lv.ownBlock∨v'.ownBlock=some ((w1.alloc o1).alloc o2).heap.size)
  (hO:∀ r,O=some r→1≤r.2.1)
  (hc:(∃ r S,O=some r∧r.1=[x]∧Ask w1 Q true (fuel-acc.2.1-r.2.1) (room-acc.2.2-r.2.2)∧(r.2.1:Int)≤fuel-acc.2.1∧(r.2.2:Int)≤room-acc.2.2∧XOwn w1 x sx ux S∧S.Nodup∧∀ k∈S,wr.heap.size≤k)∨((∃ f' m',Ask w1 Q false f' m')∧∀ r,O=some r→fuel-acc.2.1<r.2.1∨room-acc.2.2<r.2.2)) :
  But (fun k=>k=Q) w w4∧Six w4 N t.op t.at_ t.n t.s su u 27∧N+2≤w4.heap.size∧IsSl v' ∧
  ((∃ r,O=some r∧Ask w4 Q true (fuel-(acc.join r).2.1) (room-(acc.join r).2.2)∧((acc.join r).2.1:Int)≤fuel∧((acc.join r).2.2:Int)≤room∧(acc.join r).1.length≤(acc.join r).2.1∧v'.ownBlock≠none∧∃ la' SS',XBuild (N+1) w4 (fun j=>(acc.join r).1.getD j .no) (acc.join r).1.length v' la' SS') ∨
   ((∃ f' m',Ask w4 Q false f' m')∧∀ r,O=some r→fuel-acc.2.1<r.2.1∨room-acc.2.2<r.2.2)):=by
 have e1:(w1.alloc o1).heap.size=w1.heap.size+1:=by simp
 have e2:((w1.alloc o1).alloc o2).heap.size=w1.heap.size+1+1:=by simp
 have hs1:=hb1.size
 have hs4:=hg.size
 have hlvB:∀ g,lv.ownBlock=some g→N+1≤g:=fun g hg=>(hX.out g hg).2
 have al:∀ k,k<w1.heap.size→((w1.alloc o1).alloc o2).heap[k]? = w1.heap[k]? := fun k hk=>by rw [bha _ _ _ (by omega),bha _ _ _ hk]
 have keep:∀ k,k<w1.heap.size→lv.ownBlock≠some k→w4.heap[k]? = w1.heap[k]? := fun k hk hne=>(hg.block k (by omega) (fun e=>hne e.symm)).trans (al k hk)
 have hbut4:But (fun k=>k=Q) w w4:=by
  have h2:But (fun k=>k=Q) w ((w1.alloc o1).alloc o2):=((hb.step hb1 (fun _ _ h=>h)).alloc o1).alloc o2
  exact h2.grown hg (fun k hk=>.inl (by have:=hlvB k hk;omega))
 have hbox4:Six w4 N t.op t.at_ t.n t.s su u 27:=by
  refine (keep N (by omega) (fun e=>by have:=hlvB N e;omega)).trans (hb1.at hbox (fun e=>by have e3:N=Q:=e;omega))
 have hask:∀ b f r,Ask w1 Q b f r→Ask w4 Q b f r:=fun b f r h=>(keep Q (aes.1 h).1 (fun e=>by have:=hlvB Q e;omega)).trans h
 have hsl:IsSl v'∧v'.ownBlock≠none:=by
  have hv':v'.ownBlock≠none:=by
   rcases hat with h1|h1
   ·rw [h1];exact hlv
   ·rw [h1];simp
  rcases hown.2 with ⟨e,_⟩|⟨g,cap,cur,e,_⟩
  ·rw [e] at hv';exact absurd rfl hv'
  ·exact ⟨⟨_,_,_,e⟩,hv'⟩
 refine ⟨hbut4,hbox4,by omega,hsl.1,?_⟩
 rcases hc with ⟨r,S,c1,c2,c3,c4,c5,c6,c7,c8⟩|⟨⟨f',m',c1⟩,c2⟩
 ·refine .inl ⟨r,c1,?_,?_,?_,?_,hsl.2,?_⟩
  ·have:=hask _ _ _ c3
   rw [show fuel-((acc.join r).2.1:Nat)=fuel-acc.2.1-r.2.1 from by simp only [FX.join];omega,show room-((acc.join r).2.2:Nat)=room-acc.2.2-r.2.2 from by simp only [FX.join];omega]
   exact this
  ·simp only [FX.join];omega
  ·simp only [FX.join];omega
  ·have:=hO r c1
   simp only [FX.join,List.length_append,c2,List.length_singleton]
   omega
  ·have hj:(acc.join r).1=acc.1++[x]:=by simp only [FX.join,c2]
   rw [hj]
   have hd:XOwn (w1.alloc o1) x sx ux S:=c6.same _ (fun k hk=>bha w1 o1 k (c6.there _ k hk))
   exact (hX.push (w:=w1.alloc o1) (o:=o2) (fun k hk hk'=>(bha w1 o1 k (by omega)).trans (hb1.block k hk' (fun e=>by have e3:k=Q:=e;omega))) (by omega) (by omega) hd c7 c8 hown hg hlv (by rw [e1];rw [e2] at hat;exact hat)).2.2
 ·exact .inr ⟨⟨f',m',hask _ _ _ c1⟩,c2⟩
structure KO (w:World) (t:X) (su u:Value) (Q N:Nat) (fuel room:Int) (acc:FX) (lv:Value) (la:List XR) (SS:List (List Nat)) (wr:World):Prop where
 but:But (fun k=>k=Q) w wr
 box:Six wr N t.op t.at_ t.n t.s su u 27
 sz:N+2≤wr.heap.size
 ask:Ask wr Q true (fuel-acc.2.1) (room-acc.2.2)
 f:(acc.2.1:Int)≤fuel
 r:(acc.2.2:Int)≤room
 few:acc.1.length≤acc.2.1
 lvb:lv.ownBlock≠none
 bld:XBuild (N+1) wr (fun j=>acc.1.getD j .no) acc.1.length lv la SS
theorem KO.below {w wr wx:World} {t:X} {su u lv:Value} {Q N:Nat} {fuel room:Int} {acc:FX} {la:List XR} {SS:List (List Nat)} (h:KO w t su u Q N fuel room acc lv la SS wr) (hb:Below wr.heap.size wr wx):KO w t su u Q N fuel room acc lv la SS wx :=
 ⟨h.but.step (But.of_all hb) (fun _ _ h=>h),h.box.below hb,Nat.le_trans h.sz hb.size,(hb.block _ (aes.1 h.ask).1).trans h.ask,h.f,h.r,h.few,h.lvb,h.bld.same (fun k _ hk=>hb.block k hk)⟩
theorem KO.row {w wr w1:World} {t:X} {su u lv:Value} {Q N:Nat} {fuel room:Int} {acc:FX} {la:List XR} {SS:List (List Nat)} (h:KO w t su u Q N fuel room acc lv la SS wr) (hQ:Q<N) (hb:But (fun k=>k=Q) wr w1):w1.ownsRow 0 27 6 lv acc.1.length (jau la) :=
 hb.owns h.bld.own (fun g hg e=>by have:=(h.bld.out g hg).2;have e2:g=Q:=e;omega)
theorem jki {w wr w1 w4:World} {t x:X} {su u lv v' sx ux:Value} {Q N:Nat} {fuel room:Int} {acc:FX} {O:Option FX} {la:List XR} {SS:List (List Nat)} {o2:Obj} (hQ:Q<N) (hN:w.heap.size≤N)
  (hb:But (fun k=>k=Q) w wr) (hbox:Six wr N t.op t.at_ t.n t.s su u 27) (hsz:N+2≤wr.heap.size) (hfew:acc.1.length≤acc.2.1) (hlv:lv.ownBlock≠none) (hX:XBuild (N+1) wr (fun j=>acc.1.getD j .no) acc.1.length lv la SS)
  (hb1:But (fun k=>k=Q) wr w1) (hown:w4.ownsRow 0 27 6 v' (acc.1.length+1) (jau la++[.int .i64 x.op,.int .i64 x.at_,.int .i64 x.n,.string x.s,sx,ux])) (hg:(w1.alloc o2).grownBy w4 lv.ownBlock) (hat:v'.ownBlock=lv.ownBlock∨v'.ownBlock=some (w1.alloc o2).heap.size)
  (hO:∀ r,O=some r→1≤r.2.1)
  (hc:(∃ r S,O=some r∧r.1=[x]∧Ask w1 Q true (fuel-acc.2.1-r.2.1) (room-acc.2.2-r.2.2)∧(r.2.1:Int)≤fuel-acc.2.1∧(r.2.2:Int)≤room-acc.2.2∧XOwn w1 x sx ux S∧S.Nodup∧∀ k∈S,wr.heap.size≤k)∨((∃ f' m',Ask w1 Q false f' m')∧∀ r,O=some r→fuel-acc.2.1<r.2.1∨room-acc.2.2<r.2.2)) :
  But (fun k=>k=Q) w w4∧Six w4 N t.op t.at_ t.n t.s su u 27∧N+2≤w4.heap.size∧IsSl v' ∧
  ((∃ r,O=some r∧Ask w4 Q true (fuel-(acc.join r).2.1) (room-(acc.join r).2.2)∧((acc.join r).2.1:Int)≤fuel∧((acc.join r).2.2:Int)≤room∧(acc.join r).1.length≤(acc.join r).2.1∧v'.ownBlock≠none∧∃ la' SS',XBuild (N+1) w4 (fun j=>(acc.join r).1.getD j .no) (acc.join r).1.length v' la' SS') ∨
   ((∃ f' m',Ask w4 Q false f' m')∧∀ r,O=some r→fuel-acc.2.1<r.2.1∨room-acc.2.2<r.2.2)):=by
 have e2:(w1.alloc o2).heap.size=w1.heap.size+1:=by simp
 have hs1:=hb1.size
 have hs4:=hg.size
 have hlvB:∀ g,lv.ownBlock=some g→N+1≤g:=fun g hg=>(hX.out g hg).2
 have al:∀ k,k<w1.heap.size→(w1.alloc o2).heap[k]? = w1.heap[k]? := fun k hk=>bha _ _ _ hk
 have keep:∀ k,k<w1.heap.size→lv.ownBlock≠some k→w4.heap[k]? = w1.heap[k]? := fun k hk hne=>(hg.block k (by omega) (fun e=>hne e.symm)).trans (al k hk)
 have hbut4:But (fun k=>k=Q) w w4:=by
  have h2:But (fun k=>k=Q) w (w1.alloc o2):=(hb.step hb1 (fun _ _ h=>h)).alloc o2
  exact h2.grown hg (fun k hk=>.inl (by have:=hlvB k hk;omega))
 have hbox4:Six w4 N t.op t.at_ t.n t.s su u 27:=by
  refine (keep N (by omega) (fun e=>by have:=hlvB N e;omega)).trans (hb1.at hbox (fun e=>by have e3:N=Q:=e;omega))
 have hask:∀ b f r,Ask w1 Q b f r→Ask w4 Q b f r:=fun b f r h=>(keep Q (aes.1 h).1 (fun e=>by have:=hlvB Q e;omega)).trans h
 have hsl:IsSl v'∧v'.ownBlock≠none:=by
  have hv':v'.ownBlock≠none:=by
   rcases hat with h1|h1
   ·rw [h1];exact hlv
   ·rw [h1];simp
  rcases hown.2 with ⟨e,_⟩|⟨g,cap,cur,e,_⟩
  ·rw [e] at hv';exact absurd rfl hv'
  ·exact ⟨⟨_,_,_,e⟩,hv'⟩
 refine ⟨hbut4,hbox4,by omega,hsl.1,?_⟩
 rcases hc with ⟨r,S,c1,c2,c3,c4,c5,c6,c7,c8⟩|⟨⟨f',m',c1⟩,c2⟩
 ·refine .inl ⟨r,c1,?_,?_,?_,?_,hsl.2,?_⟩
  ·have:=hask _ _ _ c3
   rw [show fuel-((acc.join r).2.1:Nat)=fuel-acc.2.1-r.2.1 from by simp only [FX.join];omega,show room-((acc.join r).2.2:Nat)=room-acc.2.2-r.2.2 from by simp only [FX.join];omega]
   exact this
  ·simp only [FX.join];omega
  ·simp only [FX.join];omega
  ·have:=hO r c1
   simp only [FX.join,List.length_append,c2,List.length_singleton]
   omega
  ·have hj:(acc.join r).1=acc.1++[x]:=by simp only [FX.join,c2]
   rw [hj]
   exact (hX.push (w:=w1) (o:=o2) (fun k hk hk'=>hb1.block k hk' (fun e=>by have e3:k=Q:=e;omega)) (by omega) (by omega) c6 c7 c8 hown hg hlv (by rw [e2] at hat;exact hat)).2.2
 ·exact .inr ⟨⟨f',m',hask _ _ _ c1⟩,c2⟩
def jgK (wr:World) (Q:Nat) (fuel room:Int) (O:Option FX) (z:Value) (wx:World):Prop:=∃ (G:Nat) (x:X) (ps:Option Addr) (ls cs:Nat) (pu:Option Addr) (lu cu:Nat),z=.pointer (some ⟨G,0,none⟩) ∧
 Six wx G x.op x.at_ x.n x.s (.slice ps ls cs) (.slice pu lu cu) 27∧But (fun k=>k=Q) wr wx ∧
 ((∃ r S,O=some r∧r.1=[x]∧Ask wx Q true (fuel-r.2.1) (room-r.2.2)∧(r.2.1:Int)≤fuel∧(r.2.2:Int)≤room∧XOwn wx x (.slice ps ls cs) (.slice pu lu cu) S∧S.Nodup∧∀ k∈S,wr.heap.size≤k)∨((∃ f' m',Ask wx Q false f' m')∧∀ r,O=some r→fuel<r.2.1∨room<r.2.2))
theorem jid {wr wc w3:World} {Q G:Nat} {fuel room:Int} {O:Option FX} {x:X} {ps pu:Option Addr} {ls cs lu cu:Nat} {y0 y1 y2 y3 y4 y5:Value} (hwc:But (fun k=>k=Q) wr wc) (hb3:But (fun k=>k=Q) wc w3) (hQ:Q<wr.heap.size) (hG:wr.heap.size≤G) (hz:w3.heap[G]? = some (.cells #[y0,y1,y2,y3,y4,y5] 27))
  (hc:(∃ r S,O=some r∧r.1=[x]∧Ask w3 Q true (fuel-r.2.1) (room-r.2.2)∧(r.2.1:Int)≤fuel∧(r.2.2:Int)≤room∧XOwn w3 x (.slice ps ls cs) (.slice pu lu cu) S∧S.Nodup∧∀ k∈S,wr.heap.size≤k∧k≠G)∨((∃ f' m',Ask w3 Q false f' m')∧∀ r,O=some r→fuel<r.2.1∨room<r.2.2)) :
  jgK wr Q fuel room O (.pointer (some ⟨G,0,none⟩)) ((((((w3.setCell ⟨G,0,none⟩ (.int .i64 x.op)).setCell ⟨G,1,none⟩ (.int .i64 x.at_)).setCell ⟨G,2,none⟩ (.int .i64 x.n)).setCell ⟨G,3,none⟩ (.string x.s)).setCell ⟨G,4,none⟩ (.slice ps ls cs)).setCell ⟨G,5,none⟩ (.slice pu lu cu)):=by
 have h0:=heap_setCell_same w3 G 0 _ _ (.int .i64 x.op) hz
 have h1:=heap_setCell_same _ G 1 _ _ (.int .i64 x.at_) h0
 have h2:=heap_setCell_same _ G 2 _ _ (.int .i64 x.n) h1
 have h3:=heap_setCell_same _ G 3 _ _ (.string x.s) h2
 have h4:=heap_setCell_same _ G 4 _ _ (.slice ps ls cs) h3
 have h5:=heap_setCell_same _ G 5 _ _ (.slice pu lu cu) h4
 have ho:∀ k,k≠G→((((((w3.setCell ⟨G,0,none⟩ (.int .i64 x.op)).setCell ⟨G,1,none⟩ (.int .i64 x.at_)).setCell ⟨G,2,none⟩ (.int .i64 x.n)).setCell ⟨G,3,none⟩ (.string x.s)).setCell ⟨G,4,none⟩ (.slice ps ls cs)).setCell ⟨G,5,none⟩ (.slice pu lu cu)).heap[k]? = w3.heap[k]? := fun k hk=>by
  rw [bhs _ _ _ _ (by exact hk),bhs _ _ _ _ (by exact hk),bhs _ _ _ _ (by exact hk),bhs _ _ _ _ (by exact hk),bhs _ _ _ _ (by exact hk),bhs _ _ _ _ (by exact hk)]
 have hw:But (fun k=>k=Q) wr w3:=hwc.step hb3 (fun _ _ h=>h)
 have hbx:=((((((hw.setCell (p:=⟨G,0,none⟩) (.inl hG) (.int .i64 x.op)).setCell (p:=⟨G,1,none⟩) (.inl hG) (.int .i64 x.at_)).setCell (p:=⟨G,2,none⟩) (.inl hG) (.int .i64 x.n)).setCell (p:=⟨G,3,none⟩) (.inl hG) (.string x.s)).setCell (p:=⟨G,4,none⟩) (.inl hG) (.slice ps ls cs)).setCell (p:=⟨G,5,none⟩) (.inl hG) (.slice pu lu cu))
 generalize ((((((w3.setCell ⟨G,0,none⟩ (.int .i64 x.op)).setCell ⟨G,1,none⟩ (.int .i64 x.at_)).setCell ⟨G,2,none⟩ (.int .i64 x.n)).setCell ⟨G,3,none⟩ (.string x.s)).setCell ⟨G,4,none⟩ (.slice ps ls cs)).setCell ⟨G,5,none⟩ (.slice pu lu cu))=wx at *
 have hask:∀ b f r,Ask w3 Q b f r→Ask wx Q b f r:=fun b f r h=>(ho Q (by omega)).trans h
 refine ⟨G,x,ps,ls,cs,pu,lu,cu,rfl,h5,hbx,?_⟩
 rcases hc with ⟨r,S,c1,c2,c3,c4,c5,c6,c7,c8⟩|⟨⟨f',m',c1⟩,c2⟩
 ·exact .inl ⟨r,S,c1,c2,hask _ _ _ c3,c4,c5,c6.same _ (fun k hk=>ho k (c8 k hk).2),c7,fun k hk=>(c8 k hk).1⟩
 ·exact .inr ⟨⟨f',m',hask _ _ _ c1⟩,c2⟩
section
variable {w wr : World} {t : X} {su u lv : Value} {Q N i k : Nat} {L : List G} {fuel room : Int} {M : Option FX} {acc : FX} {la : List XR} {SS : List (List Nat)}
theorem KT.start (h:KO w t su u Q N fuel room acc lv la SS wr) (hQ:Q<N) (hsl:IsSl lv):KT w t su u Q N L fuel room M i 0 acc lv (wr.setCell ⟨Q,0,none⟩ (.bool true)):=by
 refine ⟨h.but.setCell (.inr rfl) _,(Below.heap_setCell _ _ _ _ (by simp only;omega)).trans h.box,by have:=h.sz;simpa [World.setCell] using this,hsl,.inl ⟨([],0,0),acc,(FX.join_nil acc).symm,rfl,h.ask.stop true,h.f,h.r,h.few,h.lvb,la,SS,h.bld.same (fun k hk _=>Below.heap_setCell _ _ _ _ (by simp only;omega))⟩⟩
theorem KT.none (h:KO w t su u Q N fuel room acc lv la SS wr) (hQ:Q<N) (hsl:IsSl lv) (hM:M=none):KT w t su u Q N L fuel room M i 0 acc lv (wr.setCell ⟨Q,0,none⟩ (.bool false)):=by
 refine ⟨h.but.setCell (.inr rfl) _,(bhs _ _ _ _ (by simp only;omega)).trans h.box,by have:=h.sz;simpa [World.setCell] using this,hsl,.inr ⟨⟨_,_,h.ask.stop false⟩,fun r hr=>by rw [hM] at hr;cases hr⟩⟩
theorem KT.done (h:KT w t su u Q N L fuel room M i k acc lv wr) (hA:M=(remF t L i).map (fun b=>acc.join b)) (hR:remF t L i=(jcO t L i).bind fun a=>(remF t L (i+2)).map fun b=>a.join b) (hk:(k:Int)=jaq L (jam (t.kid i)) (-1)):KR w t su u Q N L fuel room M (i+2) lv wr:=by
 obtain ⟨h1,h2,h3,h4,h5⟩:=h
 refine ⟨h1,h2,h3,h4,?_⟩
 rcases h5 with ⟨a,acc',rfl,e1,e2⟩|h5
 ·refine .inl ⟨acc.join a,?_,e2⟩
  have ho:jcO t L i=some a:=by
   unfold jcO
   rw [if_neg (by omega),←hk,Int.toNat_natCast]
   exact e1
  rw [hA,hR,ho,Option.bind_some,Option.map_map]
  congr 1
  funext c
  simp [FX.assoc]
 ·exact .inr h5
theorem KT.over (h:KT w t su u Q N L fuel room M i k acc lv wr) {f' m':Int} (ha:Ask wr Q false f' m') (j:Nat):KR w t su u Q N L fuel room M j lv wr:=by
 obtain ⟨h1,h2,h3,h4,h5⟩:=h
 refine ⟨h1,h2,h3,h4,?_⟩
 rcases h5 with ⟨a,acc',_,_,e2,_⟩|h5
 ·exfalso
  have a0:=e2.cells.1
  rw [ha.cells.1] at a0
  injection a0 with a0
  injection a0 with a0
  cases a0
 ·exact .inr h5
end
theorem jn5 {g:G} (h:GW g) (nm:ByteArray):GW (g.named nm):=by
 cases g with
 | no=>exact h
 | mk name deep one len sm=>unfold GW at h;show GW (.mk nm deep one len sm);unfold GW;exact h
theorem jou {L:List G} {k:Nat} {ns:List ByteArray} (h:∀ g∈L,GW g):∀ g∈jaA L k ns++L,GW g:=by
 intro g hg
 rcases lma.1 hg with hg|hg
 ·unfold jaA at hg
  obtain ⟨nm,_,hn⟩:=List.mem_filterMap.1 hg
  obtain ⟨g0,hf,hn⟩:=bind_some hn
  split at hn
  ·rename_i hc
   injection hn with hn
   subst hn
   refine jn5 ((h g0 (jb1 hf).1).some ?_ k hc.2) nm
   rintro rfl
   exact absurd hc.1 (by simp [G.deep])
  ·cases hn
 ·exact h g hg
theorem jnk {t:X} {L:List G} {i k:Nat} {acc a:FX} {M:Option FX} {fuel room:Int} (hA:M=(remF t L i).map (fun b=>acc.join b)) (hR:remF t L i=(jcO t L i).bind fun a=>(remF t L (i+2)).map fun b=>a.join b) (hk:(k:Int)<jaq L (jam (t.kid i)) (-1)) (ha:jaV (fun k=>jaI (t.kid i) (jaA L k (jam (t.kid i))++L)) k=some a)
  (hf:∀ r,jaI (t.kid i) (jaA L k (jam (t.kid i))++L)=some r→fuel-(acc.join a).2.1<r.2.1∨room-(acc.join a).2.2<r.2.2):∀ r,M=some r→fuel<r.2.1∨room<r.2.2:=by
 intro r hr
 rw [hA,hR] at hr
 obtain ⟨c,hc,rfl⟩:=jar hr
 obtain ⟨d,hd,hc⟩:=bind_some hc
 obtain ⟨e,_,rfl⟩:=jar hc
 unfold jcO at hd
 rw [if_neg (by omega)] at hd
 obtain ⟨a',b',c',h1,h2,rfl⟩:=jji hd (k:=k) (by omega)
 rw [ha] at h1
 injection h1 with h1
 subst h1
 have:=hf b' h2
 simp only [FX.join] at this ⊢
 omega
theorem jd7 {L:List G} {B:Int} (h:∀ g∈L,(g.len:Int)≤B) (hB:-1≤B):∀ (ns:List ByteArray) (out:Int),out≤B→jaq L ns out≤B
 | [],out,ho=>ho
 | nm::r,out,ho=>by
  simp only [jaq]
  cases hf:jag L nm with
  | none=>exact jd7 h hB r out ho
  | some g =>
   simp only
   split
   ·split
    ·exact hB
    ·exact jd7 h hB r _ (h g (jb1 hf).1)
   ·exact jd7 h hB r out ho
theorem GsV.lens {w0 w:World} {Q:Nat} {L:List G} {v:Value} (h:GsV w0 w Q L v):∀ g∈L,(g.len:Int)≤9223372036854775807:=by
 intro g hg
 obtain ⟨p,cap,_,_,_,_,h3⟩:=h
 obtain ⟨i,hi,rfl⟩:=List.mem_iff_getElem.1 hg
 obtain ⟨b,o,a,b',c,_,_,_,hga⟩:=h3 i hi
 rw [lgd,lgg hi,Option.getD_some] at hga
 obtain ⟨_,_,q,cq,_,_,h4,h5,_⟩:=hga.parts
 unfold maxLen at h5
 omega
theorem But.six {Y:Nat→Prop} {a b:World} (h:But Y a b) {G:Nat} (hG:a.heap.size≤G) (x0 x1 x2 x3 x4 x5:Value):But Y a ((((((b.setCell ⟨G,0,none⟩ x0).setCell ⟨G,1,none⟩ x1).setCell ⟨G,2,none⟩ x2).setCell ⟨G,3,none⟩ x3).setCell ⟨G,4,none⟩ x4).setCell ⟨G,5,none⟩ x5) :=
 (((((h.setCell (.inl hG) _).setCell (.inl hG) _).setCell (.inl hG) _).setCell (.inl hG) _).setCell (.inl hG) _).setCell (.inl hG) _
theorem jlu {wr wc w3:World} {Q:Nat} {fuel room:Int} {O:Option FX} {x:X} {ps pu:Option Addr} {ls cs lu cu:Nat} (hwc:But (fun k=>k=Q) wr wc) (hb3:But (fun k=>k=Q) wc w3)
  (hc:(∃ r S,O=some r∧r.1=[x]∧Ask w3 Q true (fuel-r.2.1) (room-r.2.2)∧(r.2.1:Int)≤fuel∧(r.2.2:Int)≤room∧XOwn w3 x (.slice ps ls cs) (.slice pu lu cu) S∧S.Nodup∧∀ k∈S,wc.heap.size≤k)∨((∃ f' m',Ask w3 Q false f' m')∧∀ r,O=some r→fuel<r.2.1∨room<r.2.2)) :
  jgK wr Q fuel room O (.pointer (some ⟨w3.heap.size,0,none⟩)) (w3.alloc (.cells #[.int .i64 x.op,.int .i64 x.at_,.int .i64 x.n,.string x.s,.slice ps ls cs,.slice pu lu cu] 27)):=by
 refine ⟨_,x,ps,ls,cs,pu,lu,cu,rfl,han w3 _,(hwc.step hb3 (fun _ _ h=>h)).alloc _,?_⟩
 have hask:∀ b f r,Ask w3 Q b f r→Ask (w3.alloc (.cells #[.int .i64 x.op,.int .i64 x.at_,.int .i64 x.n,.string x.s,.slice ps ls cs,.slice pu lu cu] 27)) Q b f r:=fun b f r h=>(bha w3 _ Q (aes.1 h).1).trans h
 rcases hc with ⟨r,S,c1,c2,c3,c4,c5,c6,c7,c8⟩|⟨⟨f',m',c1⟩,c2⟩
 ·exact .inl ⟨r,S,c1,c2,hask _ _ _ c3,c4,c5,c6.same _ (fun k hk=>bha w3 _ k (c6.there _ k hk)),c7,fun k hk=>by have h1:=c8 k hk;have h2:=hwc.size;omega⟩
 ·exact .inr ⟨⟨f',m',hask _ _ _ c1⟩,c2⟩
end Go.Proofs.YtjmlfacbcfbhdaaGreatDoor
