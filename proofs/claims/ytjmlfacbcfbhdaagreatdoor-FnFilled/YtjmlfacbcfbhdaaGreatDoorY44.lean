/- spec.l8Fill, out of spec.l8Kids. Condition: at most 2^20 of the template, and of each One. -/
import Derived.Test.YtjmlfacbcfbhdaaGreatDoorYA
import Derived.Test.YtjmlfacbcfbhdaaGreatDoorY28
import Derived.Test.YtjmlfacbcfbhdaaGreatDoorY10
import Derived.Deep.RegionHeld3
import Derived.Deep.Cut
set_option maxRecDepth 100000
set_option maxHeartbeats 8000000
namespace Go.Proofs.YtjmlfacbcfbhdaaGreatDoor
open Go.ChangeShapes Go.WideShapes Go.ChangeAt Go.RowKit
theorem jnR {t:X} {L:List G} (h:t.op=1):jaI t L=some ([t],1,0):=by
 cases t with
 | no=>simp [X.op] at h
 | mk op a n s set len kid=>have h':op=1:=h;rw [jaI,if_neg (by omega),if_pos h']
theorem jl5 {t:X} {L:List G} (hn:t≠.no) (h2:¬ t.op=2) (h1:¬ t.op=1):jaI t L=(jcC t.kid (fun i L=>jaI (t.kid i) L) L t.len t.len 0).map fun ks=>([.mk t.op t.at_ 0 ⟨#[]⟩ [] ks.1.length (fun i=>ks.1.getD i .no)],ks.2.1+1,ks.2.2):=by
 cases t with
 | no=>exact absurd rfl hn
 | mk op a n s set len kid =>
  have h2':¬ op=2:=h2
  have h1':¬ op=1:=h1
  rw [jaI,if_neg h2',if_neg h1']
  rfl
theorem jl8 {t:X} {L:List G} (h:t.op=2) (hg:jag L t.s=none):jaI t L=if (t.s.toList==jb3)=true then none else some ([t],1,0):=by
 cases t with
 | no=>simp [X.op] at h
 | mk op a n s set len kid =>
  have h':op=2:=h
  have hg':jag L s=none:=hg
  rw [jaI,if_pos h',hg']
  rfl
theorem jnQ {t:X} {L:List G} {g:G} (h:t.op=2) (hg:jag L t.s=some g):jaI t L=if g.deep=0 then some ([g.one],1,g.one.count) else none:=by
 cases t with
 | no=>simp [X.op] at h
 | mk op a n s set len kid =>
  have h':op=2:=h
  have hg':jag L s=some g:=hg
  rw [jaI,if_pos h',hg']
structure FS (w:World) (t:X) (N Q:Nat) (su u:Value) (wx:World) (ok:Bool) (fuel room:Int):Prop where
 ask:Ask wx Q ok fuel room
 box:Six wx N t.op t.at_ t.n t.s su u 27
 res:wx.heap[N+1]? = some (.cells #[.int .i64 0,.int .i64 0,.int .i64 0,.string ⟨#[]⟩,.slice none 0 0,.slice none 0 0] 27)
 but:But (fun k=>k=Q) w wx
 sz:N+2≤wx.heap.size
section
variable {w wx wy : World} {t : X} {N Q : Nat} {su u : Value} {ok : Bool} {fuel room : Int}
theorem FS.below (h:FS w t N Q su u wx ok fuel room) (hb:Below wx.heap.size wx wy):FS w t N Q su u wy ok fuel room:=⟨(hb.block _ (aes.1 h.ask).1).trans h.ask,h.box.below hb,(hb.block _ (aes.1 h.res).1).trans h.res,h.but.step (But.of_all hb) (fun _ _ h=>h),Nat.le_trans h.sz hb.size⟩
theorem FS.set (h:FS w t N Q su u wx ok fuel room) (hQ:Q<N) (j:Nat) (x:Value) {ok':Bool} {f' r':Int} (ha:Ask (wx.setCell ⟨Q,j,none⟩ x) Q ok' f' r'):FS w t N Q su u (wx.setCell ⟨Q,j,none⟩ x) ok' f' r' :=
 ⟨ha,(bhs _ _ _ _ (by simp only;omega)).trans h.box,(bhs _ _ _ _ (by simp only;omega)).trans h.res,h.but.setCell (.inr rfl) _,by have:=h.sz;simpa [World.setCell] using this⟩
abbrev jbE (w:World) (R:Nat) (a b c:Int) (d:ByteArray) (e f:Value):World:=(((((w.setCell ⟨R,0,none⟩ (.int .i64 a)).setCell ⟨R,1,none⟩ (.int .i64 b)).setCell ⟨R,2,none⟩ (.int .i64 c)).setCell ⟨R,3,none⟩ (.string d)).setCell ⟨R,4,none⟩ e).setCell ⟨R,5,none⟩ f
theorem jjL {w:World} {R:Nat} {x0 x1 x2 x3 x4 x5:Value} {ty:TypeId} (h:w.heap[R]? = some (.cells #[x0,x1,x2,x3,x4,x5] ty)) (a b c:Int) (d:ByteArray) (e f:Value):(jbE w R a b c d e f).heap[R]? = some (.cells #[.int .i64 a,.int .i64 b,.int .i64 c,.string d,e,f] ty):=by
 have h0:=heap_setCell_same w R 0 _ _ (.int .i64 a) h
 have h1:=heap_setCell_same _ R 1 _ _ (.int .i64 b) h0
 have h2:=heap_setCell_same _ R 2 _ _ (.int .i64 c) h1
 have h3:=heap_setCell_same _ R 3 _ _ (.string d) h2
 have h4:=heap_setCell_same _ R 4 _ _ e h3
 have h5:=heap_setCell_same _ R 5 _ _ f h4
 exact h5
theorem jfL (w:World) (R:Nat) (a b c:Int) (d:ByteArray) (e f:Value) (x:Nat) (hx:x≠R):(jbE w R a b c d e f).heap[x]? = w.heap[x]? := by
 unfold jbE
 rw [bhs _ _ _ _ (by exact hx),bhs _ _ _ _ (by exact hx),bhs _ _ _ _ (by exact hx),bhs _ _ _ _ (by exact hx),bhs _ _ _ _ (by exact hx),bhs _ _ _ _ (by exact hx)]
theorem But.put6 {Y:Nat→Prop} {a b:World} (h:But Y a b) {R:Nat} (hR:Y R) (x0 x1 x2:Int) (x3:ByteArray) (x4 x5:Value):But Y a (jbE b R x0 x1 x2 x3 x4 x5) :=
 (((((h.setCell (.inr hR) _).setCell (.inr hR) _).setCell (.inr hR) _).setCell (.inr hR) _).setCell (.inr hR) _).setCell (.inr hR) _
theorem FS.put (h:FS w t N Q su u wx ok fuel room) (hQ:Q<N) (hN:w.heap.size≤N) (a b c:Int) (d:ByteArray) (e f:Value):(jbE wx (N+1) a b c d e f).heap[N+1]? = some (.cells #[.int .i64 a,.int .i64 b,.int .i64 c,.string d,e,f] 27)∧Ask (jbE wx (N+1) a b c d e f) Q ok fuel room∧But (fun k=>k=Q) w (jbE wx (N+1) a b c d e f) :=
 ⟨jjL h.res a b c d e f,(jfL wx (N+1) a b c d e f Q (by omega)).trans h.ask,(((((h.but.setCell (.inl (by simp only;omega)) _).setCell (.inl (by simp only;omega)) _).setCell (.inl (by simp only;omega)) _).setCell (.inl (by simp only;omega)) _).setCell (.inl (by simp only;omega)) _).setCell (.inl (by simp only;omega)) _⟩
theorem jbN {W:World} {R:Nat} {a b c:Int} {d:ByteArray} {e f:Value} (h:W.heap[R]? = some (.cells #[.int .i64 a,.int .i64 b,.int .i64 c,.string d,e,f] 27)):W.cell? ⟨R,0,none⟩=some (.int .i64 a)∧W.cell? ⟨R,1,none⟩=some (.int .i64 b)∧W.cell? ⟨R,2,none⟩=some (.int .i64 c)∧W.cell? ⟨R,3,none⟩=some (.string d)∧W.cell? ⟨R,4,none⟩=some e∧W.cell? ⟨R,5,none⟩=some f:=⟨crw W R 0 _ _ _ h,crw W R 1 _ _ _ h,crw W R 2 _ _ _ h,crw W R 3 _ _ _ h,crw W R 4 _ _ _ h,crw W R 5 _ _ _ h⟩
theorem FS.no {f0 r0:Int} {m:Option FX} (h:FS w t N Q su u wx false fuel room) (hQ:Q<N) (hN:w.heap.size≤N) (hm:∀ r,m=some r→f0<r.2.1∨r0<r.2.2):jcz w Q f0 r0 m (.returned (.agg #[.int .i64 0,.int .i64 0,.int .i64 0,.string ⟨#[]⟩,.slice none 0 0,.slice none 0 0])) (jbE wx (N+1) 0 0 0 ⟨#[]⟩ (.slice none 0 0) (.slice none 0 0)):=by
 obtain ⟨_,h2,h3⟩:=h.put hQ hN 0 0 0 ⟨#[]⟩ (.slice none 0 0) (.slice none 0 0)
 exact ⟨h3,jlB,.slice none 0 0,.slice none 0 0,rfl,⟨_,_,_,rfl⟩,⟨_,_,_,rfl⟩,.inr ⟨⟨_,_,h2⟩,hm⟩⟩
theorem FS.yes {f0 r0:Int} {m:Option FX} {r:FX} {x:X} {sx ux:Value} {S:List Nat} (h:FS w t N Q su u wx true fuel room) (hi1:IsSl sx) (hi2:IsSl ux) (hf:fuel=f0-r.2.1) (hrm:room=r0-r.2.2) (hQ:Q<N) (hN:w.heap.size≤N) (hm:m=some r) (hr:r.1=[x]) (h1:(r.2.1:Int)≤f0) (h2:(r.2.2:Int)≤r0) (hx:XOwn wx x sx ux S) (hS:S.Nodup) (hge:∀ k∈S,N+2≤k):jcz w Q f0 r0 m (.returned (.agg #[.int .i64 x.op,.int .i64 x.at_,.int .i64 x.n,.string x.s,sx,ux])) (jbE wx (N+1) x.op x.at_ x.n x.s sx ux):=by
 subst hf hrm
 obtain ⟨_,h3,h4⟩:=h.put hQ hN x.op x.at_ x.n x.s sx ux
 exact ⟨h4,x,sx,ux,rfl,hi1,hi2,.inl ⟨r,S,hm,hr,h3,h1,h2,hx.same _ (fun k hk=>jfL wx (N+1) _ _ _ _ _ _ k (by have:=hge k hk;omega)),hS,fun k hk=>by have:=hge k hk;omega⟩⟩
theorem FS.vain {f0 r0:Int} {m:Option FX} (x:X) (sx ux:Value) (h:FS w t N Q su u wx false fuel room) (hi1:IsSl sx) (hi2:IsSl ux) (hQ:Q<N) (hN:w.heap.size≤N) (hm:∀ r,m=some r→f0<r.2.1∨r0<r.2.2):jcz w Q f0 r0 m (.returned (.agg #[.int .i64 x.op,.int .i64 x.at_,.int .i64 x.n,.string x.s,sx,ux])) (jbE wx (N+1) x.op x.at_ x.n x.s sx ux):=by
 obtain ⟨_,h3,h4⟩:=h.put hQ hN x.op x.at_ x.n x.s sx ux
 exact ⟨h4,x,sx,ux,rfl,hi1,hi2,.inr ⟨⟨_,_,h3⟩,hm⟩⟩
end
theorem jmo {w w4:World} {t:X} {N Q B pn cn:Nat} {pk:Option Addr} {su u:Value} {fuel room:Int} {m M:Option FX} (hQ:Q<N) (hN:w.heap.size≤N)
  (h4:Six w4 N t.op t.at_ t.n t.s su u 27∧w4.heap[N+1]? = some (.cells #[.int .i64 0,.int .i64 0,.int .i64 0,.string ⟨#[]⟩,.slice none 0 0,.slice none 0 0] 27)∧But (fun k=>k=Q) w w4∧N+2≤w4.heap.size)
  (hm:m=M.map fun ks=>([.mk t.op t.at_ 0 ⟨#[]⟩ [] ks.1.length (fun i=>ks.1.getD i .no)],ks.2.1+1,ks.2.2)) (hB:N+2≤B)
  (hc:(∃ r S,M=some r∧Ask w4 Q true (fuel-1-r.2.1) (room-r.2.2)∧(r.2.1:Int)≤fuel-1∧(r.2.2:Int)≤room∧XsOwn w4 r.1.length (fun i=>r.1.getD i .no) (.slice pk pn cn) S∧S.Nodup∧(∀ k∈S,B≤k)∧r.1.length≤4000)∨((∃ f' m',Ask w4 Q false f' m')∧∀ r,M=some r→fuel-1<r.2.1∨room<r.2.2)) :
  jcz w Q fuel room m (.returned (.agg #[.int .i64 t.op,.int .i64 t.at_,.int .i64 0,.string ⟨#[]⟩,.slice none 0 0,.slice pk pn cn])) (jbE w4 (N+1) t.op t.at_ 0 ⟨#[]⟩ (.slice none 0 0) (.slice pk pn cn)):=by
 obtain ⟨hb,hr,hbut,hsz⟩:=h4
 rcases hc with ⟨r,S,e1,e2,e3,e4,e5,e6,e7,e8⟩|⟨⟨f',m',e1⟩,e2⟩
 ·have hF5:FS w t N Q su u w4 true (fuel-1-r.2.1) (room-r.2.2):=⟨e2,hb,hr,hbut,hsz⟩
  have hx:XOwn w4 (.mk t.op t.at_ 0 ⟨#[]⟩ [] r.1.length (fun i=>r.1.getD i .no)) (.slice none 0 0) (.slice pk pn cn) ([]++S):=XOwn.mk' (sv:=.slice none 0 0) ⟨nzl _,⟨by omega,by omega⟩,nzl _⟩ ⟨rfl,.inl ⟨rfl,rfl⟩⟩ e5
  rw [List.nil_append] at hx
  exact hF5.yes (x:=.mk t.op t.at_ 0 ⟨#[]⟩ [] r.1.length (fun i=>r.1.getD i .no)) (f0:=fuel) (r0:=room) (r:=([.mk t.op t.at_ 0 ⟨#[]⟩ [] r.1.length (fun i=>r.1.getD i .no)],r.2.1+1,r.2.2)) (m:=m) ⟨_,_,_,rfl⟩ ⟨_,_,_,rfl⟩ (by simp only;omega) rfl hQ hN (by rw [hm,e1];rfl) rfl (by simp only;omega) e4 hx e6 (fun k hk=>by
   have h1:=e7 k hk
   omega)
 ·have hF5:FS w t N Q su u w4 false f' m':=⟨e1,hb,hr,hbut,hsz⟩
  exact hF5.vain (.mk t.op t.at_ 0 ⟨#[]⟩ [] 0 (fun _=>.no)) (.slice none 0 0) (.slice pk pn cn) ⟨_,_,_,rfl⟩ ⟨_,_,_,rfl⟩ hQ hN (fun r hr=>by
   rw [hm] at hr
   obtain ⟨ks,hks,rfl⟩:=jar hr
   have:=e2 ks hks
   simp only
   omega)
theorem joZ (t:X) (hk8:jlF t):jig t:=by
 have HK8:=jaa hk8
 clear hk8
 intro w0 L w su u v Q fuel room hfrom hask hf0 hf1 hr0 hr1
 have hst:=hfrom.st
 have htw:=hfrom.wt
 have hL:∀ g∈L,GW g:=hfrom.ok
 have HFR:=jaa hfrom
 obtain ⟨ht,hv⟩:=hst w (But.refl _ _)
 obtain ⟨pu,cu,e1⟩:=ht.xs.shape
 obtain ⟨ps,cs,e2⟩:=ht.sets.shape
 obtain ⟨pl,cl,e3⟩:=hv.shape
 subst e1 e2 e3
 obtain ⟨m,hm⟩:∃ m,m=jaI t L:=⟨_,rfl⟩
 rw [←hm]
 have HM:Hid (m=jaI t L):=hm
 have hQ:Q<w.heap.size:=(aes.1 hask).1
 obtain ⟨W,hW,a0,a1,asz,ab⟩:=jhq w (.cells #[.int .i64 t.op,.int .i64 t.at_,.int .i64 t.n,.string t.s,.slice ps t.set.length cs,.slice pu t.len cu] 27) (.cells #[.int .i64 0,.int .i64 0,.int .i64 0,.string ⟨#[]⟩,.slice none 0 0,.slice none 0 0] 27)
 obtain ⟨N,hN⟩:∃ N,N=w.heap.size:=⟨_,rfl⟩
 rw [←hN] at a0 a1 asz ab hQ
 have hAW:Ask W Q true fuel room:=(ab.block Q hQ).trans hask
 have HH:Hid ((∀ wx,But (fun k=>k=Q) w wx→t.At 0 wx (.slice ps t.set.length cs) (.slice pu t.len cu)∧GsAt wx L.length (fun i=>L.getD i .no) (.slice pl L.length cl))∧t.weight≤1048576∧(∀ g∈L,GW g)):=⟨hst,htw,hL⟩
 have h6:Six W N t.op t.at_ t.n t.s (.slice ps t.set.length cs) (.slice pu t.len cu) 27:=a0
 have HZ:Hid (W.heap[N+1]? = some (.cells #[.int .i64 0,.int .i64 0,.int .i64 0,.string ⟨#[]⟩,.slice none 0 0,.slice none 0 0] 27)∧W.heap.size=N+2∧Below N w W∧N=w.heap.size):=⟨a1,asz,ab,hN⟩
 obtain ⟨q0,q1,q2,qf⟩:=hAW.cells
 have HAW:=jaa hAW
 have H6:=jaa h6
 have HWW:=jaa hW
 have HN:=jaa hN
 clear hm ht htw hv hL hask hst hW hN a0 a1 asz ab h6 hAW hfrom
 go_enter Tryz.func21,Tryz.ntmps21
 go_upto_region 1 with fail
 rw [HWW.out,←HN.out]
 go_upto_region 2 with fail
 have HF1:Hid (FS w t N Q (.slice ps t.set.length cs) (.slice pu t.len cu) (W.setCell ⟨Q,1,none⟩ (.int .i64 (fuel-1))) true (fuel-1) room):=by
  have h0:FS w t N Q (.slice ps t.set.length cs) (.slice pu t.len cu) W true fuel room:=⟨HAW.out,H6.out,HZ.out.1,But.of_all (by rw [←HZ.out.2.2.2];exact HZ.out.2.2.1),by rw [HZ.out.2.1];omega⟩
  exact h0.set hQ 1 _ (HAW.out.fuel _)
 obtain ⟨W1,hW1⟩:∃ x,x=W.setCell ⟨Q,1,none⟩ (.int .i64 (fuel-1)):=⟨_,rfl⟩
 rw [←hW1] at HF1 ⊢
 clear hW1 HAW H6 HWW q0 q1 q2 qf
 obtain ⟨q0,q1,q2,qf⟩:=HF1.out.ask.cells
 have z0:=crw W1 _ 0 _ _ _ HF1.out.res
 have z1:=crw W1 _ 1 _ _ _ HF1.out.res
 have z2:=crw W1 _ 2 _ _ _ HF1.out.res
 have z3:=crw W1 _ 3 _ _ _ HF1.out.res
 have z4:=crw W1 _ 4 _ _ _ HF1.out.res
 have z5:=crw W1 _ 5 _ _ _ HF1.out.res
 have zf:∀ j,W1.frozen? ⟨N+1,j,none⟩=false:=fun j=>fzr W1 _ j _ _ HF1.out.res
 by_cases hfu:fuel-1<0
 ·have hm:Hid (∀ r,m=some r→fuel<r.2.1∨room<r.2.2):=fun r hr=>.inl (by
   have:=jei t L r (by rw [←HM.out];exact hr)
   omega)
  have HF2:Hid (FS w t N Q (.slice ps t.set.length cs) (.slice pu t.len cu) (W1.setCell ⟨Q,0,none⟩ (.bool false)) false (fuel-1) room):=HF1.out.set hQ 0 _ (HF1.out.ask.stop false)
  have hne:¬ N+1=Q:=by omega
  have hne':¬ Q=N+1:=by omega
  go_wp2_with fail
  obtain ⟨r0,r1,r2,r3,r4,r5⟩:=jbN (HF2.out.put hQ (by rw [←HZ.out.2.2.2];exact nlr _) 0 0 0 ⟨#[]⟩ (.slice none 0 0) (.slice none 0 0)).1
  have HE:=jaa (HF2.out.no hQ (by rw [←HZ.out.2.2.2];exact nlr _) hm.out)
  obtain ⟨WF,hWF⟩:∃ x,x=jbE (W1.setCell ⟨Q,0,none⟩ (.bool false)) (N+1) 0 0 0 ⟨#[]⟩ (.slice none 0 0) (.slice none 0 0):=⟨_,rfl⟩
  rw [←hWF] at r0 r1 r2 r3 r4 r5 HE
  unfold jbE at hWF
  rw [←hWF]
  clear hWF
  refine bpr (v:=.agg #[.int .i64 0,.int .i64 0,.int .i64 0,.string ⟨#[]⟩,.slice none 0 0,.slice none 0 0]) (by rw [jae (p:=6) (ty:=27) (by kernel_rfl)];simp [go_sem,r0,r1,r2,r3,r4,r5]) rfl HE.out
 ·obtain ⟨x0,x1,x2,x3,x4,x5⟩:=HF1.out.box.cells
  have HNE:Hid (w.heap.size≤N):=by rw [←HZ.out.2.2.2];exact nlr _
  have HBW:Hid (∀ wx,Below W1.heap.size W1 wx→t.At 0 wx (.slice ps t.set.length cs) (.slice pu t.len cu)):=fun wx hx=>X.At.below hx (HH.out.1 W1 HF1.out.but).1
  by_cases ho1:t.op=1
  ·have t1:(t.op==1)=true:=by rw [ho1];rfl
   have t2:(t.op==2)=false:=by rw [ho1];rfl
   have HMM:Hid (m=some ([t],1,0)):=by show _=_;rw [HM.out,jnR ho1]
   clear ho1
   go_wp2_with fail
   refine (jcV t W1 _ _ (HBW.out W1 (brf _ _)) HH.out.2.1).mono ?_
   rintro e w3 ⟨su',u',S,rfl,hb3,hown,hnS,hgS⟩
   obtain ⟨pd,cd,hd⟩:=hown.at0.sets.shape
   obtain ⟨pe,ce,hee⟩:=hown.at0.xs.shape
   subst hd hee
   have HF3:Hid (FS w t N Q (.slice ps t.set.length cs) (.slice pu t.len cu) w3 true (fuel-1) room):=HF1.out.below hb3
   have HE:=jaa (HF3.out.yes (f0:=fuel) (r0:=room) (r:=([t],1,0)) (x:=t) (m:=m) ⟨_,_,_,rfl⟩ ⟨_,_,_,rfl⟩ (by simp) (by simp) hQ HNE.out HMM.out rfl (by simp only;omega) (by simp only;omega) hown hnS (fun k hk=>by have:=hgS k hk;have:=HF1.out.sz;omega))
   obtain ⟨r0,r1,r2,r3,r4,r5⟩:=jbN (HF3.out.put hQ HNE.out t.op t.at_ t.n t.s (.slice pd t.set.length cd) (.slice pe t.len ce)).1
   have y0:=crw w3 _ 0 _ _ _ HF3.out.res
   have y1:=crw w3 _ 1 _ _ _ HF3.out.res
   have y2:=crw w3 _ 2 _ _ _ HF3.out.res
   have y3:=crw w3 _ 3 _ _ _ HF3.out.res
   have y4:=crw w3 _ 4 _ _ _ HF3.out.res
   have y5:=crw w3 _ 5 _ _ _ HF3.out.res
   have yf:∀ j,w3.frozen? ⟨N+1,j,none⟩=false:=fun j=>fzr w3 _ j _ _ HF3.out.res
   clear hb3 hown hnS hgS
   go_wp2_with fail
   obtain ⟨WF,hWF⟩:∃ x,x=jbE w3 (N+1) t.op t.at_ t.n t.s (.slice pd t.set.length cd) (.slice pe t.len ce):=⟨_,rfl⟩
   rw [←hWF] at r0 r1 r2 r3 r4 r5 HE
   unfold jbE at hWF
   rw [←hWF]
   clear hWF
   refine bpr (v:=.agg #[.int .i64 t.op,.int .i64 t.at_,.int .i64 t.n,.string t.s,.slice pd t.set.length cd,.slice pe t.len ce]) (by rw [jae (p:=6) (ty:=27) (by kernel_rfl)];simp [go_sem,r0,r1,r2,r3,r4,r5]) rfl HE.out
  ·by_cases ho2:t.op=2
   ·have t1:(t.op==1)=false:=by rw [ho2];rfl
    have t2:(t.op==2)=true:=by rw [ho2];rfl
    have HO2:=jaa ho2
    have HCG:=jaa (jhi L t.s W1 _ (HH.out.1 W1 HF1.out.but).2)
    clear ho1 ho2
    go_wp2_with fail
    refine HCG.out.mono ?_
    rintro e w3 ⟨k',rfl,hfg,hb3⟩
    have HF2:Hid (FS w t N Q (.slice ps t.set.length cs) (.slice pu t.len cu) w3 true (fuel-1) room):=HF1.out.below hb3
    clear hb3 HCG q0 q1 q2 qf z0 z1 z2 z3 z4 z5 zf x0 x1 x2 x3 x4 x5
    obtain ⟨q0,q1,q2,qf⟩:=HF2.out.ask.cells
    obtain ⟨x0,x1,x2,x3,x4,x5⟩:=HF2.out.box.cells
    have hne:¬ N+1=Q:=by omega
    have hne':¬ Q=N+1:=by omega
    have hne2:¬ N=Q:=by omega
    have hne3:¬ Q=N:=by omega
    rcases hfg with ⟨i,hi,rfl,-,hfg⟩|⟨rfl,hfg⟩
    ·obtain ⟨p9,c9,e9,_,hlc,hcm,hat⟩:=HFR.out.gs.but HF2.out.but
     injection e9 with e91 _ e92
     subst e91 e92
     obtain ⟨b,ob,sa,sb,sc,hpl,hbq,hd9,hg9⟩:=hat i hi
     have HBQ:=jaa hbq
     clear hbq
     have hgw:GW (L.getD i .no):=HH.out.2.2 _ (by rw [lgd,lgg hi,Option.getD_some];exact List.getElem_mem _)
     subst hpl
     clear hat
     generalize L.getD i .no=g at *
     have HMM:Hid (m=if g.deep=0 then some ([g.one],1,g.one.count) else none):=by show _=_;rw [HM.out,jnQ HO2.out hfg]
     obtain ⟨d0,d1,d2,d3,d4,d5,d6,d7,d8⟩:=hd9
     have hiL:(i:Int)<L.length:=by omega
     have hiL2:(i:Int)≤50000000000:=by have:=HFR.out.few;omega
     clear hfg hlc
     by_cases hdp:g.deep=0
     ·have HMS:Hid (m=some ([g.one],1,g.one.count)):=by show _=_;rw [HMM.out,if_pos hdp]
      rw [hdp] at d1
      obtain ⟨⟨pa,ca,ea⟩,⟨pb,cb,eb⟩,-⟩:=hg9.shape
      subst ea eb
      have hone0:=hg9.parts.2.1
      have how:=hgw.one hg9.ne
      obtain ⟨o1,ho1⟩:∃ o1,o1=g.one:=⟨_,rfl⟩
      rw [←ho1] at HMS d2 d3 d4 d5 d6 d7 hone0 how
      have hone:=X.At.below (HFR.out.but HF2.out.but).bel hone0
      obtain ⟨rn,hrn⟩:∃ rn:Nat,room=rn:=⟨room.toNat,by omega⟩
      subst hrn
      have HSZ:=jaa (jlg o1 w3.drew _ _ (rn+1) (X.At.below (brf _ _).drew hone) how (by omega) (by omega))
      have HOB:Hid (∀ wx,But (fun k=>k=Q) w3 wx→o1.At 0 wx (.slice pa o1.set.length ca) (.slice pb o1.len cb)):=fun wx hx=>by
       exact X.At.below (HFR.out.but (HF2.out.but.step hx (fun _ _ h=>h))).bel hone0
      have HDB:Hid (∀ wx,But (fun k=>k=Q) w3 wx→wx.cell? ⟨b,ob+i*9+2,none⟩=some (.int .i64 o1.op)∧wx.cell? ⟨b,ob+i*9+3,none⟩=some (.int .i64 o1.at_)∧wx.cell? ⟨b,ob+i*9+4,none⟩=some (.int .i64 o1.n)∧wx.cell? ⟨b,ob+i*9+5,none⟩=some (.string o1.s)∧wx.cell? ⟨b,ob+i*9+6,none⟩=some (.slice pa o1.set.length ca)∧wx.cell? ⟨b,ob+i*9+7,none⟩=some (.slice pb o1.len cb)):=fun wx hx=>by
       have kk:∀ j x,w3.cell? ⟨b,j,none⟩=some x→wx.cell? ⟨b,j,none⟩=some x:=fun j x hj=>(hx.cell (wbl w3 _ hj) (by simpa using HBQ.out)).trans hj
       exact ⟨kk _ _ d2,kk _ _ d3,kk _ _ d4,kk _ _ d5,kk _ _ d6,kk _ _ d7⟩
      have how':=jaa how
      have hrm:rn≤1500:=by omega
      have HFU:=jaa hfu
      clear d0 d8 hg9 hgw hdp HMM x0 x1 x2 x3 x4 x5 ho1 hone hone0 how
      go_upto_region 14 with fail
      go_cut [] from 62 (fun wx=>∃ w4 rr,wx=w4.setCell ⟨Q,2,none⟩ (.int .i64 ((rn:Int)-(rr:Nat)))∧FS w t N Q (.slice ps t.set.length cs) (.slice pu t.len cu) w4 true (fuel-1) rn∧But (fun k=>k=Q) w3 w4∧(0<rr∧rr≤o1.count∧(rr<rn+1→rr=o1.count)))
      case first =>
       have HS0:But (fun k=>k=Q) w3 w3.drew:=(But.refl _ _).drew
       refine wp_region_held_drew (S:=fun wq=>But (fun k=>k=Q) w3 wq) (by kernel_rfl) HS0 (fun _=>?_)
       refine wpAnyH_take (i:=0) (oi:={dst:=some 62,op:=Op.move (Operand.tmp 0),type:=49,pos := "l08_fill.go:107",after:=#[],guard:=none}) (v:=.pointer (some ⟨Q,0,none⟩)) rfl (by kernel_rfl) (by kernel_rfl) (by kernel_rfl) (fun _ _ _ h=>h) (Or.inl ⟨by rfl,?_⟩) HS0 ?_
       ·intro wq hSq
        clear hSq
        go_simp
       try simp only [pLq]
       refine wpAnyH_take (i:=1) (oi:={dst:=some 63,op:=Op.move (Operand.tmp 0),type:=49,pos := "l08_fill.go:107",after:=#[],guard:=none}) (v:=.pointer (some ⟨Q,0,none⟩)) rfl (by kernel_rfl) (by kernel_rfl) (by kernel_rfl) (fun _ _ _ h=>h) (Or.inl ⟨by rfl,?_⟩) HS0 ?_
       ·intro wq hSq
        clear hSq
        go_simp
       try simp only [pLq]
       refine wpAnyH_take (i:=2) (oi:={dst:=some 64,op:=Op.nilCheck (Operand.tmp 63),type:=0,pos := "l08_fill.go:107",after:=#[{on:=1,ground:=Ground.data}],guard:=none}) (v:=.pointer (some ⟨Q,0,none⟩)) rfl (by kernel_rfl) (by kernel_rfl) (by kernel_rfl) (fun _ _ _ h=>h) (Or.inl ⟨by rfl,?_⟩) HS0 ?_
       ·intro wq hSq
        clear hSq
        go_simp
       try simp only [pLq]
       refine wpAnyH_take (i:=3) (oi:={dst:=some 65,op:=Op.fieldAddr 51 (Operand.tmp 64) 2,type:=0,pos := "l08_fill.go:107",after:=#[{on:=2,ground:=Ground.data}],guard:=none}) (v:=.pointer (some ⟨Q,2,none⟩)) rfl (by kernel_rfl) (by kernel_rfl) (by kernel_rfl) (fun _ _ _ h=>h) (Or.inl ⟨by rfl,?_⟩) HS0 ?_
       ·intro wq hSq
        clear hSq
        go_simp
       try simp only [pLq]
       refine wpAnyH_take (i:=5) (oi:={dst:=some 67,op:=Op.move (Operand.tmp 2),type:=28,pos := "l08_fill.go:107",after:=#[],guard:=none}) (v:=.slice (some ⟨b,ob,none⟩) L.length cl) rfl (by kernel_rfl) (by kernel_rfl) (by kernel_rfl) (fun _ _ _ h=>h) (Or.inl ⟨by rfl,?_⟩) HS0 ?_
       ·intro wq hSq
        clear hSq
        go_simp
       try simp only [pLq]
       refine wpAnyH_take (i:=6) (oi:={dst:=some 68,op:=Op.move (Operand.tmp 7),type:=3,pos := "l08_fill.go:107",after:=#[],guard:=none}) (v:=.int .i64 i) rfl (by kernel_rfl) (by kernel_rfl) (by kernel_rfl) (fun _ _ _ h=>h) (Or.inl ⟨by rfl,?_⟩) HS0 ?_
       ·intro wq hSq
        clear hSq
        go_simp
       try simp only [pLq]
       refine wpAnyH_take (i:=7) (oi:={dst:=some 69,op:=Op.indexAddr 28 (Operand.tmp 67) (Operand.tmp 68),type:=0,pos := "l08_fill.go:107",after:=#[{on:=5,ground:=Ground.data},{on:=6,ground:=Ground.data}],guard:=none}) (v:=.pointer (some ⟨b,ob+i*9,none⟩)) rfl (by kernel_rfl) (by kernel_rfl) (by kernel_rfl) (fun _ _ _ h=>h) (Or.inl ⟨by rfl,?_⟩) HS0 ?_
       ·intro wq hSq
        clear hSq
        go_simp
       try simp only [pLq]
       refine wpAnyH_take (i:=8) (oi:={dst:=some 70,op:=Op.fieldAddr 42 (Operand.tmp 69) 2,type:=0,pos := "l08_fill.go:107",after:=#[{on:=7,ground:=Ground.data}],guard:=none}) (v:=.pointer (some ⟨b,ob+i*9+2,none⟩)) rfl (by kernel_rfl) (by kernel_rfl) (by kernel_rfl) (fun _ _ _ h=>h) (Or.inl ⟨by rfl,?_⟩) HS0 ?_
       ·intro wq hSq
        clear hSq
        go_simp
       try simp only [pLq]
       refine wpAnyH_take (i:=9) (oi:={dst:=some 71,op:=Op.load 27 (Operand.tmp 70),type:=27,pos := "l08_fill.go:107",after:=#[{on:=8,ground:=Ground.data}],guard:=none}) (v:=.agg #[.int .i64 o1.op,.int .i64 o1.at_,.int .i64 o1.n,.string o1.s,.slice pa o1.set.length ca,.slice pb o1.len cb]) rfl (by kernel_rfl) (by kernel_rfl) (by kernel_rfl) (fun _ _ _ h=>h) (Or.inl ⟨by rfl,?_⟩) HS0 ?_
       ·intro wq hSq
        obtain ⟨f2,f3,f4,f5,f6,f7⟩:=HDB.out wq hSq
        clear hSq
        go_simp
       try simp only [pLq]
       refine wpAnyH_take (i:=10) (oi:={dst:=some 72,op:=Op.move (Operand.tmp 0),type:=49,pos := "l08_fill.go:107",after:=#[],guard:=none}) (v:=.pointer (some ⟨Q,0,none⟩)) rfl (by kernel_rfl) (by kernel_rfl) (by kernel_rfl) (fun _ _ _ h=>h) (Or.inl ⟨by rfl,?_⟩) HS0 ?_
       ·intro wq hSq
        clear hSq
        go_simp
       try simp only [pLq]
       refine wpAnyH_take (i:=11) (oi:={dst:=some 73,op:=Op.nilCheck (Operand.tmp 72),type:=0,pos := "l08_fill.go:107",after:=#[{on:=10,ground:=Ground.data}],guard:=none}) (v:=.pointer (some ⟨Q,0,none⟩)) rfl (by kernel_rfl) (by kernel_rfl) (by kernel_rfl) (fun _ _ _ h=>h) (Or.inl ⟨by rfl,?_⟩) HS0 ?_
       ·intro wq hSq
        clear hSq
        go_simp
       try simp only [pLq]
       refine wpAnyH_take (i:=12) (oi:={dst:=some 74,op:=Op.fieldAddr 51 (Operand.tmp 73) 2,type:=0,pos := "l08_fill.go:107",after:=#[{on:=11,ground:=Ground.data}],guard:=none}) (v:=.pointer (some ⟨Q,2,none⟩)) rfl (by kernel_rfl) (by kernel_rfl) (by kernel_rfl) (fun _ _ _ h=>h) (Or.inl ⟨by rfl,?_⟩) HS0 ?_
       ·intro wq hSq
        clear hSq
        go_simp
       try simp only [pLq]
       refine wpAnyH_ready (rs:=[4,13]) (by kernel_rfl) (by simp) ?_
       refine (AllReadyH.cons (o:={dst:=some 66,op:=Op.load 3 (Operand.tmp 65),type:=3,pos := "l08_fill.go:107",after:=#[{on:=3,ground:=Ground.data}],guard:=none}) rfl (fun KK hK=>?_) (AllReadyH.cons (o:={dst:=some 75,op:=Op.load 3 (Operand.tmp 74),type:=3,pos := "l08_fill.go:107",after:=#[{on:=12,ground:=Ground.data}],guard:=none}) rfl (fun KK hK=>?_) AllReadyH.nil))
       ·go_simp
        refine hK.out _ _ HS0 (fun _=>?_)
        clear hK KK
        try simp only [pLq]
        refine wpAnyH_ready (rs:=[13]) (by kernel_rfl) (by simp) ?_
        refine (AllReadyH.cons (o:={dst:=some 75,op:=Op.load 3 (Operand.tmp 74),type:=3,pos := "l08_fill.go:107",after:=#[{on:=12,ground:=Ground.data}],guard:=none}) rfl (fun KK hK=>?_) AllReadyH.nil)
        go_simp
        refine hK.out _ _ HS0 (fun _=>?_)
        clear hK KK
        try simp only [pLq]
        refine wpAnyH_take (i:=14) (oi:={dst:=some 76,op:=Op.binOp BinOp.add 3 (Operand.tmp 75) (Operand.const (Value.int IntKind.i64 1)) 3,type:=3,pos := "l08_fill.go:107",after:=#[{on:=13,ground:=Ground.data}],guard:=none}) (v:=.int .i64 ((rn+1:Nat):Int)) rfl (by kernel_rfl) (by kernel_rfl) (by kernel_rfl) (fun _ _ _ h=>h) (Or.inl ⟨by rfl,?_⟩) HS0 ?_
        ·intro wq hSq
         clear hSq
         go_simp;exact jns (by omega) (by omega)
        try simp only [pLq]
        refine wpAnyH_ready (rs:=[15]) (by kernel_rfl) (by simp) ?_
        refine (AllReadyH.cons (o:={dst:=some 77,op:=Op.call {callee:=Callee.value (Operand.func 47),args:=#[Operand.tmp 71,Operand.tmp 76],argTypes:=#[27,3]},type:=3,pos := "l08_fill.go:107",after:=#[{on:=9,ground:=Ground.data},{on:=14,ground:=Ground.data}],guard:=none}) rfl (fun KK hK=>?_) AllReadyH.nil)
        refine ja8 rfl 47 (.tmp 71) (.tmp 76) 27 3 rfl jdG (.agg #[.int .i64 o1.op,.int .i64 o1.at_,.int .i64 o1.n,.string o1.s,.slice pa o1.set.length ca,.slice pb o1.len cb]) (.int .i64 ((rn+1:Nat):Int)) rfl rfl _ HSZ.out ?_
        rintro e w4 ⟨rr,rfl,hr0,hr1,hr2,hb4⟩
        refine ⟨_,rfl,?_⟩
        have HS1:But (fun k=>k=Q) w3 w4:=HS0.step (But.of_all hb4) (fun _ _ h=>h)
        have HF4:Hid (FS w t N Q (.slice ps t.set.length cs) (.slice pu t.len cu) w4 true (fuel-1) rn):=HF2.out.below ((brf _ _).drew.trans hb4)
        have HRR:Hid (0<rr∧rr≤o1.count∧(rr<rn+1→rr=o1.count)):=⟨hr0,hr1,hr2⟩
        have hrl:rr≤1048577:=by have:=o1.count_weight;have:=how'.out;omega
        have hsub:(rn:Int)-(rr:Int)≤9223372036854775807∧-9223372036854775808≤(rn:Int)-(rr:Int):=by omega
        obtain ⟨e0,e1,e2,ef⟩:=HF4.out.ask.cells
        clear hb4 hr0 hr1 hr2
        refine hK.out _ _ HS1 (fun _=>?_)
        clear hK KK
        try simp only [pLq]
        refine wpAnyH_take (i:=16) (oi:={dst:=some 78,op:=Op.binOp BinOp.sub 3 (Operand.tmp 66) (Operand.tmp 77) 3,type:=3,pos := "l08_fill.go:107",after:=#[{on:=4,ground:=Ground.data},{on:=15,ground:=Ground.data}],guard:=none}) (v:=.int .i64 ((rn:Int)-(rr:Int))) rfl (by kernel_rfl) (by kernel_rfl) (by kernel_rfl) (fun _ _ _ h=>h) (Or.inl ⟨by rfl,?_⟩) HS1 ?_
        ·intro wq hSq
         clear hSq
         go_simp;exact jns (by omega) (by omega)
        try simp only [pLq]
        refine wpAnyH_take (i:=17) (oi:={dst:=some 79,op:=Op.nilCheck (Operand.tmp 62),type:=0,pos := "l08_fill.go:107",after:=#[{on:=0,ground:=Ground.data},{on:=0,ground:=Ground.phase},{on:=1,ground:=Ground.phase},{on:=2,ground:=Ground.phase},{on:=3,ground:=Ground.phase},{on:=4,ground:=Ground.phase},{on:=5,ground:=Ground.phase},{on:=6,ground:=Ground.phase},{on:=7,ground:=Ground.phase},{on:=8,ground:=Ground.phase},{on:=9,ground:=Ground.phase},{on:=10,ground:=Ground.phase},{on:=11,ground:=Ground.phase},{on:=12,ground:=Ground.phase},{on:=13,ground:=Ground.phase},{on:=14,ground:=Ground.phase},{on:=15,ground:=Ground.phase},{on:=16,ground:=Ground.phase}],guard:=none}) (v:=.pointer (some ⟨Q,0,none⟩)) rfl (by kernel_rfl) (by kernel_rfl) (by kernel_rfl) (fun _ _ _ h=>h) (Or.inl ⟨by rfl,?_⟩) HS1 ?_
        ·intro wq hSq
         clear hSq
         go_simp
        try simp only [pLq]
        refine wpAnyH_take (i:=18) (oi:={dst:=some 80,op:=Op.fieldAddr 51 (Operand.tmp 79) 2,type:=0,pos := "l08_fill.go:107",after:=#[{on:=17,ground:=Ground.data},{on:=0,ground:=Ground.phase},{on:=1,ground:=Ground.phase},{on:=2,ground:=Ground.phase},{on:=3,ground:=Ground.phase},{on:=4,ground:=Ground.phase},{on:=5,ground:=Ground.phase},{on:=6,ground:=Ground.phase},{on:=7,ground:=Ground.phase},{on:=8,ground:=Ground.phase},{on:=9,ground:=Ground.phase},{on:=10,ground:=Ground.phase},{on:=11,ground:=Ground.phase},{on:=12,ground:=Ground.phase},{on:=13,ground:=Ground.phase},{on:=14,ground:=Ground.phase},{on:=15,ground:=Ground.phase},{on:=16,ground:=Ground.phase}],guard:=none}) (v:=.pointer (some ⟨Q,2,none⟩)) rfl (by kernel_rfl) (by kernel_rfl) (by kernel_rfl) (fun _ _ _ h=>h) (Or.inl ⟨by rfl,?_⟩) HS1 ?_
        ·intro wq hSq
         clear hSq
         go_simp
        try simp only [pLq]
        refine wpAnyH_ready (rs:=[19]) (by kernel_rfl) (by simp) ?_
        refine (AllReadyH.cons (o:={dst:=none,op:=Op.store 3 (Operand.tmp 80) (Operand.tmp 78),type:=0,pos := "l08_fill.go:107",after:=#[{on:=18,ground:=Ground.data},{on:=16,ground:=Ground.data},{on:=15,ground:=Ground.chain},{on:=0,ground:=Ground.phase},{on:=1,ground:=Ground.phase},{on:=2,ground:=Ground.phase},{on:=3,ground:=Ground.phase},{on:=4,ground:=Ground.phase},{on:=5,ground:=Ground.phase},{on:=6,ground:=Ground.phase},{on:=7,ground:=Ground.phase},{on:=8,ground:=Ground.phase},{on:=9,ground:=Ground.phase},{on:=10,ground:=Ground.phase},{on:=11,ground:=Ground.phase},{on:=12,ground:=Ground.phase},{on:=13,ground:=Ground.phase},{on:=14,ground:=Ground.phase},{on:=15,ground:=Ground.phase},{on:=16,ground:=Ground.phase}],guard:=none}) rfl (fun KK hK=>?_) AllReadyH.nil)
        go_simp
        refine hK.out _ _ (HS1.setCell (.inr rfl) _) (fun _=>?_)
        clear hK KK
        try simp only [pLq]
        refine wpAnyH_done (by kernel_rfl) ?_ _
        go_wp2_with fail
        go_meet
        exact ⟨w4,rr,rfl,HF4.out,HS1,HRR.out⟩
       ·go_simp
        refine hK.out _ _ HS0 (fun _=>?_)
        clear hK KK
        try simp only [pLq]
        refine wpAnyH_take (i:=14) (oi:={dst:=some 76,op:=Op.binOp BinOp.add 3 (Operand.tmp 75) (Operand.const (Value.int IntKind.i64 1)) 3,type:=3,pos := "l08_fill.go:107",after:=#[{on:=13,ground:=Ground.data}],guard:=none}) (v:=.int .i64 ((rn+1:Nat):Int)) rfl (by kernel_rfl) (by kernel_rfl) (by kernel_rfl) (fun _ _ _ h=>h) (Or.inl ⟨by rfl,?_⟩) HS0 ?_
        ·intro wq hSq
         clear hSq
         go_simp;exact jns (by omega) (by omega)
        try simp only [pLq]
        refine wpAnyH_ready (rs:=[4,15]) (by kernel_rfl) (by simp) ?_
        refine (AllReadyH.cons (o:={dst:=some 66,op:=Op.load 3 (Operand.tmp 65),type:=3,pos := "l08_fill.go:107",after:=#[{on:=3,ground:=Ground.data}],guard:=none}) rfl (fun KK hK=>?_) (AllReadyH.cons (o:={dst:=some 77,op:=Op.call {callee:=Callee.value (Operand.func 47),args:=#[Operand.tmp 71,Operand.tmp 76],argTypes:=#[27,3]},type:=3,pos := "l08_fill.go:107",after:=#[{on:=9,ground:=Ground.data},{on:=14,ground:=Ground.data}],guard:=none}) rfl (fun KK hK=>?_) AllReadyH.nil))
        ·go_simp
         refine hK.out _ _ HS0 (fun _=>?_)
         clear hK KK
         try simp only [pLq]
         refine wpAnyH_ready (rs:=[15]) (by kernel_rfl) (by simp) ?_
         refine (AllReadyH.cons (o:={dst:=some 77,op:=Op.call {callee:=Callee.value (Operand.func 47),args:=#[Operand.tmp 71,Operand.tmp 76],argTypes:=#[27,3]},type:=3,pos := "l08_fill.go:107",after:=#[{on:=9,ground:=Ground.data},{on:=14,ground:=Ground.data}],guard:=none}) rfl (fun KK hK=>?_) AllReadyH.nil)
         refine ja8 rfl 47 (.tmp 71) (.tmp 76) 27 3 rfl jdG (.agg #[.int .i64 o1.op,.int .i64 o1.at_,.int .i64 o1.n,.string o1.s,.slice pa o1.set.length ca,.slice pb o1.len cb]) (.int .i64 ((rn+1:Nat):Int)) rfl rfl _ HSZ.out ?_
         rintro e w4 ⟨rr,rfl,hr0,hr1,hr2,hb4⟩
         refine ⟨_,rfl,?_⟩
         have HS1:But (fun k=>k=Q) w3 w4:=HS0.step (But.of_all hb4) (fun _ _ h=>h)
         have HF4:Hid (FS w t N Q (.slice ps t.set.length cs) (.slice pu t.len cu) w4 true (fuel-1) rn):=HF2.out.below ((brf _ _).drew.trans hb4)
         have HRR:Hid (0<rr∧rr≤o1.count∧(rr<rn+1→rr=o1.count)):=⟨hr0,hr1,hr2⟩
         have hrl:rr≤1048577:=by have:=o1.count_weight;have:=how'.out;omega
         have hsub:(rn:Int)-(rr:Int)≤9223372036854775807∧-9223372036854775808≤(rn:Int)-(rr:Int):=by omega
         obtain ⟨e0,e1,e2,ef⟩:=HF4.out.ask.cells
         clear hb4 hr0 hr1 hr2
         refine hK.out _ _ HS1 (fun _=>?_)
         clear hK KK
         try simp only [pLq]
         refine wpAnyH_take (i:=16) (oi:={dst:=some 78,op:=Op.binOp BinOp.sub 3 (Operand.tmp 66) (Operand.tmp 77) 3,type:=3,pos := "l08_fill.go:107",after:=#[{on:=4,ground:=Ground.data},{on:=15,ground:=Ground.data}],guard:=none}) (v:=.int .i64 ((rn:Int)-(rr:Int))) rfl (by kernel_rfl) (by kernel_rfl) (by kernel_rfl) (fun _ _ _ h=>h) (Or.inl ⟨by rfl,?_⟩) HS1 ?_
         ·intro wq hSq
          clear hSq
          go_simp;exact jns (by omega) (by omega)
         try simp only [pLq]
         refine wpAnyH_take (i:=17) (oi:={dst:=some 79,op:=Op.nilCheck (Operand.tmp 62),type:=0,pos := "l08_fill.go:107",after:=#[{on:=0,ground:=Ground.data},{on:=0,ground:=Ground.phase},{on:=1,ground:=Ground.phase},{on:=2,ground:=Ground.phase},{on:=3,ground:=Ground.phase},{on:=4,ground:=Ground.phase},{on:=5,ground:=Ground.phase},{on:=6,ground:=Ground.phase},{on:=7,ground:=Ground.phase},{on:=8,ground:=Ground.phase},{on:=9,ground:=Ground.phase},{on:=10,ground:=Ground.phase},{on:=11,ground:=Ground.phase},{on:=12,ground:=Ground.phase},{on:=13,ground:=Ground.phase},{on:=14,ground:=Ground.phase},{on:=15,ground:=Ground.phase},{on:=16,ground:=Ground.phase}],guard:=none}) (v:=.pointer (some ⟨Q,0,none⟩)) rfl (by kernel_rfl) (by kernel_rfl) (by kernel_rfl) (fun _ _ _ h=>h) (Or.inl ⟨by rfl,?_⟩) HS1 ?_
         ·intro wq hSq
          clear hSq
          go_simp
         try simp only [pLq]
         refine wpAnyH_take (i:=18) (oi:={dst:=some 80,op:=Op.fieldAddr 51 (Operand.tmp 79) 2,type:=0,pos := "l08_fill.go:107",after:=#[{on:=17,ground:=Ground.data},{on:=0,ground:=Ground.phase},{on:=1,ground:=Ground.phase},{on:=2,ground:=Ground.phase},{on:=3,ground:=Ground.phase},{on:=4,ground:=Ground.phase},{on:=5,ground:=Ground.phase},{on:=6,ground:=Ground.phase},{on:=7,ground:=Ground.phase},{on:=8,ground:=Ground.phase},{on:=9,ground:=Ground.phase},{on:=10,ground:=Ground.phase},{on:=11,ground:=Ground.phase},{on:=12,ground:=Ground.phase},{on:=13,ground:=Ground.phase},{on:=14,ground:=Ground.phase},{on:=15,ground:=Ground.phase},{on:=16,ground:=Ground.phase}],guard:=none}) (v:=.pointer (some ⟨Q,2,none⟩)) rfl (by kernel_rfl) (by kernel_rfl) (by kernel_rfl) (fun _ _ _ h=>h) (Or.inl ⟨by rfl,?_⟩) HS1 ?_
         ·intro wq hSq
          clear hSq
          go_simp
         try simp only [pLq]
         refine wpAnyH_ready (rs:=[19]) (by kernel_rfl) (by simp) ?_
         refine (AllReadyH.cons (o:={dst:=none,op:=Op.store 3 (Operand.tmp 80) (Operand.tmp 78),type:=0,pos := "l08_fill.go:107",after:=#[{on:=18,ground:=Ground.data},{on:=16,ground:=Ground.data},{on:=15,ground:=Ground.chain},{on:=0,ground:=Ground.phase},{on:=1,ground:=Ground.phase},{on:=2,ground:=Ground.phase},{on:=3,ground:=Ground.phase},{on:=4,ground:=Ground.phase},{on:=5,ground:=Ground.phase},{on:=6,ground:=Ground.phase},{on:=7,ground:=Ground.phase},{on:=8,ground:=Ground.phase},{on:=9,ground:=Ground.phase},{on:=10,ground:=Ground.phase},{on:=11,ground:=Ground.phase},{on:=12,ground:=Ground.phase},{on:=13,ground:=Ground.phase},{on:=14,ground:=Ground.phase},{on:=15,ground:=Ground.phase},{on:=16,ground:=Ground.phase}],guard:=none}) rfl (fun KK hK=>?_) AllReadyH.nil)
         go_simp
         refine hK.out _ _ (HS1.setCell (.inr rfl) _) (fun _=>?_)
         clear hK KK
         try simp only [pLq]
         refine wpAnyH_done (by kernel_rfl) ?_ _
         go_wp2_with fail
         go_meet
         exact ⟨w4,rr,rfl,HF4.out,HS1,HRR.out⟩
        ·refine ja8 rfl 47 (.tmp 71) (.tmp 76) 27 3 rfl jdG (.agg #[.int .i64 o1.op,.int .i64 o1.at_,.int .i64 o1.n,.string o1.s,.slice pa o1.set.length ca,.slice pb o1.len cb]) (.int .i64 ((rn+1:Nat):Int)) rfl rfl _ HSZ.out ?_
         rintro e w4 ⟨rr,rfl,hr0,hr1,hr2,hb4⟩
         refine ⟨_,rfl,?_⟩
         have HS1:But (fun k=>k=Q) w3 w4:=HS0.step (But.of_all hb4) (fun _ _ h=>h)
         have HF4:Hid (FS w t N Q (.slice ps t.set.length cs) (.slice pu t.len cu) w4 true (fuel-1) rn):=HF2.out.below ((brf _ _).drew.trans hb4)
         have HRR:Hid (0<rr∧rr≤o1.count∧(rr<rn+1→rr=o1.count)):=⟨hr0,hr1,hr2⟩
         have hrl:rr≤1048577:=by have:=o1.count_weight;have:=how'.out;omega
         have hsub:(rn:Int)-(rr:Int)≤9223372036854775807∧-9223372036854775808≤(rn:Int)-(rr:Int):=by omega
         obtain ⟨e0,e1,e2,ef⟩:=HF4.out.ask.cells
         clear hb4 hr0 hr1 hr2
         refine hK.out _ _ HS1 (fun _=>?_)
         clear hK KK
         try simp only [pLq]
         refine wpAnyH_ready (rs:=[4]) (by kernel_rfl) (by simp) ?_
         refine (AllReadyH.cons (o:={dst:=some 66,op:=Op.load 3 (Operand.tmp 65),type:=3,pos := "l08_fill.go:107",after:=#[{on:=3,ground:=Ground.data}],guard:=none}) rfl (fun KK hK=>?_) AllReadyH.nil)
         go_simp
         refine hK.out _ _ HS1 (fun _=>?_)
         clear hK KK
         try simp only [pLq]
         refine wpAnyH_take (i:=16) (oi:={dst:=some 78,op:=Op.binOp BinOp.sub 3 (Operand.tmp 66) (Operand.tmp 77) 3,type:=3,pos := "l08_fill.go:107",after:=#[{on:=4,ground:=Ground.data},{on:=15,ground:=Ground.data}],guard:=none}) (v:=.int .i64 ((rn:Int)-(rr:Int))) rfl (by kernel_rfl) (by kernel_rfl) (by kernel_rfl) (fun _ _ _ h=>h) (Or.inl ⟨by rfl,?_⟩) HS1 ?_
         ·intro wq hSq
          clear hSq
          go_simp;exact jns (by omega) (by omega)
         try simp only [pLq]
         refine wpAnyH_take (i:=17) (oi:={dst:=some 79,op:=Op.nilCheck (Operand.tmp 62),type:=0,pos := "l08_fill.go:107",after:=#[{on:=0,ground:=Ground.data},{on:=0,ground:=Ground.phase},{on:=1,ground:=Ground.phase},{on:=2,ground:=Ground.phase},{on:=3,ground:=Ground.phase},{on:=4,ground:=Ground.phase},{on:=5,ground:=Ground.phase},{on:=6,ground:=Ground.phase},{on:=7,ground:=Ground.phase},{on:=8,ground:=Ground.phase},{on:=9,ground:=Ground.phase},{on:=10,ground:=Ground.phase},{on:=11,ground:=Ground.phase},{on:=12,ground:=Ground.phase},{on:=13,ground:=Ground.phase},{on:=14,ground:=Ground.phase},{on:=15,ground:=Ground.phase},{on:=16,ground:=Ground.phase}],guard:=none}) (v:=.pointer (some ⟨Q,0,none⟩)) rfl (by kernel_rfl) (by kernel_rfl) (by kernel_rfl) (fun _ _ _ h=>h) (Or.inl ⟨by rfl,?_⟩) HS1 ?_
         ·intro wq hSq
          clear hSq
          go_simp
         try simp only [pLq]
         refine wpAnyH_take (i:=18) (oi:={dst:=some 80,op:=Op.fieldAddr 51 (Operand.tmp 79) 2,type:=0,pos := "l08_fill.go:107",after:=#[{on:=17,ground:=Ground.data},{on:=0,ground:=Ground.phase},{on:=1,ground:=Ground.phase},{on:=2,ground:=Ground.phase},{on:=3,ground:=Ground.phase},{on:=4,ground:=Ground.phase},{on:=5,ground:=Ground.phase},{on:=6,ground:=Ground.phase},{on:=7,ground:=Ground.phase},{on:=8,ground:=Ground.phase},{on:=9,ground:=Ground.phase},{on:=10,ground:=Ground.phase},{on:=11,ground:=Ground.phase},{on:=12,ground:=Ground.phase},{on:=13,ground:=Ground.phase},{on:=14,ground:=Ground.phase},{on:=15,ground:=Ground.phase},{on:=16,ground:=Ground.phase}],guard:=none}) (v:=.pointer (some ⟨Q,2,none⟩)) rfl (by kernel_rfl) (by kernel_rfl) (by kernel_rfl) (fun _ _ _ h=>h) (Or.inl ⟨by rfl,?_⟩) HS1 ?_
         ·intro wq hSq
          clear hSq
          go_simp
         try simp only [pLq]
         refine wpAnyH_ready (rs:=[19]) (by kernel_rfl) (by simp) ?_
         refine (AllReadyH.cons (o:={dst:=none,op:=Op.store 3 (Operand.tmp 80) (Operand.tmp 78),type:=0,pos := "l08_fill.go:107",after:=#[{on:=18,ground:=Ground.data},{on:=16,ground:=Ground.data},{on:=15,ground:=Ground.chain},{on:=0,ground:=Ground.phase},{on:=1,ground:=Ground.phase},{on:=2,ground:=Ground.phase},{on:=3,ground:=Ground.phase},{on:=4,ground:=Ground.phase},{on:=5,ground:=Ground.phase},{on:=6,ground:=Ground.phase},{on:=7,ground:=Ground.phase},{on:=8,ground:=Ground.phase},{on:=9,ground:=Ground.phase},{on:=10,ground:=Ground.phase},{on:=11,ground:=Ground.phase},{on:=12,ground:=Ground.phase},{on:=13,ground:=Ground.phase},{on:=14,ground:=Ground.phase},{on:=15,ground:=Ground.phase},{on:=16,ground:=Ground.phase}],guard:=none}) rfl (fun KK hK=>?_) AllReadyH.nil)
         go_simp
         refine hK.out _ _ (HS1.setCell (.inr rfl) _) (fun _=>?_)
         clear hK KK
         try simp only [pLq]
         refine wpAnyH_done (by kernel_rfl) ?_ _
         go_wp2_with fail
         go_meet
         exact ⟨w4,rr,rfl,HF4.out,HS1,HRR.out⟩
      case rest =>
       obtain ⟨w4,rr,hwc,hF4,hB4,hr0,hr1,hr2⟩:=hcut
       have HF5:Hid (FS w t N Q (.slice ps t.set.length cs) (.slice pu t.len cu) wc true (fuel-1) ((rn:Int)-rr)):=by rw [hwc];exact hF4.set hQ 2 _ (hF4.ask.room _)
       have HB5:Hid (But (fun k=>k=Q) w3 wc):=by rw [hwc];exact hB4.setCell (.inr rfl) _
       have hrl:rr≤1048577:=by have:=o1.count_weight;have:=how'.out;omega
       clear hwc hF4 hB4 q0 q1 q2 qf
       obtain ⟨q0,q1,q2,qf⟩:=HF5.out.ask.cells
       have z0:=crw wc _ 0 _ _ _ HF5.out.res
       have z1:=crw wc _ 1 _ _ _ HF5.out.res
       have z2:=crw wc _ 2 _ _ _ HF5.out.res
       have z3:=crw wc _ 3 _ _ _ HF5.out.res
       have z4:=crw wc _ 4 _ _ _ HF5.out.res
       have z5:=crw wc _ 5 _ _ _ HF5.out.res
       have zf:∀ j,wc.frozen? ⟨N+1,j,none⟩=false:=fun j=>fzr wc _ j _ _ HF5.out.res
       by_cases hneg:(rn:Int)-rr<0
       ·have hm:Hid (∀ r,m=some r→fuel<r.2.1∨(rn:Int)<r.2.2):=fun r hr=>.inr (by
         rw [HMS.out] at hr
         injection hr with hr
         rw [←hr]
         simp only
         omega)
        have HF6:Hid (FS w t N Q (.slice ps t.set.length cs) (.slice pu t.len cu) (wc.setCell ⟨Q,0,none⟩ (.bool false)) false (fuel-1) ((rn:Int)-rr)):=HF5.out.set hQ 0 _ (HF5.out.ask.stop false)
        clear d2 d3 d4 d5 d6 d7 d1 hr0 hr1 hr2
        go_wp2_with fail
        obtain ⟨r0,r1,r2,r3,r4,r5⟩:=jbN (HF6.out.put hQ HNE.out 0 0 0 ⟨#[]⟩ (.slice none 0 0) (.slice none 0 0)).1
        have HE:=jaa (HF6.out.no hQ HNE.out hm.out)
        obtain ⟨WF,hWF⟩:∃ x,x=jbE (wc.setCell ⟨Q,0,none⟩ (.bool false)) (N+1) 0 0 0 ⟨#[]⟩ (.slice none 0 0) (.slice none 0 0):=⟨_,rfl⟩
        rw [←hWF] at r0 r1 r2 r3 r4 r5 HE
        unfold jbE at hWF
        rw [←hWF]
        clear hWF
        refine bpr (v:=.agg #[.int .i64 0,.int .i64 0,.int .i64 0,.string ⟨#[]⟩,.slice none 0 0,.slice none 0 0]) (by rw [jae (p:=6) (ty:=27) (by kernel_rfl)];simp [go_sem,r0,r1,r2,r3,r4,r5]) rfl HE.out
       ·have hrc:Hid (rr=o1.count):=hr2 (by omega)
        clear d2 d3 d4 d5 d6 d7 d1 hr0 hr1 hr2
        obtain ⟨d2,d3,d4,d5,d6,d7⟩:=HDB.out wc HB5.out
        have HOA:Hid (o1.At 0 wc (.slice pa o1.set.length ca) (.slice pb o1.len cb)):=HOB.out wc HB5.out
        go_wp2_with fail
        refine (jcV o1 wc _ _ HOA.out how'.out).mono ?_
        rintro e w6 ⟨su',u',S,rfl,hb6,hown,hnS,hgS⟩
        obtain ⟨pd,cd,hd⟩:=hown.at0.sets.shape
        obtain ⟨pe,ce,hee⟩:=hown.at0.xs.shape
        subst hd hee
        have HF6:Hid (FS w t N Q (.slice ps t.set.length cs) (.slice pu t.len cu) w6 true (fuel-1) ((rn:Int)-rr)):=HF5.out.below hb6
        have HE:=jaa (HF6.out.yes (f0:=fuel) (r0:=(rn:Int)) (r:=([o1],1,o1.count)) (x:=o1) (m:=m) ⟨_,_,_,rfl⟩ ⟨_,_,_,rfl⟩ (by simp) (by rw [hrc.out]) hQ HNE.out HMS.out rfl (by simp only;omega) (by have:=hrc.out;simp only;omega) hown hnS (fun k hk=>by have:=hgS k hk;have:=HF5.out.sz;omega))
        obtain ⟨r0,r1,r2,r3,r4,r5⟩:=jbN (HF6.out.put hQ HNE.out o1.op o1.at_ o1.n o1.s (.slice pd o1.set.length cd) (.slice pe o1.len ce)).1
        have y0:=crw w6 _ 0 _ _ _ HF6.out.res
        have y1:=crw w6 _ 1 _ _ _ HF6.out.res
        have y2:=crw w6 _ 2 _ _ _ HF6.out.res
        have y3:=crw w6 _ 3 _ _ _ HF6.out.res
        have y4:=crw w6 _ 4 _ _ _ HF6.out.res
        have y5:=crw w6 _ 5 _ _ _ HF6.out.res
        have yf:∀ j,w6.frozen? ⟨N+1,j,none⟩=false:=fun j=>fzr w6 _ j _ _ HF6.out.res
        clear hb6 hown hnS hgS d2 d3 d4 d5 d6 d7 z0 z1 z2 z3 z4 z5 zf
        go_wp2_with fail
        obtain ⟨WF,hWF⟩:∃ x,x=jbE w6 (N+1) o1.op o1.at_ o1.n o1.s (.slice pd o1.set.length cd) (.slice pe o1.len ce):=⟨_,rfl⟩
        rw [←hWF] at r0 r1 r2 r3 r4 r5 HE
        unfold jbE at hWF
        rw [←hWF]
        clear hWF
        refine bpr (v:=.agg #[.int .i64 o1.op,.int .i64 o1.at_,.int .i64 o1.n,.string o1.s,.slice pd o1.set.length cd,.slice pe o1.len ce]) (by rw [jae (p:=6) (ty:=27) (by kernel_rfl)];simp [go_sem,r0,r1,r2,r3,r4,r5]) rfl HE.out
     ·have HMS:Hid (m=none):=by show _=_;rw [HMM.out,if_neg hdp]
      have g1:(g.deep != 0)=true:=by simp [hdp]
      have HF3:Hid (FS w t N Q (.slice ps t.set.length cs) (.slice pu t.len cu) (w3.setCell ⟨Q,0,none⟩ (.bool false)) false (fuel-1) room):=HF2.out.set hQ 0 _ (HF2.out.ask.stop false)
      have y0:=crw _ _ 0 _ _ _ HF2.out.res
      have y1:=crw _ _ 1 _ _ _ HF2.out.res
      have y2:=crw _ _ 2 _ _ _ HF2.out.res
      have y3:=crw _ _ 3 _ _ _ HF2.out.res
      have y4:=crw _ _ 4 _ _ _ HF2.out.res
      have y5:=crw _ _ 5 _ _ _ HF2.out.res
      have yf:∀ j,w3.frozen? ⟨N+1,j,none⟩=false:=fun j=>fzr w3 _ j _ _ HF2.out.res
      clear d0 d2 d3 d4 d5 d6 d7 d8 hg9 hgw hdp HMM x0 x1 x2 x3 x4 x5
      generalize g.deep=gd at *
      go_wp2_with fail
      obtain ⟨r0,r1,r2,r3,r4,r5⟩:=jbN (HF3.out.put hQ HNE.out 0 0 0 ⟨#[]⟩ (.slice none 0 0) (.slice none 0 0)).1
      have HE:=jaa (HF3.out.no (f0:=fuel) (r0:=room) (m:=m) hQ HNE.out (fun r hr=>by rw [HMS.out] at hr;cases hr))
      obtain ⟨WF,hWF⟩:∃ x,x=jbE (w3.setCell ⟨Q,0,none⟩ (.bool false)) (N+1) 0 0 0 ⟨#[]⟩ (.slice none 0 0) (.slice none 0 0):=⟨_,rfl⟩
      rw [←hWF] at r0 r1 r2 r3 r4 r5 HE
      unfold jbE at hWF
      rw [←hWF]
      clear hWF
      refine bpr (v:=.agg #[.int .i64 0,.int .i64 0,.int .i64 0,.string ⟨#[]⟩,.slice none 0 0,.slice none 0 0]) (by rw [jae (p:=6) (ty:=27) (by kernel_rfl)];simp [go_sem,r0,r1,r2,r3,r4,r5]) rfl HE.out
    ·have HMM:Hid (m=if (t.s.toList==jb3)=true then none else some ([t],1,0)):=by show _=_;rw [HM.out,jl8 HO2.out hfg]
     clear hfg
     cases hdt:(t.s.toList == [46,46,46])
     ·have HMS:Hid (m=some ([t],1,0)):=by show _=_;rw [HMM.out,show (t.s.toList==jb3)=false from hdt];rfl
      have HF3:Hid (FS w t N Q (.slice ps t.set.length cs) (.slice pu t.len cu) (w3.setCell ⟨Q,0,none⟩ (.bool true)) true (fuel-1) room):=HF2.out.set hQ 0 _ (HF2.out.ask.stop true)
      go_wp2_with fail
      refine (jcV t _ _ _ (HH.out.1 _ HF3.out.but).1 HH.out.2.1).mono ?_
      rintro e w4 ⟨su',u',S,rfl,hb4,hown,hnS,hgS⟩
      obtain ⟨pd,cd,hd⟩:=hown.at0.sets.shape
      obtain ⟨pe,ce,hee⟩:=hown.at0.xs.shape
      subst hd hee
      have HF4:Hid (FS w t N Q (.slice ps t.set.length cs) (.slice pu t.len cu) w4 true (fuel-1) room):=HF3.out.below hb4
      have HE:=jaa (HF4.out.yes (f0:=fuel) (r0:=room) (r:=([t],1,0)) (x:=t) (m:=m) ⟨_,_,_,rfl⟩ ⟨_,_,_,rfl⟩ (by simp) (by simp) hQ HNE.out HMS.out rfl (by simp only;omega) (by simp only;omega) hown hnS (fun k hk=>by have:=hgS k hk;have:=HF3.out.sz;omega))
      obtain ⟨r0,r1,r2,r3,r4,r5⟩:=jbN (HF4.out.put hQ HNE.out t.op t.at_ t.n t.s (.slice pd t.set.length cd) (.slice pe t.len ce)).1
      have y0:=crw w4 _ 0 _ _ _ HF4.out.res
      have y1:=crw w4 _ 1 _ _ _ HF4.out.res
      have y2:=crw w4 _ 2 _ _ _ HF4.out.res
      have y3:=crw w4 _ 3 _ _ _ HF4.out.res
      have y4:=crw w4 _ 4 _ _ _ HF4.out.res
      have y5:=crw w4 _ 5 _ _ _ HF4.out.res
      have yf:∀ j,w4.frozen? ⟨N+1,j,none⟩=false:=fun j=>fzr w4 _ j _ _ HF4.out.res
      clear hb4 hown hnS hgS
      go_wp2_with fail
      obtain ⟨WF,hWF⟩:∃ x,x=jbE w4 (N+1) t.op t.at_ t.n t.s (.slice pd t.set.length cd) (.slice pe t.len ce):=⟨_,rfl⟩
      rw [←hWF] at r0 r1 r2 r3 r4 r5 HE
      unfold jbE at hWF
      rw [←hWF]
      clear hWF
      refine bpr (v:=.agg #[.int .i64 t.op,.int .i64 t.at_,.int .i64 t.n,.string t.s,.slice pd t.set.length cd,.slice pe t.len ce]) (by rw [jae (p:=6) (ty:=27) (by kernel_rfl)];simp [go_sem,r0,r1,r2,r3,r4,r5]) rfl HE.out
     ·have HMS:Hid (m=none):=by show _=_;rw [HMM.out,show (t.s.toList==jb3)=true from hdt];rfl
      have HF3:Hid (FS w t N Q (.slice ps t.set.length cs) (.slice pu t.len cu) (w3.setCell ⟨Q,0,none⟩ (.bool false)) false (fuel-1) room):=HF2.out.set hQ 0 _ (HF2.out.ask.stop false)
      go_wp2_with fail
      refine (jcV t _ _ _ (HH.out.1 _ HF3.out.but).1 HH.out.2.1).mono ?_
      rintro e w4 ⟨su',u',S,rfl,hb4,hown,hnS,hgS⟩
      obtain ⟨pd,cd,hd⟩:=hown.at0.sets.shape
      obtain ⟨pe,ce,hee⟩:=hown.at0.xs.shape
      subst hd hee
      have HF4:Hid (FS w t N Q (.slice ps t.set.length cs) (.slice pu t.len cu) w4 false (fuel-1) room):=HF3.out.below hb4
      have HE:=jaa (HF4.out.vain (f0:=fuel) (r0:=room) (m:=m) t (.slice pd t.set.length cd) (.slice pe t.len ce) ⟨_,_,_,rfl⟩ ⟨_,_,_,rfl⟩ hQ HNE.out (fun r hr=>by rw [HMS.out] at hr;cases hr))
      obtain ⟨r0,r1,r2,r3,r4,r5⟩:=jbN (HF4.out.put hQ HNE.out t.op t.at_ t.n t.s (.slice pd t.set.length cd) (.slice pe t.len ce)).1
      have y0:=crw w4 _ 0 _ _ _ HF4.out.res
      have y1:=crw w4 _ 1 _ _ _ HF4.out.res
      have y2:=crw w4 _ 2 _ _ _ HF4.out.res
      have y3:=crw w4 _ 3 _ _ _ HF4.out.res
      have y4:=crw w4 _ 4 _ _ _ HF4.out.res
      have y5:=crw w4 _ 5 _ _ _ HF4.out.res
      have yf:∀ j,w4.frozen? ⟨N+1,j,none⟩=false:=fun j=>fzr w4 _ j _ _ HF4.out.res
      clear hb4 hown hnS hgS
      go_wp2_with fail
      obtain ⟨WF,hWF⟩:∃ x,x=jbE w4 (N+1) t.op t.at_ t.n t.s (.slice pd t.set.length cd) (.slice pe t.len ce):=⟨_,rfl⟩
      rw [←hWF] at r0 r1 r2 r3 r4 r5 HE
      unfold jbE at hWF
      rw [←hWF]
      clear hWF
      refine bpr (v:=.agg #[.int .i64 t.op,.int .i64 t.at_,.int .i64 t.n,.string t.s,.slice pd t.set.length cd,.slice pe t.len ce]) (by rw [jae (p:=6) (ty:=27) (by kernel_rfl)];simp [go_sem,r0,r1,r2,r3,r4,r5]) rfl HE.out
   ·have HMM:Hid (m=(jcC t.kid (fun i L=>jaI (t.kid i) L) L t.len t.len 0).map fun ks=>([.mk t.op t.at_ 0 ⟨#[]⟩ [] ks.1.length (fun i=>ks.1.getD i .no)],ks.2.1+1,ks.2.2)):=by
     show _=_
     rw [HM.out,jl5 (fun e=>by have:=HFR.out.at_;rw [e] at this;exact this.elim) ho2 ho1]
    have t1:(t.op==1)=false:=by simpa using ho1
    have t2:(t.op==2)=false:=by simpa using ho2
    have HKC:=jaa (HK8.out w0 L W1.drew _ _ _ Q (fuel-1) room (HFR.out.but HF1.out.but.drew) HF1.out.ask (by omega) (by omega) hr0 hr1)
    have hne:¬ N+1=Q:=by omega
    have HXB:Hid (∀ wq,But (fun k=>k=Q∨k=N+1) W1 wq→wq.cell? ⟨N,0,none⟩=some (.int .i64 t.op)∧wq.cell? ⟨N,1,none⟩=some (.int .i64 t.at_)∧wq.cell? ⟨N,2,none⟩=some (.int .i64 t.n)∧wq.cell? ⟨N,3,none⟩=some (.string t.s)∧wq.cell? ⟨N,4,none⟩=some (.slice ps t.set.length cs)∧wq.cell? ⟨N,5,none⟩=some (.slice pu t.len cu)):=fun wq hq=>by
     have kk:∀ j x,W1.cell? ⟨N,j,none⟩=some x→wq.cell? ⟨N,j,none⟩=some x:=fun j x hj=>(hq.cell (wbl W1 _ hj) (by simp only;omega)).trans hj
     exact ⟨kk _ _ x0,kk _ _ x1,kk _ _ x2,kk _ _ x3,kk _ _ x4,kk _ _ x5⟩
    clear ho1 ho2
    go_upto_region 21 with fail
    have HS0:But (fun k=>k=Q∨k=N+1) W1 W1.drew:=(But.refl _ _).drew
    refine wp_region_held_drew (S:=fun wq=>But (fun k=>k=Q∨k=N+1) W1 wq) (by kernel_rfl) HS0 (fun _=>?_)
    refine wpAnyH_take (i:=0) (oi:={dst:=some 101,op:=Op.fieldAddr 27 (Operand.tmp 4) 0,type:=0,pos := "l08_fill.go:117",after:=#[],guard:=none}) (v:=.pointer (some ⟨N,0,none⟩)) rfl (by kernel_rfl) (by kernel_rfl) (by kernel_rfl) (fun _ _ _ h=>h) (Or.inl ⟨by rfl,?_⟩) HS0 ?_
    ·intro wq hSq
     clear hSq
     go_simp
    try simp only [pLq]
    refine wpAnyH_take (i:=1) (oi:={dst:=some 102,op:=Op.load 3 (Operand.tmp 101),type:=3,pos := "l08_fill.go:117",after:=#[{on:=0,ground:=Ground.data}],guard:=none}) (v:=.int .i64 t.op) rfl (by kernel_rfl) (by kernel_rfl) (by kernel_rfl) (fun _ _ _ h=>h) (Or.inl ⟨by rfl,?_⟩) HS0 ?_
    ·intro wq hSq
     obtain ⟨f0,f1,f2,f3,f4,f5⟩:=HXB.out wq hSq
     clear hSq
     go_simp
    try simp only [pLq]
    refine wpAnyH_take (i:=2) (oi:={dst:=some 103,op:=Op.fieldAddr 27 (Operand.tmp 4) 1,type:=0,pos := "l08_fill.go:117",after:=#[],guard:=none}) (v:=.pointer (some ⟨N,1,none⟩)) rfl (by kernel_rfl) (by kernel_rfl) (by kernel_rfl) (fun _ _ _ h=>h) (Or.inl ⟨by rfl,?_⟩) HS0 ?_
    ·intro wq hSq
     clear hSq
     go_simp
    try simp only [pLq]
    refine wpAnyH_take (i:=3) (oi:={dst:=some 104,op:=Op.load 3 (Operand.tmp 103),type:=3,pos := "l08_fill.go:117",after:=#[{on:=2,ground:=Ground.data}],guard:=none}) (v:=.int .i64 t.at_) rfl (by kernel_rfl) (by kernel_rfl) (by kernel_rfl) (fun _ _ _ h=>h) (Or.inl ⟨by rfl,?_⟩) HS0 ?_
    ·intro wq hSq
     obtain ⟨f0,f1,f2,f3,f4,f5⟩:=HXB.out wq hSq
     clear hSq
     go_simp
    try simp only [pLq]
    refine wpAnyH_take (i:=4) (oi:={dst:=some 105,op:=Op.move (Operand.tmp 0),type:=49,pos := "l08_fill.go:117",after:=#[],guard:=none}) (v:=.pointer (some ⟨Q,0,none⟩)) rfl (by kernel_rfl) (by kernel_rfl) (by kernel_rfl) (fun _ _ _ h=>h) (Or.inl ⟨by rfl,?_⟩) HS0 ?_
    ·intro wq hSq
     clear hSq
     go_simp
    try simp only [pLq]
    refine wpAnyH_take (i:=5) (oi:={dst:=some 106,op:=Op.load 27 (Operand.tmp 4),type:=27,pos := "l08_fill.go:117",after:=#[],guard:=none}) (v:=.agg #[.int .i64 t.op,.int .i64 t.at_,.int .i64 t.n,.string t.s,.slice ps t.set.length cs,.slice pu t.len cu]) rfl (by kernel_rfl) (by kernel_rfl) (by kernel_rfl) (fun _ _ _ h=>h) (Or.inl ⟨by rfl,?_⟩) HS0 ?_
    ·intro wq hSq
     obtain ⟨f0,f1,f2,f3,f4,f5⟩:=HXB.out wq hSq
     clear hSq
     go_simp
    try simp only [pLq]
    refine wpAnyH_take (i:=6) (oi:={dst:=some 107,op:=Op.move (Operand.tmp 2),type:=28,pos := "l08_fill.go:117",after:=#[],guard:=none}) (v:=.slice pl L.length cl) rfl (by kernel_rfl) (by kernel_rfl) (by kernel_rfl) (fun _ _ _ h=>h) (Or.inl ⟨by rfl,?_⟩) HS0 ?_
    ·intro wq hSq
     clear hSq
     go_simp
    try simp only [pLq]
    refine wpAnyH_ready (rs:=[7]) (by kernel_rfl) (by simp) ?_
    refine (AllReadyH.cons (o:={dst:=some 108,op:=Op.call {callee:=Callee.value (Operand.func 48),args:=#[Operand.tmp 105,Operand.tmp 106,Operand.tmp 107],argTypes:=#[49,27,28]},type:=25,pos := "l08_fill.go:117",after:=#[{on:=4,ground:=Ground.data},{on:=5,ground:=Ground.data},{on:=6,ground:=Ground.data}],guard:=none}) rfl (fun KK hK=>?_) AllReadyH.nil)
    refine jbt rfl 48 (.tmp 105) (.tmp 106) (.tmp 107) 49 27 28 rfl jiH (.pointer (some ⟨Q,0,none⟩)) (.agg #[.int .i64 t.op,.int .i64 t.at_,.int .i64 t.n,.string t.s,.slice ps t.set.length cs,.slice pu t.len cu]) (.slice pl L.length cl) rfl rfl rfl _ HKC.out ?_
    rintro e w4 ⟨hbut,kv,rfl,⟨pk,nk,ck,rfl⟩,hcase⟩
    refine ⟨_,rfl,?_⟩
    have hb4:But (fun k=>k=Q) W1 w4:=(But.refl _ _).drew.trans hbut
    have HS1:But (fun k=>k=Q∨k=N+1) W1 w4:=hb4.mono (fun _ _ h=>.inl h)
    have HCS:=jaa hcase
    have HB4:=jaa hb4
    have hres4:w4.heap[N+1]? = some (.cells #[.int .i64 0,.int .i64 0,.int .i64 0,.string ⟨#[]⟩,.slice none 0 0,.slice none 0 0] 27):=hb4.at HF1.out.res (by simpa using hne)
    have y0:=crw w4 _ 0 _ _ _ hres4
    have y1:=crw w4 _ 1 _ _ _ hres4
    have y2:=crw w4 _ 2 _ _ _ hres4
    have y3:=crw w4 _ 3 _ _ _ hres4
    have y4:=crw w4 _ 4 _ _ _ hres4
    have y5:=crw w4 _ 5 _ _ _ hres4
    have yf:∀ j,w4.frozen? ⟨N+1,j,none⟩=false:=fun j=>fzr w4 _ j _ _ hres4
    clear hbut hcase hb4 hres4 z0 z1 z2 z3 z4 z5 zf x0 x1 x2 x3 x4 x5 q0 q1 q2 qf
    refine hK.out _ _ HS1 (fun _=>?_)
    clear hK KK
    try simp only [pLq]
    refine wpAnyH_take (i:=8) (oi:={dst:=some 109,op:=Op.build 27 #[(0,Operand.tmp 102),(1,Operand.tmp 104),(5,Operand.tmp 108)],type:=27,pos := "l08_fill.go:117",after:=#[{on:=1,ground:=Ground.data},{on:=3,ground:=Ground.data},{on:=7,ground:=Ground.data}],guard:=none}) (v:=.agg #[.int .i64 t.op,.int .i64 t.at_,.int .i64 0,.string ⟨#[]⟩,.slice none 0 0,.slice pk nk ck]) rfl (by kernel_rfl) (by kernel_rfl) (by kernel_rfl) (fun _ _ _ h=>h) (Or.inl ⟨by rfl,?_⟩) HS1 ?_
    ·intro wq hSq
     clear hSq
     go_simp
    try simp only [pLq]
    refine wpAnyH_ready (rs:=[9]) (by kernel_rfl) (by simp) ?_
    refine (AllReadyH.cons (o:={dst:=none,op:=Op.store 27 (Operand.tmp 6) (Operand.tmp 109),type:=0,pos := "l08_fill.go:117",after:=#[{on:=8,ground:=Ground.data},{on:=7,ground:=Ground.chain},{on:=0,ground:=Ground.phase},{on:=1,ground:=Ground.phase},{on:=2,ground:=Ground.phase},{on:=3,ground:=Ground.phase},{on:=4,ground:=Ground.phase},{on:=5,ground:=Ground.phase},{on:=6,ground:=Ground.phase},{on:=7,ground:=Ground.phase},{on:=8,ground:=Ground.phase}],guard:=none}) rfl (fun KK hK=>?_) AllReadyH.nil)
    go_simp
    have HS2:=But.put6 (Y:=fun k=>k=Q∨k=N+1) (R:=N+1) HS1 (Or.inr rfl) t.op t.at_ 0 ⟨#[]⟩ (.slice none 0 0) (.slice pk nk ck)
    unfold jbE at HS2
    refine hK.out _ _ HS2 (fun _=>?_)
    clear hK KK
    try simp only [pLq]
    clear HS2
    refine wpAnyH_done (by kernel_rfl) ?_ _
    go_wp2_with fail
    have hbox4:Six w4 N t.op t.at_ t.n t.s (.slice ps t.set.length cs) (.slice pu t.len cu) 27:=HB4.out.at HF1.out.box (fun e=>by have e2:N=Q:=e;omega)
    have hres5:w4.heap[N+1]? = some (.cells #[.int .i64 0,.int .i64 0,.int .i64 0,.string ⟨#[]⟩,.slice none 0 0,.slice none 0 0] 27):=HB4.out.at HF1.out.res (by simpa using hne)
    have hbut5:But (fun k=>k=Q) w w4:=HF1.out.but.step HB4.out (fun _ _ h=>h)
    have hsz5:N+2≤w4.heap.size:=Nat.le_trans HF1.out.sz HB4.out.size
    obtain ⟨r0,r1,r2,r3,r4,r5⟩:=jbN (jjL hres5 t.op t.at_ 0 ⟨#[]⟩ (.slice none 0 0) (.slice pk nk ck))
    have HE:=jaa (jmo (m:=m) hQ HNE.out ⟨hbox4,hres5,hbut5,hsz5⟩ HMM.out HF1.out.sz HCS.out)
    clear hbox4 hres5 hbut5 hsz5
    obtain ⟨WF,hWF⟩:∃ x,x=jbE w4 (N+1) t.op t.at_ 0 ⟨#[]⟩ (.slice none 0 0) (.slice pk nk ck):=⟨_,rfl⟩
    rw [←hWF] at r0 r1 r2 r3 r4 r5 HE
    unfold jbE at hWF
    rw [←hWF]
    clear hWF
    refine bpr (v:=.agg #[.int .i64 t.op,.int .i64 t.at_,.int .i64 0,.string ⟨#[]⟩,.slice none 0 0,.slice pk nk ck]) (by rw [jae (p:=6) (ty:=27) (by kernel_rfl)];simp [go_sem,r0,r1,r2,r3,r4,r5]) rfl HE.out
end Go.Proofs.YtjmlfacbcfbhdaaGreatDoor
