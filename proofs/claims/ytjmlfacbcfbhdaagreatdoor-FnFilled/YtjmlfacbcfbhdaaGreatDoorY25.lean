/- Rows of Gots of one's own, all new: one more, and two joined. No conditions but those of the library's own law on append. -/
import Derived.Test.YtjmlfacbcfbhdaaGreatDoorYA
import Derived.Test.YtjmlfacbcfbhdaaGreatDoorY19
import Derived.Test.YtjmlfacbcfbhdaaGreatDoorY0
import Derived.Test.YtjmlfacbcfbhdaaGreatDoorY1
import Derived.Test.YtjmlfacbcfbhdaaGreatDoorY24
import Derived.Test.YtjmlfacbcfbhdaaGreatDoorY23
import Derived.Test.YtjmlfacbcfbhdaaGreatDoorY20
import Derived.Deep.RegionWith
import Derived.Deep.Cut
set_option maxRecDepth 100000
set_option maxHeartbeats 8000000
namespace Go.Proofs.YtjmlfacbcfbhdaaGreatDoor
open Go.ChangeShapes Go.WideShapes Go.ChangeAt Go.RowKit
theorem jj7 (xs:List Int) (v:Value) (w:World) (hv:Rd w v xs) (hl:xs.length≤4194304) :
  Calls Tryz.prog 40 #[v] w fun e w'=>∃ u,e=.returned u∧Below w.heap.size w w'∧Own w' w.heap.size u xs:=by
 go_enter Tryz.func40,Tryz.ntmps40
 go_wp2_with fail
 refine (jcB xs v w hv hl).mono ?_
 rintro e w1 ⟨u,rfl,hb,ho⟩
 have H:Hid (Below w.heap.size w w1∧Own w1 w.heap.size u xs):=⟨hb,ho⟩
 clear hb ho
 go_wp2_with fail
 go_ret
 exact ⟨_,rfl,H.out.1,H.out.2⟩
theorem jhp (op a n:Int) (s:ByteArray) (set:List Int) (sp:Option Addr) (sc:Nat) (vp:Option Addr) (vn vc:Nat) (w:World) (hs:Rd w (.slice sp set.length sc) set) (hl:set.length≤4194304) :
  Calls Tryz.prog 71 #[.agg #[.int .i64 op,.int .i64 a,.int .i64 n,.string s,.slice sp set.length sc,.slice vp vn vc],.func (.func 40) #[] #[]] w fun e w'=>∃ u,e=.returned u∧Below w.heap.size w w'∧Own w' w.heap.size u (if op=2 then set else set):=by
 have HRD:Hid (Rd w (.slice sp set.length sc) set):=hs
 have HL:Hid (set.length≤4194304):=hl
 obtain ⟨Y,hY⟩:∃ Y,Y=(if op=2 then set else set):=⟨_,rfl⟩
 have HY:Hid (Y=(if op=2 then set else set)):=hY
 rw [←hY]
 clear hs hl hY
 go_enter Tryz.func71,Tryz.ntmps71
 go_wp2_with fail
 refine (jiV op a n s (.slice sp set.length sc) (.slice vp vn vc) _).mono ?_
 rintro e w1 ⟨T,rfl,hb1,hT⟩
 have hx1:Six w1 w.heap.size op a n s (.slice sp set.length sc) (.slice vp vn vc) 27:=(hb1.block _ (by simp)).trans (han w _)
 obtain ⟨x0,x1,x2,x3,x4,x5⟩:=hx1.cells
 have HB1:Hid (Below w.heap.size w w1):=(newx w _).trans (hb1.mono (by simp))
 clear hb1 hx1
 rcases hT with ⟨h,rfl⟩|⟨h,rfl⟩|⟨h,rfl⟩|⟨⟨h1,h2,h3⟩,rfl⟩
 ·have HR:Hid (Y=set):=HY.out.trans (if_neg (by omega))
  have hta:=jcs (ty:=97) (by decide) (.agg #[.int .i64 op,.int .i64 a,.int .i64 n,.string s,.slice sp set.length sc,.slice vp vn vc]) w1
  clear h
  go_wp2_with fail
  refine (jcB set _ w1 (HRD.out.below HB1.out) HL.out).mono ?_
  rintro e w2 ⟨u,rfl,hb2,ho⟩
  have H:Hid (Below w.heap.size w w2∧Own w2 w.heap.size u set):=⟨HB1.out.trans (hb2.mono HB1.out.size),ho.mono HB1.out.size⟩
  clear hb2 ho
  go_wp2_with fail
  go_ret
  exact ⟨_,rfl,H.out.1,by rw [HR.out];exact H.out.2⟩
 ·have HR:Hid (Y=set):=HY.out.trans (if_pos h)
  have hta:=jgp (.agg #[.int .i64 op,.int .i64 a,.int .i64 n,.string s,.slice sp set.length sc,.slice vp vn vc]) w1
  clear h
  go_wp2_with fail
  have hnb:=newx w1 (.cells #[.int .i64 op,.int .i64 a,.int .i64 n,.string s,.slice sp set.length sc,.slice vp vn vc] 99)
  have hbb:Below w.heap.size w (w1.alloc (.cells #[.int .i64 op,.int .i64 a,.int .i64 n,.string s,.slice sp set.length sc,.slice vp vn vc] 99)):=HB1.out.trans (hnb.mono HB1.out.size)
  refine (jj7 set _ _ (HRD.out.below hbb) HL.out).mono ?_
  rintro e w2 ⟨u,rfl,hb2,ho⟩
  have H:Hid (Below w.heap.size w w2∧Own w2 w.heap.size u (set)):=⟨hbb.trans (hb2.mono hbb.size),ho.mono hbb.size⟩
  clear hb2 ho hbb hnb
  go_wp2_with fail
  go_ret
  exact ⟨_,rfl,H.out.1,by rw [HR.out];exact H.out.2⟩
 ·have HR:Hid (Y=set):=HY.out.trans (if_neg (by omega))
  have hta:=jcs (ty:=102) (by decide) (.agg #[.int .i64 op,.int .i64 a,.int .i64 n,.string s,.slice sp set.length sc,.slice vp vn vc]) w1
  clear h
  go_wp2_with fail
  refine (jcB set _ w1 (HRD.out.below HB1.out) HL.out).mono ?_
  rintro e w2 ⟨u,rfl,hb2,ho⟩
  have H:Hid (Below w.heap.size w w2∧Own w2 w.heap.size u set):=⟨HB1.out.trans (hb2.mono HB1.out.size),ho.mono HB1.out.size⟩
  clear hb2 ho
  go_wp2_with fail
  go_ret
  exact ⟨_,rfl,H.out.1,by rw [HR.out];exact H.out.2⟩
 ·have HR:Hid (Y=set):=HY.out.trans (if_neg h2)
  have hta:=jcs (ty:=139) (by decide) (.agg #[.int .i64 op,.int .i64 a,.int .i64 n,.string s,.slice sp set.length sc,.slice vp vn vc]) w1
  clear h1 h2 h3
  go_wp2_with fail
  refine (jcB set _ w1 (HRD.out.below HB1.out) HL.out).mono ?_
  rintro e w2 ⟨u,rfl,hb2,ho⟩
  have H:Hid (Below w.heap.size w w2∧Own w2 w.heap.size u set):=⟨HB1.out.trans (hb2.mono HB1.out.size),ho.mono HB1.out.size⟩
  clear hb2 ho
  go_wp2_with fail
  go_ret
  exact ⟨_,rfl,H.out.1,by rw [HR.out];exact H.out.2⟩
theorem jiL (PS:Nat) (op a n:Int) (s:ByteArray) (set:List Int) (sp:Option Addr) (sc:Nat) (vp:Option Addr) (vn vc:Nat) (kp:Option Addr) (kn kc:Nat) (w:World) (hS:w.cell? ⟨PS,0,none⟩=some (.func (.func 40) #[] #[])) (hs:Rd w (.slice sp set.length sc) set) (hl:set.length≤4194304) :
  Calls Tryz.prog 70 #[.agg #[.int .i64 op,.int .i64 a,.int .i64 n,.string s,.slice sp set.length sc,.slice vp vn vc],.slice kp kn kc,.pointer (some ⟨PS,0,none⟩)] w fun e w'=>∃ sv,e=.returned (.agg #[.int .i64 op,.int .i64 a,.int .i64 n,.string s,sv,.slice kp kn kc])∧Below w.heap.size w w'∧Own w' w.heap.size sv (if op=2 then set else set):=by
 have HRD:Hid (Rd w (.slice sp set.length sc) set):=hs
 have HL:Hid (set.length≤4194304):=hl
 have hbb:∀ o1 o2,Below w.heap.size w ((w.alloc o1).alloc o2):=fun o1 o2=>(newx w _).trans ((newx _ _).mono (by simp))
 have hS2:∀ o1 o2,((w.alloc o1).alloc o2).cell? ⟨PS,0,none⟩=some (.func (.func 40) #[] #[]):=fun o1 o2=>jat (hbb o1 o2) _ _ hS
 have HBB:Hid (∀ o1 o2,Below w.heap.size w ((w.alloc o1).alloc o2)):=hbb
 obtain ⟨Y,hY⟩:∃ Y,Y=(if op=2 then set else set):=⟨_,rfl⟩
 have HY:Hid (Y=(if op=2 then set else set)):=hY
 rw [←hY]
 clear hs hl hbb hY
 go_enter Tryz.func70,Tryz.ntmps70
 go_wp2_with fail
 refine (jhp op a n s set sp sc vp vn vc _ (HRD.out.below (HBB.out _ _)) HL.out).mono ?_
 rintro e w1 ⟨u,rfl,hb1,ho⟩
 rw [←HY.out] at ho
 obtain ⟨pv,cv,hv⟩:=(ho.setB (nzl _)).shape
 subst hv
 obtain ⟨h1,h2,h4,h5⟩:=twoX hb1
 have hA:Six w1 w.heap.size op a n s (.slice sp set.length sc) (.slice vp vn vc) 27:=h1
 have hR:Six w1 (w.heap.size+1) 0 0 0 ⟨#[]⟩ (.slice none 0 0) (.slice none 0 0) 27:=h2
 have HOW:Hid (Own w1 (w.heap.size+2) (.slice pv Y.length cv) Y):=ho.mono (by simp)
 have HB1:Hid (Below w.heap.size w w1∧w.heap.size+2≤w1.heap.size):=⟨h5,h4⟩
 clear hb1 ho h1 h2 h4 h5
 obtain ⟨x0,x1,x2,x3,x4,x5⟩:=hA.cells
 have xf:=hA.fr
 obtain ⟨r0,r1,r2,r3,r4,r5⟩:=hR.cells
 have rf:=hR.fr
 clear hA hR hS hS2
 generalize Y.length=yl at *
 go_wp2_with fail
 refine bpr (v:=.agg #[.int .i64 op,.int .i64 a,.int .i64 n,.string s,.slice pv yl cv,.slice kp kn kc]) (by rw [jae (p:=5) (ty:=27) (by kernel_rfl)];simp [go_sem,r0,r1,r2,r3,r4,r5]) rfl ⟨_,rfl,?_,?_⟩
 ·exact jbs ((HB1.out.1.setCell (nlr w.heap.size) _).setCell (nlr w.heap.size) _) (w.heap.size+1) (by omega) _ _ _ _ _ _
 ·refine Own.mono (base:=w.heap.size+2) (HOW.out.sameX (fun g hg=>?_)) (by omega)
  have:=(World.ownsRow.lt HOW.out g hg).1
  exact (jaZ ((w1.setCell ⟨w.heap.size,4,none⟩ (.slice pv yl cv)).setCell ⟨w.heap.size,5,none⟩ (.slice kp kn kc)) (w.heap.size+1) op a n s (.slice pv yl cv) (.slice kp kn kc) g (by omega)).trans ((bhs _ _ _ _ (by simp only;omega)).trans (bhs _ _ _ _ (by simp only;omega)))
theorem jht:TurnXX (fun t=>t) (fun x=>x.set) where
 ne:=fun x h=>h
 op:=fun x=>rfl
 at_:=fun x=>rfl
 n:=fun x=>rfl
 s:=fun x=>rfl
 set:=fun x=>rfl
 len:=fun x=>rfl
 kid:=fun x i=>rfl
 small:=fun x h=>by
  have h1:=jhZ h
  unfold maxLen;omega
theorem jf0 (t:X) (su u:Value) (w:World) (hin:t.At 0 w su u) (hsm:t.Small) (hc:t.count≤1048577) :
  Calls Tryz.prog 39 #[.agg #[.int .i64 t.op,.int .i64 t.at_,.int .i64 t.n,.string t.s,su,u],.func (.func 40) #[] #[]] w fun e w' =>
   ∃ su' u' S,e=.returned (.agg #[.int .i64 t.op,.int .i64 t.at_,.int .i64 t.n,.string t.s,su',u'])∧Below w.heap.size w w'∧XOwn w' t su' u' S∧S.Nodup∧∀ x∈S,w.heap.size≤x:=by
 obtain ⟨p,cap,hu⟩:=hin.xs.shape
 obtain ⟨ps,cps,hsu⟩:=hin.sets.shape
 subst hu hsu
 have hcall:∀ o1 o2,Calls Tryz.prog 69 #[.agg #[.int .i64 t.op,.int .i64 t.at_,.int .i64 t.n,.string t.s,.slice ps t.set.length cps,.slice p t.len cap],.func (.func 24) #[] #[],.func (.func 70) #[] #[.pointer (some ⟨w.heap.size+1,0,none⟩)]] (((w.alloc o1).alloc (.cells #[.func (.func 40) #[] #[]] 87)).alloc o2) fun e w' =>
   ∃ su' u' S,e=.returned (.agg #[.int .i64 t.op,.int .i64 t.at_,.int .i64 t.n,.string t.s,su',u'])∧Below (((w.alloc o1).alloc (.cells #[.func (.func 40) #[] #[]] 87)).alloc o2).heap.size (((w.alloc o1).alloc (.cells #[.func (.func 40) #[] #[]] 87)).alloc o2) w'∧XOwn w' t su' u' S∧S.Nodup∧∀ x∈S,w.heap.size+3≤x:=by
  intro o1 o2
  have hb:Below w.heap.size w (((w.alloc o1).alloc (.cells #[.func (.func 40) #[] #[]] 87)).alloc o2):=(newx w _).trans (((newx _ _).mono (by simp)).trans ((newx _ _).mono (by simp;omega)))
  have hS:(((w.alloc o1).alloc (.cells #[.func (.func 40) #[] #[]] 87)).alloc o2).heap[w.heap.size+1]? = some (.cells #[.func (.func 40) #[] #[]] 87 (0,0)):=by
   have n2:=han (w.alloc o1) (.cells #[.func (.func 40) #[] #[]] 87)
   have e1:(w.alloc o1).heap.size=w.heap.size+1:=by simp
   rw [e1] at n2
   exact (bha _ _ _ (by simp)).trans n2
  refine (jmQ (fun t=>t) (fun x=>x.set) jht (w.heap.size+1) t _ _ _ (X.At.below hb hin) hsm hc ?_).mono ?_
  ·intro x sx vp vc kp kn kc W hW hx hxs
   obtain ⟨px,cx,hsx⟩:=hx.sets.shape
   subst hsx
   have hm:=jiL (w.heap.size+1) x.op x.at_ x.n x.s x.set px cx vp x.len vc kp kn kc W (jat hW _ _ (crw _ _ 0 _ _ _ hS)) ((hx.sets.rd).below hW) (jhZ hxs)
   simp only [ite_self] at hm
   exact hm
  ·rintro e w' ⟨su',u',S,h1,h2,h3,h4,h5⟩
   exact ⟨su',u',S,h1,h2,h3,h4,fun x hx=>by have:=h5 x hx;simp at this;omega⟩
 have HC:Hid (∀ o1 o2,Calls Tryz.prog 69 #[.agg #[.int .i64 t.op,.int .i64 t.at_,.int .i64 t.n,.string t.s,.slice ps t.set.length cps,.slice p t.len cap],.func (.func 24) #[] #[],.func (.func 70) #[] #[.pointer (some ⟨w.heap.size+1,0,none⟩)]] (((w.alloc o1).alloc (.cells #[.func (.func 40) #[] #[]] 87)).alloc o2) fun e w' =>
   ∃ su' u' S,e=.returned (.agg #[.int .i64 t.op,.int .i64 t.at_,.int .i64 t.n,.string t.s,su',u'])∧Below (((w.alloc o1).alloc (.cells #[.func (.func 40) #[] #[]] 87)).alloc o2).heap.size (((w.alloc o1).alloc (.cells #[.func (.func 40) #[] #[]] 87)).alloc o2) w'∧XOwn w' t su' u' S∧S.Nodup∧∀ x∈S,w.heap.size+3≤x):=hcall
 clear hcall hin hsm hc
 go_enter Tryz.func39,Tryz.ntmps39
 go_wp2_with fail
 refine (HC.out _ _).mono ?_
 rintro e w1 ⟨su',u',S,rfl,hb1,hX,hSn,hSg⟩
 obtain ⟨h1,h2,h3,h4,h5⟩:=jjV hb1
 have hR:Six w1 (w.heap.size+1+1) 0 0 0 ⟨#[]⟩ (.slice none 0 0) (.slice none 0 0) 27:=h3
 obtain ⟨r0,r1,r2,r3,r4,r5⟩:=hR.cells
 have rf:=hR.fr
 obtain ⟨pu,cu,hu⟩:=hX.at0.xs.shape
 obtain ⟨pv,cv,hv⟩:=hX.at0.sets.shape
 subst hu hv
 have HX:Hid (XOwn w1 t (.slice pv t.set.length cv) (.slice pu t.len cu) S∧S.Nodup∧∀ x∈S,w.heap.size+3≤x):=⟨hX,hSn,hSg⟩
 have HB:Hid (Below w.heap.size w w1):=h5
 clear hb1 hX hSn hSg h1 h2 h3 h4 h5 hR HC
 generalize t.set.length=sl at *
 generalize t.len=tl at *
 go_wp2_with fail
 refine bpr (v:=.agg #[.int .i64 t.op,.int .i64 t.at_,.int .i64 t.n,.string t.s,.slice pv sl cv,.slice pu tl cu]) (by rw [jae (p:=4) (ty:=27) (by kernel_rfl)];simp [go_sem,r0,r1,r2,r3,r4,r5]) rfl ⟨_,_,S,rfl,?_,?_,HX.out.2.1,fun x hx=>by have:=HX.out.2.2 x hx;omega⟩
 ·exact jbs HB.out (w.heap.size+1+1) (by omega) _ _ _ _ _ _
 ·exact HX.out.1.same _ (fun x hx=>jaZ w1 (w.heap.size+1+1) t.op t.at_ t.n t.s (.slice pv sl cv) (.slice pu tl cu) x (by have:=HX.out.2.2 x hx;omega))
theorem jfv (t:X) (su u:Value) (w:World) (hin:t.At 0 w su u) (hsm:t.Small) (hc:t.count≤1048577) :
  Calls Tryz.prog 19 #[.agg #[.int .i64 t.op,.int .i64 t.at_,.int .i64 t.n,.string t.s,su,u]] w fun e w' =>
   ∃ su' u' S,e=.returned (.agg #[.int .i64 t.op,.int .i64 t.at_,.int .i64 t.n,.string t.s,su',u'])∧Below w.heap.size w w'∧XOwn w' t su' u' S∧S.Nodup∧∀ x∈S,w.heap.size≤x:=by
 obtain ⟨p,cap,hu⟩:=hin.xs.shape
 obtain ⟨ps,cps,hsu⟩:=hin.sets.shape
 subst hu hsu
 have HC:Hid (∀ o1 o2,Calls Tryz.prog 39 #[.agg #[.int .i64 t.op,.int .i64 t.at_,.int .i64 t.n,.string t.s,.slice ps t.set.length cps,.slice p t.len cap],.func (.func 40) #[] #[]] ((w.alloc o1).alloc o2) fun e w' =>
   ∃ su' u' S,e=.returned (.agg #[.int .i64 t.op,.int .i64 t.at_,.int .i64 t.n,.string t.s,su',u'])∧Below ((w.alloc o1).alloc o2).heap.size ((w.alloc o1).alloc o2) w'∧XOwn w' t su' u' S∧S.Nodup∧∀ x∈S,w.heap.size+2≤x):=by
  intro o1 o2
  have hb:Below w.heap.size w ((w.alloc o1).alloc o2):=(newx w _).trans ((newx _ _).mono (by simp))
  refine (jf0 t _ _ _ (X.At.below hb hin) hsm hc).mono ?_
  rintro e w' ⟨su',u',S,h1,h2,h3,h4,h5⟩
  exact ⟨su',u',S,h1,h2,h3,h4,fun x hx=>by have:=h5 x hx;simp at this;omega⟩
 clear hin hsm hc
 go_enter Tryz.func19,Tryz.ntmps19
 go_wp2_with fail
 refine (HC.out _ _).mono ?_
 rintro e w1 ⟨su',u',S,rfl,hb1,hX,hSn,hSg⟩
 obtain ⟨h1,h3,h4,h5⟩:=twoX hb1
 have hR:Six w1 (w.heap.size+1) 0 0 0 ⟨#[]⟩ (.slice none 0 0) (.slice none 0 0) 27:=h3
 obtain ⟨r0,r1,r2,r3,r4,r5⟩:=hR.cells
 have rf:=hR.fr
 obtain ⟨pu,cu,hu⟩:=hX.at0.xs.shape
 obtain ⟨pv,cv,hv⟩:=hX.at0.sets.shape
 subst hu hv
 have HX:Hid (XOwn w1 t (.slice pv t.set.length cv) (.slice pu t.len cu) S∧S.Nodup∧∀ x∈S,w.heap.size+2≤x):=⟨hX,hSn,hSg⟩
 have HB:Hid (Below w.heap.size w w1):=h5
 clear hb1 hX hSn hSg h1 h3 h4 h5 hR HC
 generalize t.set.length=sl at *
 generalize t.len=tl at *
 go_wp2_with fail
 refine bpr (v:=.agg #[.int .i64 t.op,.int .i64 t.at_,.int .i64 t.n,.string t.s,.slice pv sl cv,.slice pu tl cu]) (by rw [jae (p:=2) (ty:=27) (by kernel_rfl)];simp [go_sem,r0,r1,r2,r3,r4,r5]) rfl ⟨_,_,S,rfl,?_,?_,HX.out.2.1,fun x hx=>by have:=HX.out.2.2 x hx;omega⟩
 ·exact jbs HB.out (w.heap.size+1) (by omega) _ _ _ _ _ _
 ·exact HX.out.1.same _ (fun x hx=>jaZ w1 (w.heap.size+1) t.op t.at_ t.n t.s (.slice pv sl cv) (.slice pu tl cu) x (by have:=HX.out.2.2 x hx;omega))
end Go.Proofs.YtjmlfacbcfbhdaaGreatDoor
namespace Go.Proofs.YtjmlfacbcfbhdaaGreatDoor
open Go.ChangeShapes Go.WideShapes Go.ChangeAt Go.RowKit Go.Shelf
attribute [local go_sem] Oper.semAt_some
end Go.Proofs.YtjmlfacbcfbhdaaGreatDoor
namespace Go.Proofs.YtjmlfacbcfbhdaaGreatDoor
open Go.ChangeShapes Go.WideShapes Go.ChangeAt Go.RowKit Go.Shelf
attribute [local go_sem] Oper.semAt_some
end Go.Proofs.YtjmlfacbcfbhdaaGreatDoor
namespace Go.Proofs.YtjmlfacbcfbhdaaGreatDoor
open Go.ChangeShapes Go.WideShapes Go.ChangeAt Go.RowKit
def jbO (kid:Nat→X) (k:Nat):Nat:=(jaB (fun i=>jab (kid i) 0) k).length
theorem jbL (kid:Nat→X) (k:Nat):jbO kid (k+1)=jbO kid k+(jab (kid k) 0).length:=by simp [jbO,jaB]
theorem jkR (kid:Nat→X) {j k:Nat} (h:j≤k):jbO kid j≤jbO kid k:=by
 induction k with
 | zero=>simp at h;subst h;exact nlr _
 | succ k ih =>
  rcases Nat.lt_or_ge j (k+1) with h1|h1
  ·have:=ih (by omega);rw [jbL];omega
  ·have:j=k+1:=by omega
   subst this;exact nlr _
theorem jdC {kid xk:Nat→X} (k:Nat):∀ lst,(∀ i,i<k→okG (kid i))→jaw (fun i=>jai (kid i) (xk i)) k=some lst→lst.length=jbO kid k:=by
 induction k with
 | zero=>intro lst _ h;simp only [jaw] at h;injection h with h;subst h;rfl
 | succ k ih =>
  intro lst hok h
  simp only [jaw] at h
  cases hA:jaw (fun i=>jai (kid i) (xk i)) k with
  | none=>rw [hA] at h;cases h
  | some A =>
   rw [hA] at h
   cases hB:jai (kid k) (xk k) with
   | none=>rw [hB] at h;cases h
   | some B =>
    rw [hB] at h
    injection h with h
    subst h
    rw [lla,ih A (fun i hi=>hok i (by omega)) hA,jcp _ _ _ (hok k (by omega)) hB,jbL]
theorem XsAt.cap {B:Nat} {w:World} {len:Nat} {kid:Nat→X} {p:Option Addr} {cap:Nat} (h:XsAt B w len kid (.slice p len cap)):len≤cap:=by
 rcases h with ⟨rfl,p,c,e⟩|⟨b,o,c,U,V,e,_,h,_⟩
 ·exact nzl _
 ·injection e with _ _ e
  rw [e];exact h
theorem XsAt.front {B:Nat} {w:World} {len:Nat} {kid:Nat→X} {p:Option Addr} {cap:Nat} (h:XsAt B w len kid (.slice p len cap)) (j:Nat) (hj:j≤len):XsAt B w j kid (sliced p 0 j cap 6):=by
 rcases h with ⟨rfl,p',c,e⟩|⟨b,o,c,U,V,e,h1,h2,h3,h4⟩
 ·have:j=0:=by omega
  subst this
  exact .inl ⟨rfl,_,_,rfl⟩
 ·injection e with e1 e2 e3
  subst e1 e3
  refine .inr ⟨b,o,cap,U,V,?_,h1,by omega,h3,fun i hi=>h4 i (by omega)⟩
  simp [sliced,Addr.add]
theorem XsAt.rest {B:Nat} {w:World} {len:Nat} {kid:Nat→X} {p:Option Addr} {cap:Nat} (h:XsAt B w len kid (.slice p len cap)) (j:Nat) (hj:j≤len):XsAt B w (len-j) (fun i=>kid (j+i)) (sliced p j len cap 6):=by
 rcases h with ⟨rfl,p',c,e⟩|⟨b,o,c,U,V,e,h1,h2,h3,h4⟩
 ·have:j=0:=by omega
  subst this
  exact .inl ⟨rfl,_,_,rfl⟩
 ·injection e with e1 e2 e3
  subst e1 e3
  by_cases hl:cap=j
  ·exact .inl ⟨by omega,_,_,by simp only [sliced];rw [show len-j=0 by omega]⟩
  ·refine .inr ⟨b,o+j*6,cap-j,fun i=>U (j+i),fun i=>V (j+i),?_,h1,by omega,by omega,fun i hi=>?_⟩
   ·simp [sliced,Addr.add,hl]
   ·have:=h4 (j+i) (by omega)
    rw [show o+(j+i)*6=o+j*6+i*6 by rw [Nat.add_mul,Nat.add_assoc]] at this
    exact this
theorem jg7 (t:X) (d:Int):(jab t d).length=(jab t 0).length:=by
 have:=jbT t 0 d
 rw [Int.zero_add] at this
 rw [this]
 simp [jbX]
theorem jkQ (p:X) {k:Nat} (hk:k≤p.len):jbO p.kid k≤(jab p 0).length:=by
 rw [jfH,lla]
 have h:∀ k,(jaB (fun i=>jab (p.kid i) (jal p.len p.kid 0 i)) k).length=jbO p.kid k:=by
  intro k
  induction k with
  | zero=>rfl
  | succ k ih=>rw [jbL,jaB,lla,ih,jg7]
 have:=jkR p.kid hk
 rw [h]
 omega
theorem jg1 {p:X} (hok:okG p) {i:Nat} (hi:i<p.len) (h:jaJ p.len p.kid = -1∨i+1<p.len):okG (p.kid i):=by
 cases p with
 | no=>exact hok.elim
 | mk op a n s set len kid =>
  rcases hok.2.2.2 i hi with ⟨hd,hl,h0,_⟩|h'
  ·exfalso
   rcases h with h|h
   ·have h:jaJ len kid = -1:=h
    unfold jaJ at h
    have e:len-1=i:=by omega
    rw [e,if_pos ⟨by omega,hd⟩] at h
    omega
   ·have h:i+1<len:=h
    omega
  ·exact h'
theorem jjB {p x:X} (h3:p.op=3) (hx:x.op=3) (ho:jaJ p.len p.kid = -1) (hl:x.len=p.len):jai p x=jaw (fun i=>jai (p.kid i) (x.kid i)) p.len:=by
 cases p with
 | no=>simp [X.op] at h3
 | mk op a n s set len kid =>
  have h3':op=3:=h3
  rw [jai,if_neg (by omega),if_neg (by omega),if_pos ⟨h3',hx⟩,if_pos (show jaJ len kid = -1 from ho),if_pos (show x.len=len from hl)]
  rfl
theorem jo9 {p x:X} (h3:p.op=3) (hx:x.op=3) (ho:jaJ p.len p.kid = -1) (hl:x.len≠p.len):jai p x=none:=by
 cases p with
 | no=>rfl
 | mk op a n s set len kid =>
  have h3':op=3:=h3
  rw [jai,if_neg (by omega),if_neg (by omega),if_pos ⟨h3',hx⟩,if_pos (show jaJ len kid = -1 from ho),if_neg (show ¬ x.len=len from hl)]
theorem jnZ {p x:X} (h3:p.op=3) (hx:x.op=3) (ho:jaJ p.len p.kid≠-1) (hl:x.len<p.len-2):jai p x=none:=by
 cases p with
 | no=>rfl
 | mk op a n s set len kid =>
  have h3':op=3:=h3
  rw [jai,if_neg (by omega),if_neg (by omega),if_pos ⟨h3',hx⟩,if_neg (show ¬ jaJ len kid = -1 from ho),if_pos (show x.len<len-2 from hl)]
theorem jhK {p x:X} (h3:p.op=3) (hx:x.op=3) (ho:jaJ p.len p.kid≠-1) (hl:¬ x.len<p.len-2):jai p x=(jaw (fun i=>jai (p.kid i) (x.kid i)) (p.len-2)).bind fun a=>(jcW (jab (p.kid (p.len-2)) 0) (fun j=>jai (p.kid (p.len-2)) (x.kid (p.len-2+j))) (x.len-(p.len-2))).map fun b=>a++b:=by
 cases p with
 | no=>simp [X.op] at h3
 | mk op a n s set len kid =>
  have h3':op=3:=h3
  rw [jai,if_neg (by omega),if_neg (by omega),if_pos ⟨h3',hx⟩,if_neg (show ¬ jaJ len kid = -1 from ho),if_neg (show ¬ x.len<len-2 from hl)]
  rfl
end Go.Proofs.YtjmlfacbcfbhdaaGreatDoor
namespace Go.Proofs.YtjmlfacbcfbhdaaGreatDoor
open Go.ChangeShapes Go.WideShapes Go.ChangeAt Go.RowKit Go.Shelf
def upd {α:Type} (f:Nat→α) (j:Nat) (x:α):Nat→α:=fun i=>if i=j then x else f i
theorem ja5 {α:Type} (f:Nat→α) (j:Nat) (x:α):upd f j x j=x:=if_pos rfl
theorem jaL {α:Type} (f:Nat→α) {i j:Nat} (x:α) (h:i≠j):upd f j x i=f i:=if_neg h
def blG (v:Value) (SS:List (List Nat)):List Nat:=v.ownBlock.toList++SS.flatten
def erow (ns:List (ByteArray×Int)) (Ls:Nat→List G) (gv:Nat→Value) (j:Nat):GR:=⟨.mk (ns.getD j (⟨#[]⟩,0)).1 ((ns.getD j (⟨#[]⟩,0)).2+1) jlB (Ls j).length (fun t=>(Ls j).getD t .no),.slice none 0 0,.slice none 0 0,gv j⟩
def jbZ (ns:List (ByteArray×Int)) (Ls:Nat→List G) (gv:Nat→Value):List GR:=(List.range ns.length).map (erow ns Ls gv)
theorem jl0 (ns:List (ByteArray×Int)) (Ls:Nat→List G) (gv:Nat→Value):(jbZ ns Ls gv).length=ns.length:=by simp [jbZ]
theorem jeX (ns:List (ByteArray×Int)) (Ls:Nat→List G) (gv:Nat→Value) {j:Nat} (hj:j<ns.length):(jbZ ns Ls gv)[j]? = some (erow ns Ls gv j):=by
 simp [jbZ,hj]
theorem jcY (l:List GR) {i:Nat} {q:GR} (h:l[i]? = some q) {j:Nat} (hj:j<9):(jak l)[i*9+j]? = (jba q)[j]? := by
 have:=jgZ l [] i q h j hj
 rwa [lan] at this
theorem jl2 (ns:List (ByteArray×Int)) (Ls:Nat→List G) (gv:Nat→Value) {j:Nat} (hj:j<ns.length) (L':List G) (v':Value):(jak (jbZ ns Ls gv)).set (j*9+8) v'=jak (jbZ ns (upd Ls j L') (upd gv j v')):=by
 apply List.ext_getElem?
 intro k
 have hlen:=jbq (jbZ ns Ls gv)
 have hlen':=jbq (jbZ ns (upd Ls j L') (upd gv j v'))
 rw [jl0] at hlen hlen'
 rcases Nat.lt_or_ge k (ns.length*9) with hk|hk
 ·obtain ⟨i,q,hq,rfl⟩:∃ i q,q<9∧k=i*9+q:=⟨k / 9,k % 9,Nat.mod_lt _ (by omega),by omega⟩
  have hi:i<ns.length:=by omega
  rw [jcY _ (jeX ns _ _ hi) hq,List.getElem?_set]
  by_cases he:j*9+8=i*9+q
  ·have e1:i=j:=by omega
   have e2:q=8:=by omega
   subst e1 e2
   rw [if_pos rfl,if_pos (by rw [hlen];omega)]
   simp [jba,erow,ja5]
  ·rw [if_neg he,jcY _ (jeX ns _ _ hi) hq]
   by_cases hij:i=j
   ·subst hij
    have hq8:q<8:=by omega
    rcases q with _|_|_|_|_|_|_|_|q
    all_goals try rfl
    omega
   ·simp only [erow,jaL _ _ hij]
 ·rw [lgn (by rw [List.length_set];omega),lgn (by omega)]
theorem jl1 (ns:List (ByteArray×Int)):jbZ ns (fun _=>[]) (fun _=>.slice none 0 0)=ns.map jfk:=by
 apply List.ext_getElem
 ·simp [jbZ]
 ·intro i h1 h2
  have hi:i<ns.length:=by simpa [jbZ] using h1
  simp only [jbZ,List.getElem_map,List.getElem_range,erow,jfk,joK]
  rw [lgd,lgg hi,Option.getD_some]
  simp
structure ER (w:World) (B:Nat) (v:Value) (ns:List (ByteArray×Int)) (Ls:Nat→List G) (gv:Nat→Value) (ll:Nat→List GR) (SSs:Nat→List (List Nat)):Prop where
 row:w.ownsRow B 42 9 v ns.length (jak (jbZ ns Ls gv))
 each:∀ j,j<ns.length→GRow w B (gv j) (Ls j) (ll j) (SSs j)
 dis:∀ i j,i<ns.length→j<ns.length→i≠j→∀ k,k∈blG (gv i) (SSs i)→k ∉ blG (gv j) (SSs j)
 off:∀ j,j<ns.length→∀ k,k∈blG (gv j) (SSs j)→v.ownBlock≠some k
 ge:∀ j,j<ns.length→∀ k,k∈blG (gv j) (SSs j)→B≤k
theorem ER.start {w:World} {B:Nat} {v:Value} {ns:List (ByteArray×Int)} (h:w.ownsRow B 42 9 v ns.length (jak (ns.map jfk))):ER w B v ns (fun _=>[]) (fun _=>.slice none 0 0) (fun _=>[]) (fun _=>[]):=by
 rw [←jl1] at h
 exact ⟨h,fun j _=>GRow.nil w B,fun i j _ _ _ k hk=>by simp [blG,Value.ownBlock] at hk,fun j _ k hk=>by simp [blG,Value.ownBlock] at hk,fun j _ k hk=>by simp [blG,Value.ownBlock] at hk⟩
theorem ER.same {w w':World} {B:Nat} {v:Value} {ns:List (ByteArray×Int)} {Ls:Nat→List G} {gv:Nat→Value} {ll:Nat→List GR} {SSs:Nat→List (List Nat)} (h:ER w B v ns Ls gv ll SSs)
  (hs:∀ k,(v.ownBlock=some k∨∃ j,j<ns.length∧k∈blG (gv j) (SSs j))→w'.heap[k]? = w.heap[k]?):ER w' B v ns Ls gv ll SSs :=
 ⟨jaM h.row (fun g hg=>hs g (.inl hg)),fun j hj=>(h.each j hj).same (fun k hk=>hs k (.inr ⟨j,hj,hk⟩)),h.dis,h.off,h.ge⟩
theorem ER.lt {w:World} {B:Nat} {v:Value} {ns:List (ByteArray×Int)} {Ls:Nat→List G} {gv:Nat→Value} {ll:Nat→List GR} {SSs:Nat→List (List Nat)} (h:ER w B v ns Ls gv ll SSs) {k:Nat} (hk:v.ownBlock=some k∨∃ j,j<ns.length∧k∈blG (gv j) (SSs j)):B≤k∧k<w.heap.size:=by
 rcases hk with hk|⟨j,hj,hk⟩
 ·exact h.row.lt k hk
 ·exact ⟨h.ge j hj k hk,(h.each j hj).lt k hk⟩
theorem ER.grow {w F:World} {B:Nat} {v:Value} {ns:List (ByteArray×Int)} {Ls:Nat→List G} {gv:Nat→Value} {ll:Nat→List GR} {SSs:Nat→List (List Nat)} (h:ER w B v ns Ls gv ll SSs) {j:Nat} (hj:j<ns.length) {g:G} {a b c:Value} {Z:List Nat} {g' c':Nat}
  (hg:GOwn w g a b c Z) (hZ:Z.Nodup) (hZd:∀ k∈Z,(∀ i,i<ns.length→k ∉ blG (gv i) (SSs i))∧v.ownBlock≠some k∧B≤k)
  (k2:F.ownsRow B 42 9 (.slice (some ⟨g',0,none⟩) ((Ls j).length+1) c') ((Ls j).length+1) (jak (ll j++[⟨g,a,b,c⟩]))) (k4:(gv j).ownBlock=some g'∨w.heap.size≤g')
  (k3:∀ k,(k∈Z∨∃ i,i<ns.length∧k∈blG (gv i) (SSs i))→¬ (v.ownBlock=some k∨(gv j).ownBlock=some k)→F.heap[k]? = w.heap[k]?)
  (krow:F.ownsRow B 42 9 v ns.length (jak (jbZ ns (upd Ls j (Ls j++[g])) (upd gv j (.slice (some ⟨g',0,none⟩) ((Ls j).length+1) c'))))) :
  ER F B v ns (upd Ls j (Ls j++[g])) (upd gv j (.slice (some ⟨g',0,none⟩) ((Ls j).length+1) c')) (upd ll j (ll j++[⟨g,a,b,c⟩])) (upd SSs j (SSs j++[Z])):=by
 have hr:=h.each j hj
 have hnd:=hr.own
 rw [List.nodup_append] at hnd
 obtain ⟨n1,n2,n3⟩:=hnd
 have hown:∀ k,(gv j).ownBlock=some k→k∈blG (gv j) (SSs j):=fun k hk=>List.mem_append_left _ (by rw [hk];simp)
 have hin:∀ k,k∈(SSs j).flatten→k∈blG (gv j) (SSs j):=fun k hk=>List.mem_append_right _ hk
 have hnew:∀ k,k∈blG (.slice (some ⟨g',0,none⟩) ((Ls j).length+1) c') (SSs j++[Z])→k=g'∨k∈(SSs j).flatten∨k∈Z:=fun k hk=>by
  simp only [blG,Value.ownBlock,Option.toList_some,List.flatten_append,List.flatten_singleton,List.mem_append,List.mem_singleton] at hk
  exact hk
 have hgo:∀ i,i<ns.length→i≠j→g' ∉ blG (gv i) (SSs i):=fun i hi hij hk=>by
  rcases k4 with h4|h4
  ·exact h.dis j i hj hi (Ne.symm hij) g' (hown _ h4) hk
  ·have:=(h.each i hi).lt g' hk;omega
 have hgv:v.ownBlock≠some g':=fun e=>by
  rcases k4 with h4|h4
  ·exact h.off j hj g' (hown _ h4) e
  ·have:=h.row.lt g' e;omega
 have hgB:B≤g':=by
  rcases k4 with h4|h4
  ·exact h.ge j hj g' (hown _ h4)
  ·exact (k2.lt g' rfl).1
 have hgs:g' ∉ (SSs j).flatten:=fun hk=>by
  rcases k4 with h4|h4
  ·exact n3 g' (by rw [h4];simp) g' hk rfl
  ·have:=hr.lt g' (hin _ hk);omega
 have hgz:g' ∉ Z:=fun hk=>by
  rcases k4 with h4|h4
  ·exact (hZd g' hk).1 j hj (hown _ h4)
  ·have:=hg.there _ g' hk;omega
 refine ⟨krow,fun i hi=>?_,fun i i' hi hi' hne k hk hk'=>?_,fun i hi k hk=>?_,fun i hi k hk=>?_⟩
 ·by_cases hij:i=j
  ·subst hij
   rw [ja5,ja5,ja5,ja5]
   refine hr.push (by rw [←jdh];exact k2) (hg.same _ (fun k hk=>k3 k (.inl hk) (fun h1=>?_))) (fun k hk=>k3 k (.inr ⟨i,hi,hin k hk⟩) (fun h1=>?_)) ?_
   ·rcases h1 with h1|h1
    ·exact (hZd k hk).2.1 h1
    ·exact (hZd k hk).1 i hi (hown _ h1)
   ·rcases h1 with h1|h1
    ·exact h.off i hi k (hin k hk) h1
    ·exact n3 k (by rw [h1];simp) k hk rfl
   ·simp only [Value.ownBlock,Option.toList_some,List.flatten_append,List.flatten_singleton,List.singleton_append,List.nodup_cons,List.mem_append,List.nodup_append]
    exact ⟨fun h=>h.elim hgs hgz,n2,hZ,fun a' ha b' hb e=>(hZd b' hb).1 i hi (hin _ (e ▸ ha))⟩
  ·rw [jaL _ _ hij,jaL _ _ hij,jaL _ _ hij,jaL _ _ hij]
   refine (h.each i hi).same (fun k hk=>k3 k (.inr ⟨i,hi,hk⟩) (fun h1=>?_))
   rcases h1 with h1|h1
   ·exact h.off i hi k hk h1
   ·exact h.dis i j hi hj hij k hk (hown _ h1)
 ·by_cases hij:i=j
  ·subst hij
   rw [ja5,ja5] at hk
   rw [jaL _ _ (Ne.symm hne),jaL _ _ (Ne.symm hne)] at hk'
   rcases hnew k hk with rfl|h1|h1
   ·exact hgo i' hi' (Ne.symm hne) hk'
   ·exact h.dis i i' hi hi' hne k (hin k h1) hk'
   ·exact (hZd k h1).1 i' hi' hk'
  ·rw [jaL _ _ hij,jaL _ _ hij] at hk
   by_cases hij':i'=j
   ·subst hij'
    rw [ja5,ja5] at hk'
    rcases hnew k hk' with rfl|h1|h1
    ·exact hgo i hi hij hk
    ·exact h.dis i i' hi hi' hne k hk (hin k h1)
    ·exact (hZd k h1).1 i hi hk
   ·rw [jaL _ _ hij',jaL _ _ hij'] at hk'
    exact h.dis i i' hi hi' hne k hk hk'
 ·by_cases hij:i=j
  ·subst hij
   rw [ja5,ja5] at hk
   rcases hnew k hk with rfl|h1|h1
   ·exact hgv
   ·exact h.off i hi k (hin k h1)
   ·exact (hZd k h1).2.1
  ·rw [jaL _ _ hij,jaL _ _ hij] at hk
   exact h.off i hi k hk
 ·by_cases hij:i=j
  ·subst hij
   rw [ja5,ja5] at hk
   rcases hnew k hk with rfl|h1|h1
   ·exact hgB
   ·exact h.ge i hi k (hin k h1)
   ·exact (hZd k h1).2.2
  ·rw [jaL _ _ hij,jaL _ _ hij] at hk
   exact h.ge i hi k hk
theorem GOwn.congr {w:World} {name:ByteArray} {deep:Int} {one:X} {len:Nat} {sm sm':Nat→G} {a b c:Value} {T:List Nat} (h:GOwn w (.mk name deep one len sm) a b c T) (he:∀ i,i<len→sm i=sm' i):GOwn w (.mk name deep one len sm') a b c T:=by
 obtain ⟨hn,S1,S2,rfl,h1,h2⟩:=h.parts
 exact GOwn.mk' hn h1 ((show GsOwn w len sm c S2 from h2).congr he)
end Go.Proofs.YtjmlfacbcfbhdaaGreatDoor
namespace Go.Proofs.YtjmlfacbcfbhdaaGreatDoor
open Go.ChangeShapes Go.WideShapes Go.ChangeAt Go.RowKit
def GN (w:World) (B:Nat) (v:Value) (L:List G):Prop:=∃ l SS,GRow w B v L l SS∧∀ k∈blG v SS,B≤k
theorem GRow.base {w:World} {B B':Nat} {v:Value} {L:List G} {l:List GR} {SS:List (List Nat)} (h:GRow w B v L l SS) (hB:∀ g,v.ownBlock=some g→B'≤g):GRow w B' v L l SS:=⟨jdW h.row hB,h.len,h.blocks,h.each,h.own⟩
theorem GN.mono {w:World} {B B':Nat} {v:Value} {L:List G} (h:GN w B v L) (hB:B'≤B):GN w B' v L:=by
 obtain ⟨l,SS,h1,h2⟩:=h
 exact ⟨l,SS,h1.base (fun g hg=>Nat.le_trans hB (h2 g (List.mem_append_left _ (jbh hg)))),fun k hk=>Nat.le_trans hB (h2 k hk)⟩
theorem GN.same {w w':World} {B:Nat} {v:Value} {L:List G} (h:GN w B v L) (hs:∀ k,B≤k→k<w.heap.size→w'.heap[k]? = w.heap[k]?):GN w' B v L:=by
 obtain ⟨l,SS,h1,h2⟩:=h
 exact ⟨l,SS,h1.same (fun x hx=>hs x (h2 x hx) (h1.lt x hx)),h2⟩
theorem GN.below {w w':World} {B:Nat} {v:Value} {L:List G} (h:GN w B v L) (hb:Below w.heap.size w w'):GN w' B v L:=h.same (fun k _ hk=>hb.block k hk)
theorem GN.empty {w:World} {B g:Nat} (h:w.heap[g]? = some (.cells #[] 42)) (hB:B≤g):GN w B (.slice (some ⟨g,0,none⟩) 0 0) []:=by
 refine ⟨[],[],⟨⟨rfl,.inr ⟨g,0,#[],rfl,hB,h,nlr _,by simp [maxLen],rfl,rfl⟩⟩,rfl,rfl,fun i hi=>absurd hi (Nat.not_lt_zero _),by simp [Value.ownBlock]⟩,fun k hk=>?_⟩
 simp [blG,Value.ownBlock] at hk
 omega
theorem GRow.one {w:World} {B:Nat} {v:Value} {L:List G} {l:List GR} {SS:List (List Nat)} (h:GRow w B v L l SS):∀ u∈jak l,u.oneCell'=true:=by
 intro u hu
 obtain ⟨q,hq,hu⟩:=List.mem_flatMap.1 hu
 obtain ⟨i,hi,rfl⟩:=List.mem_iff_getElem.1 hq
 obtain ⟨a,b,c,T,k1,k2,k3⟩:=h.each i (by have:=h.len;omega)
 rw [lgg hi] at k1
 injection k1 with k1
 rw [k1] at hu
 obtain ⟨⟨p1,c1,e1⟩,⟨p2,c2,e2⟩,⟨p3,c3,e3⟩⟩:=k3.shape
 exact jej _ (by rw [e1];rfl) (by rw [e2];rfl) (by rw [e3];rfl) u hu
theorem jgN {P:Program} (w:World) (base:Nat) (t ty e:TypeId) (i:TypeInfo) (z:Value) (size bytes:Nat) (ht:P.underlying t=some (.slice e)) (hi:P.info? e=some i) (hz:i.zero=some z)
  (hsize:i.size=size) (hby:i.bytes=bytes)
  (v:Value) (n:Nat) (xs:List Value) (hown:w.ownsRow base e size v n xs) (hv:v.ownBlock≠none)
  (a:Addr) (m c:Nat) (news:List Value) (hl:news.length=m*size) (hnews:∀ j u,news[j]? = some u→w.cell? (a.add j)=some u) (h1:∀ u∈news,u.oneCell'=true)
  (h63:n+m≤maxLen) (hbytes:(n+m)*bytes≤140737488355328) (v':Value) (w':World) (hrun:(Builtin.append_ #[t,t] ty #[v,.slice (some a) m c]).run P w=.ok v' w') :
  v'.ownBlock=v.ownBlock∨v'.ownBlock=some w.heap.size:=by
 subst hsize hby
 have hsmall:n+m≤9223372036854775807:=by simp only [maxLen] at h63;omega
 rcases hown.2 with ⟨rfl,rfl⟩|⟨g,cap,cur,rfl,hbg,hg,hnc,hcm,hcs,htake⟩
 ·exact absurd rfl hv
 ·by_cases hroom:n+m≤cap
  ·have hr:=run_append_room (P:=P) w t ty e i ht hi g n cap cur hg a m c news hl hnews h1 hroom (by rw [hl,hcs,←Nat.add_mul];exact Nat.mul_le_mul_right _ hroom)
   rw [hr] at hrun
   injection hrun with e1 _
   exact .inl (by rw [←e1];rfl)
  ·have hr:=run_append_grow (P:=P) w t ty e i z ht hi hz ⟨g,0,none⟩ n cap xs hown.1 (hown.cells (g:=g) rfl) a m c news hl hnews (by omega) (by omega) (growslice_fits (by omega) hbytes)
   rw [hr] at hrun
   injection hrun with e1 _
   exact .inr (by rw [←e1];rfl)
theorem jas {P:Program} (w:World) {ops:Array Oper} {rest:List Oper} {o:Oper} {a:Act} {Q:Exit→Act→World→Prop} (hgd:o.guard=none) (s x:Operand) (t:TypeId)
  (ho:o.op=.call {callee:=.builtin .append,args:=#[s,x],argTypes:=#[t,t]})
  (base:Nat) (e:TypeId) (i:TypeInfo) (z:Value) (size bytes:Nat) (ht:P.underlying t=some (.slice e)) (hi:P.info? e=some i) (hz:i.zero=some z)
  (hsize:i.size=size) (hby:i.bytes=bytes) (hzs:z.cells.size=size) (hsz:0<size)
  (v:Value) (n:Nat) (xs:List Value) (hs:a.eval s=v) (hown:w.ownsRow base e size v n xs) (hv:v.ownBlock≠none)
  (ao:Option Addr) (m c:Nat) (news:List Value) (hx:a.eval x=.slice ao m c) (hl:news.length=m*size) (hnone:ao=none→m=0∧c=0) (hnews:∀ ad,ao=some ad→∀ j u,news[j]? = some u→w.cell? (ad.add j)=some u) (h1:∀ u∈news,u.oneCell'=true)
  (h63:n+m≤maxLen) (hbytes:(n+m)*bytes≤140737488355328) (hbase:base≤w.heap.size)
  (h:∀ v' w',Hid (w'.ownsRow base e size v' (n+m) (xs++news))→Hid (w.grownBy w' v.ownBlock)→Hid (v'.ownBlock=v.ownBlock∨v'.ownBlock=some w.heap.size)→wpList P ops Q rest (a.put o.dst v') w'):wpList P ops Q (o::rest) a w:=by
 cases ao with
 | some ad =>
  obtain ⟨v',w',hr,h2,h3,_⟩:=run_append_own (P:=P) w base t o.type e i z size bytes ht hi hz hsize hby hzs hsz v n xs hown ad m c news hl (hnews ad rfl) h1 h63 hbytes hbase
  have r4:=jgN (P:=P) w base t o.type e i z size bytes ht hi hz hsize hby v n xs hown hv ad m c news hl (hnews ad rfl) h1 h63 hbytes v' w' hr
  refine wpList_plain hgd fun K hK=>?_
  unfold Oper.wp execOp
  simp only [ho,resolve,invoke,builtin,Sem.run_bind,Sem.run_pure,Result.andThen_ok,List.map_toArray,List.map_cons,List.map_nil,hs,hx,hr]
  exact hK _ _ (h v' w' h2 h3 r4)
 | none =>
  obtain ⟨rfl,rfl⟩:=hnone rfl
  have hn:news=[]:=List.eq_nil_of_length_eq_zero (by simpa using hl)
  subst hn
  refine wpList_append_own_none hgd s x t ho base e i size ht hi v n xs hs hown hx ?_
  have h1:w.ownsRow base e size v (n+0) (xs++[]):=by simpa using hown
  exact h v w h1 (World.grownBy.refl w v.ownBlock) (.inl rfl)
theorem GRow.pushed {w w1 w2:World} {B:Nat} {v v':Value} {L:List G} {l:List GR} {SS:List (List Nat)} (h:GRow w B v L l SS) (hB:∀ k∈blG v SS,B≤k) {g:G} {a b c:Value} {T:List Nat} (hb:Below w.heap.size w w1) (hg:GOwn w1 g a b c T) (hT:T.Nodup) (hTn:∀ k∈T,w.heap.size≤k) (hBw:B≤w.heap.size)
  (r1:w2.ownsRow B 42 9 v' (L.length+1) (jak l++jba ⟨g,a,b,c⟩)) (r2:w1.grownBy w2 v.ownBlock) (r3:v'.ownBlock=v.ownBlock∨v'.ownBlock=some w1.heap.size):GN w2 B v' (L++[g])∧Below B w w2:=by
 have hv:∀ k,v.ownBlock=some k→k∈blG v SS:=fun k hk=>List.mem_append_left _ (jbh hk)
 have hlt:∀ k∈blG v SS,k<w.heap.size:=fun k hk=>h.lt k hk
 have hnd:=h.own
 rw [List.nodup_append] at hnd
 have hs:∀ k,k<w1.heap.size→v.ownBlock≠some k→w2.heap[k]? = w1.heap[k]? := fun k hk hne=>r2.block k hk (fun e=>hne e.symm)
 have hin:∀ k,k∈SS.flatten→k∈blG v SS:=fun k hk=>List.mem_append_right _ hk
 have hv':∀ k,v'.ownBlock=some k→k ∉ SS.flatten∧k ∉ T∧B≤k:=fun k hk=>by
  rcases r3 with r3|r3
  ·rw [r3] at hk
   exact ⟨fun hm=>hnd.2.2 k (jbh hk) k hm rfl,fun hm=>by have:=hTn k hm;have:=hlt k (hv k hk);omega,hB k (hv k hk)⟩
  ·rw [r3] at hk
   injection hk with hk
   have:=hb.size
   exact ⟨fun hm=>by have:=hlt k (hin k hm);omega,fun hm=>by have:=hg.there _ k hm;omega,by omega⟩
 refine ⟨⟨l++[⟨g,a,b,c⟩],SS++[T],h.push r1 (hg.same _ (fun k hk=>hs k (hg.there _ k hk) (fun e=>by have:=hTn k hk;have:=hlt k (hv k e);omega))) (fun k hk=>(hs k (nll (hlt k (hin k hk)) hb.size) (fun e=>hnd.2.2 k (jbh e) k hk rfl)).trans (hb.block k (hlt k (hin k hk)))) ?_,fun k hk=>?_⟩,?_⟩
 ·rw [List.flatten_append,List.flatten_singleton,List.nodup_append,List.nodup_append]
  refine ⟨?_,⟨hnd.2.1,hT,fun x hx y hy e=>by have:=hlt x (hin x hx);have:=hTn y hy;omega⟩,fun x hx y hy e=>?_⟩
  ·cases v'.ownBlock <;> simp
  ·have hx':v'.ownBlock=some x:=by simpa using hx
   have:=hv' x hx'
   subst e
   rcases lma.1 hy with hy|hy
   ·exact this.1 hy
   ·exact this.2.1 hy
 ·rcases lma.1 hk with hk|hk
  ·have hx':v'.ownBlock=some k:=by simpa using hk
   exact (hv' k hx').2.2
  ·rw [List.flatten_append,List.flatten_singleton] at hk
   rcases lma.1 hk with hk|hk
   ·exact hB k (hin k hk)
   ·exact Nat.le_trans hBw (hTn k hk)
 ·refine ⟨r2.os.trans hb.os,r2.tape.trans hb.tape,r2.output.trans hb.output,Nat.le_trans hb.size r2.size,fun k hk=>?_⟩
  exact (hs k (by have:=hb.size;omega) (fun e=>by have:=hB k (hv k e);omega)).trans (hb.block k (by omega))
theorem GRow.joined {w w1 w2:World} {B B1:Nat} {v v1 v':Value} {L L1:List G} {l l1:List GR} {SS SS1:List (List Nat)} (h:GRow w B v L l SS) (hB:∀ k∈blG v SS,B≤k) (hb:Below w.heap.size w w1) (h1:GRow w1 B1 v1 L1 l1 SS1) (hT:∀ k∈blG v1 SS1,w.heap.size≤k) (hBw:B≤w.heap.size)
  (r1:w2.ownsRow B 42 9 v' (L.length+L1.length) (jak l++jak l1)) (r2:w1.grownBy w2 v.ownBlock) (r3:v'.ownBlock=v.ownBlock∨v'.ownBlock=some w1.heap.size):GN w2 B v' (L++L1)∧Below B w w2:=by
 have hv:∀ k,v.ownBlock=some k→k∈blG v SS:=fun k hk=>List.mem_append_left _ (jbh hk)
 have hlt:∀ k∈blG v SS,k<w.heap.size:=fun k hk=>h.lt k hk
 have hlt1:∀ k∈SS1.flatten,k<w1.heap.size:=fun k hk=>h1.lt k (List.mem_append_right _ hk)
 have hTn:∀ k∈SS1.flatten,w.heap.size≤k:=fun k hk=>hT k (List.mem_append_right _ hk)
 have hnd:=h.own
 rw [List.nodup_append] at hnd
 have hnd1:=h1.own
 rw [List.nodup_append] at hnd1
 have hs:∀ k,k<w1.heap.size→v.ownBlock≠some k→w2.heap[k]? = w1.heap[k]? := fun k hk hne=>r2.block k hk (fun e=>hne e.symm)
 have hin:∀ k,k∈SS.flatten→k∈blG v SS:=fun k hk=>List.mem_append_right _ hk
 have hv':∀ k,v'.ownBlock=some k→k ∉ SS.flatten∧k ∉ SS1.flatten∧B≤k:=fun k hk=>by
  rcases r3 with r3|r3
  ·rw [r3] at hk
   exact ⟨fun hm=>hnd.2.2 k (jbh hk) k hm rfl,fun hm=>by have:=hTn k hm;have:=hlt k (hv k hk);omega,hB k (hv k hk)⟩
  ·rw [r3] at hk
   injection hk with hk
   have:=hb.size
   exact ⟨fun hm=>by have:=hlt k (hin k hm);omega,fun hm=>by have:=hlt1 k hm;omega,by omega⟩
 have ks:∀ k∈SS.flatten,w2.heap[k]? = w.heap[k]? := fun k hk=>(hs k (nll (hlt k (hin k hk)) hb.size) (fun e=>hnd.2.2 k (jbh e) k hk rfl)).trans (hb.block k (hlt k (hin k hk)))
 have ks1:∀ k∈SS1.flatten,w2.heap[k]? = w1.heap[k]? := fun k hk=>hs k (hlt1 k hk) (fun e=>by have:=hTn k hk;have:=hlt k (hv k e);omega)
 refine ⟨⟨l++l1,SS++SS1,⟨by rw [lla,jb9];exact r1,by simp [h.len,h1.len],by simp [h.blocks,h1.blocks],fun i hi=>?_,?_⟩,fun k hk=>?_⟩,?_⟩
 ·rw [lla] at hi
  rcases Nat.lt_or_ge i L.length with h0|h0
  ·obtain ⟨a',b',c',T',k1,k2,k3⟩:=h.each i h0
   have e:(L++L1).getD i .no=L.getD i .no:=by simp [List.getD_eq_getElem?_getD,List.getElem?_append_left h0]
   rw [e]
   exact ⟨a',b',c',T',by rw [List.getElem?_append_left (by rw [h.len];omega)];exact k1,by rw [List.getElem?_append_left (by rw [h.blocks];omega)];exact k2,k3.same _ (fun x hx=>ks x (jaD k2 hx))⟩
  ·obtain ⟨a',b',c',T',k1,k2,k3⟩:=h1.each (i-L.length) (by omega)
   have e:(L++L1).getD i .no=L1.getD (i-L.length) .no:=by simp [List.getD_eq_getElem?_getD,List.getElem?_append_right h0]
   rw [e]
   exact ⟨a',b',c',T',by rw [List.getElem?_append_right (by rw [h.len];omega),h.len];exact k1,by rw [List.getElem?_append_right (by rw [h.blocks];omega),h.blocks];exact k2,k3.same _ (fun x hx=>ks1 x (jaD k2 hx))⟩
 ·rw [List.flatten_append,List.nodup_append,List.nodup_append]
  refine ⟨?_,⟨hnd.2.1,hnd1.2.1,fun x hx y hy e=>by have:=hlt x (hin x hx);have:=hTn y hy;omega⟩,fun x hx y hy e=>?_⟩
  ·cases v'.ownBlock <;> simp
  ·have hx':v'.ownBlock=some x:=by simpa using hx
   have:=hv' x hx'
   subst e
   rcases lma.1 hy with hy|hy
   ·exact this.1 hy
   ·exact this.2.1 hy
 ·rcases lma.1 hk with hk|hk
  ·have hx':v'.ownBlock=some k:=by simpa using hk
   exact (hv' k hx').2.2
  ·rw [List.flatten_append] at hk
   rcases lma.1 hk with hk|hk
   ·exact hB k (hin k hk)
   ·exact Nat.le_trans hBw (hTn k hk)
 ·refine ⟨r2.os.trans hb.os,r2.tape.trans hb.tape,r2.output.trans hb.output,Nat.le_trans hb.size r2.size,fun k hk=>?_⟩
  exact (hs k (by have:=hb.size;omega) (fun e=>by have:=hB k (hv k e);omega)).trans (hb.block k (by omega))
theorem jez {w:World} {base e size n:Nat} {v:Value} {xs:List Value} (h:w.ownsRow base e size v n xs):∃ ao c,v=.slice ao n c∧(ao=none→n=0∧c=0)∧∀ ad,ao=some ad→∀ j u,xs[j]? = some u→w.cell? (ad.add j)=some u:=by
 rcases h.2 with ⟨rfl,rfl⟩|⟨g,cap,cur,rfl,hbg,hg,hnc,hcm,hcs,htake⟩
 ·exact ⟨none,0,rfl,fun _=>⟨rfl,rfl⟩,fun ad h=>by cases h⟩
 ·refine ⟨some ⟨g,0,none⟩,cap,rfl,fun h=>(by cases h),fun ad had j u hu=>?_⟩
  injection had with had
  subst had
  have hj:j<n*size:=by rw [←h.1];exact (List.getElem?_eq_some_iff.1 hu).1
  have:=h.cellAt j hj
  rw [show (Addr.add ⟨g,0,none⟩ j:Addr)=⟨g,j,none⟩ by (simp [Addr.add];intro h;exact h.symm),this]
  exact hu
end Go.Proofs.YtjmlfacbcfbhdaaGreatDoor
