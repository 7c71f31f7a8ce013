/- Pairs of what is written that are left to be compared. No conditions. -/
import Derived.Test.YtjmlfacbcfbhdaaGreatDoorYA
import Derived.Test.YtjmlfacbcfbhdaaGreatDoorY44
import Derived.Test.YtjmlfacbcfbhdaaGreatDoorY46
import Derived.Test.YtjmlfacbcfbhdaaGreatDoorY43
import Derived.Test.YtjmlfacbcfbhdaaGreatDoorY18
import Derived.Test.YtjmlfacbcfbhdaaGreatDoorY42
import Derived.Test.YtjmlfacbcfbhdaaGreatDoorY0
set_option maxRecDepth 100000
set_option maxHeartbeats 8000000
namespace Go.Proofs.YtjmlfacbcfbhdaaGreatDoor
open Go.ChangeShapes Go.WideShapes Go.ChangeAt Go.RowKit
theorem jld (t:X):jig t:=by
 induction t with
 | no=>intro w0 L w su u v Q fuel room h;exact h.at_.elim
 | mk op a n s set len kid ih=>exact joZ _ (jo8 _ ih)
theorem joY {t:X} {L:List G} (h:jan t=true→jag L t.s=none):jaI t L=jaX t L:=by
 cases hd:jan t with
 | false=>exact (jb0 hd).symm
 | true =>
  have e:jaX t L=none:=if_pos hd
  rw [e]
  have hf:=h hd
  cases t with
  | no=>rfl
  | mk op a n s set len kid =>
   have hd':((op==2)&&(s.toList==jb3))=true:=hd
   rw [Bool.and_eq_true] at hd'
   have h2:op=2:=by simpa using hd'.1
   have hf':jag L s=none:=hf
   simp only [jaI]
   rw [if_pos h2,hf']
   simp only [hd'.2,if_true]
theorem GW.nice:∀ (g:G),GW g→g.Nice:=by
 intro g
 induction g with
 | no=>intro _;exact trivial
 | mk nm d one len sm ih =>
  intro h
  have h1:one.weight≤1048576:=h.1
  exact ⟨⟨one.nice_weight h1,by have:=one.count_weight;omega⟩,fun i hi=>ih i (h.2 i hi)⟩
theorem GW.niceL {L:List G} (h:∀ g∈L,GW g):NiceL L:=fun _ g hg=>GW.nice g (h g (jb1 hg).1)
theorem jnC {t:X} {L:List G} (h:∀ r,jaX t L=some r→1500<r.2.1∨1500<r.2.2):ansF t L=none:=by
 unfold ansF
 split
 ·cases hf:jaX t L with
  | none=>rfl
  | some r =>
   have h1:=h r hf
   have h2:jaI t L=some r:=by
    unfold jaX at hf
    split at hf
    ·cases hf
    ·exact hf
   obtain ⟨⟨h3,h3'⟩,h4⟩:=jiu t L r h2
   show (r.1.head?.bind fun x=>if jax x=true then some x else none)=none
   match hr:r.1,h4 with
   | [x],_ =>
    show (if jax x=true then some x else none)=none
    rw [if_neg]
    intro hx
    have h5:=jb2 hx
    have h6:jaR r.1=x.count:=by rw [hr];simp [jaR]
    omega
 ·rfl
theorem jm5 (t:X) (L:List G) (W:World) (su u lv:Value) (ht:t.At 0 W su u) (hg:GsAt W L.length (fun i=>L.getD i .no) lv) (hn:t.weight≤1048576) (hL:∀ g∈L,GW g) (hl:L.length≤1000000) (hd:jan t=true→jag L t.s=none) :
  Calls Tryz.prog 7 #[aggX t su u,lv] W fun e w'=>jeb (ansF t L) w' e∧Below W.heap.size W w':=by
 obtain ⟨pu,cu,e1⟩:=ht.xs.shape
 obtain ⟨ps,cs,e2⟩:=ht.sets.shape
 obtain ⟨pl,cl,e3⟩:=hg.shape
 subst e1 e2 e3
 obtain ⟨A,hA⟩:∃ A,A=W.heap.size:=⟨_,rfl⟩
 obtain ⟨W1,hW1⟩:∃ W1,W1=(W.alloc (.cells #[.int .i64 t.op,.int .i64 t.at_,.int .i64 t.n,.string t.s,.slice ps t.set.length cs,.slice pu t.len cu] 27)).alloc (.cells #[.int .i64 0,.int .i64 0,.int .i64 0,.string ⟨#[]⟩,.slice none 0 0,.slice none 0 0] 27):=⟨_,rfl⟩
 have nb:Below W.heap.size W W1:=by rw [hW1];exact (newx W _).trans ((newx _ _).mono (by simp))
 have hbx:SixO W1 A t (.slice ps t.set.length cs) (.slice pu t.len cu):=by rw [hW1,hA];exact (bha _ _ _ (by simp)).trans (han W _)
 have hrs:W1.heap[A+1]? = some (.cells #[.int .i64 0,.int .i64 0,.int .i64 0,.string ⟨#[]⟩,.slice none 0 0,.slice none 0 0] 27 (0,0)):=by
  have:=han (W.alloc (.cells #[.int .i64 t.op,.int .i64 t.at_,.int .i64 t.n,.string t.s,.slice ps t.set.length cs,.slice pu t.len cu] 27)) (.cells #[.int .i64 0,.int .i64 0,.int .i64 0,.string ⟨#[]⟩,.slice none 0 0,.slice none 0 0] 27)
  rw [World.size_alloc] at this
  rw [hW1,hA];exact this
 have H1:Hid (Below W.heap.size W W1∧SixO W1 A t (.slice ps t.set.length cs) (.slice pu t.len cu)∧W1.heap[A+1]? = some (.cells #[.int .i64 0,.int .i64 0,.int .i64 0,.string ⟨#[]⟩,.slice none 0 0,.slice none 0 0] 27 (0,0))∧W.heap.size≤A+1):=⟨nb,hbx,hrs,by omega⟩
 have HWW:Hid (W1=(W.alloc (.cells #[.int .i64 t.op,.int .i64 t.at_,.int .i64 t.n,.string t.s,.slice ps t.set.length cs,.slice pu t.len cu] 27)).alloc (.cells #[.int .i64 0,.int .i64 0,.int .i64 0,.string ⟨#[]⟩,.slice none 0 0,.slice none 0 0] 27)∧A=W.heap.size):=⟨hW1,hA⟩
 have HX:=jad (And.intro ht (And.intro hg (And.intro hn (And.intro hL (And.intro hl (joY hd))))))
 obtain ⟨q0,q1,q2,q3,q4,q5⟩:=hbx.cells
 have HOK:Hid (Calls Tryz.prog 20 #[.agg #[.int .i64 t.op,.int .i64 t.at_,.int .i64 t.n,.string t.s,.slice ps t.set.length cs,.slice pu t.len cu]] W1 fun e w'=>e=.returned (.bool (jax t))∧Below W1.heap.size W1 w'):=jdI t W1 _ _ (X.At.below nb ht) hn
 clear ht hg hn hL hl hd hA hW1 nb hbx hrs
 go_enter Tryz.func7,Tryz.ntmps7
 go_upto_region 1 with fail
 rw [←HWW.out.1,←HWW.out.2]
 go_wp2_with fail
 refine HOK.out.mono ?_
 rintro e w2 ⟨rfl,hb2⟩
 have HB2:Hid (Below W1.heap.size W1 w2∧Below W.heap.size W w2):=⟨hb2,H1.out.1.trans (hb2.mono H1.out.1.size)⟩
 have H2:Hid (SixO w2 A t (.slice ps t.set.length cs) (.slice pu t.len cu)∧w2.heap[A+1]? = some (.cells #[.int .i64 0,.int .i64 0,.int .i64 0,.string ⟨#[]⟩,.slice none 0 0,.slice none 0 0] 27 (0,0))):=⟨(hb2.block _ (aes.1 H1.out.2.1).1).trans H1.out.2.1,(hb2.block _ (aes.1 H1.out.2.2.1).1).trans H1.out.2.2.1⟩
 clear hb2 q0 q1 q2 q3 q4 q5
 cases hsb:jax t with
 | false =>
  have HAN:Hid (ansF t L=none):=joJ hsb
  have z:=H2.out.2
  have z0:=crw w2 _ 0 _ _ _ z
  have z1:=crw w2 _ 1 _ _ _ z
  have z2:=crw w2 _ 2 _ _ _ z
  have z3:=crw w2 _ 3 _ _ _ z
  have z4:=crw w2 _ 4 _ _ _ z
  have z5:=crw w2 _ 5 _ _ _ z
  have zf:∀ j,w2.frozen? ⟨A+1,j,none⟩=false:=fun j=>fzr w2 _ j _ _ z
  clear z hsb
  go_wp2_with fail
  refine bpr (v:=.tuple #[noXV,.bool false]) (by rw [jac (p:=4) (q:=5) (ty:=27) (by kernel_rfl)];simp [go_sem,noXV,z0,z1,z2,z3,z4,z5]) rfl ?_
  exact ⟨.inr ⟨HAN.out,rfl⟩,(((((HB2.out.2.setCell (p:=⟨A+1,0,none⟩) H1.out.2.2.2 _).setCell (p:=⟨A+1,1,none⟩) H1.out.2.2.2 _).setCell (p:=⟨A+1,2,none⟩) H1.out.2.2.2 _).setCell (p:=⟨A+1,3,none⟩) H1.out.2.2.2 _).setCell (p:=⟨A+1,4,none⟩) H1.out.2.2.2 _).setCell (p:=⟨A+1,5,none⟩) H1.out.2.2.2 _⟩
 | true =>
  have HSB:=jad hsb
  clear hsb
  obtain ⟨Q,hQ⟩:∃ Q,Q=w2.heap.size:=⟨_,rfl⟩
  obtain ⟨w3,hw3⟩:∃ w3,w3=w2.alloc (.cells #[.bool true,.int .i64 4000,.int .i64 1500] 51):=⟨_,rfl⟩
  have nb3:Below w2.heap.size w2 w3:=by rw [hw3];exact newx w2 _
  have hask:Ask w3 Q true 4000 1500:=by rw [hw3,hQ];exact han w2 _
  have HWW3:Hid (w3=w2.alloc (.cells #[.bool true,.int .i64 4000,.int .i64 1500] 51)∧Q=w2.heap.size):=⟨hw3,hQ⟩
  have hAQ:A+1<Q:=by rw [hQ];exact (aes.1 H2.out.2).1
  have H3:Hid (SixO w3 A t (.slice ps t.set.length cs) (.slice pu t.len cu)∧w3.heap[A+1]? = some (.cells #[.int .i64 0,.int .i64 0,.int .i64 0,.string ⟨#[]⟩,.slice none 0 0,.slice none 0 0] 27 (0,0))∧Below W.heap.size W w3∧A+1<Q∧W.heap.size≤Q∧Q<w3.heap.size):=⟨(nb3.block _ (aes.1 H2.out.1).1).trans H2.out.1,(nb3.block _ (aes.1 H2.out.2).1).trans H2.out.2,HB2.out.2.trans (nb3.mono HB2.out.2.size),hAQ,by have:=HB2.out.2.size;omega,(aes.1 hask).1⟩
  have HFI:Hid (Calls Tryz.prog 21 #[.pointer (some ⟨Q,0,none⟩),.agg #[.int .i64 t.op,.int .i64 t.at_,.int .i64 t.n,.string t.s,.slice ps t.set.length cs,.slice pu t.len cu],.slice pl L.length cl] w3 fun e w'=>jcz w3 Q 4000 1500 (jaI t L) e w'):=by
   refine jld t w2 L w3 _ _ _ Q 4000 1500 ⟨X.At.below HB2.out.2 HX.out.1,nb3,by omega,((GsV.of (HX.out.2.1.below HB2.out.2) (by omega)).but (But.of_all nb3)),HX.out.2.2.1,HX.out.2.2.2.1,?_⟩ hask (by omega) (by omega) (by omega) (by omega)
   have a1:=jb2 HSB.out
   have a2:=HX.out.2.2.2.2.1
   omega
  obtain ⟨q0,q1,q2,q3,q4,q5⟩:=H3.out.1.cells
  clear hQ hw3 nb3 hask hAQ
  go_upto_region 4 with fail
  rw [←HWW3.out.1,←HWW3.out.2]
  go_wp2_with fail
  refine HFI.out.mono ?_
  rintro e w4 ⟨hb4,x,sx,ux,rfl,⟨p3,n1,n2,rfl⟩,⟨q3',n3,n4,rfl⟩,hcase⟩
  have HB4:Hid (But (fun j=>j=Q) w3 w4∧Below W.heap.size W w4):=⟨hb4,H3.out.2.2.1.trans (hb4.below H3.out.2.2.1.size (fun j hj=>by have:=H3.out.2.2.2.2.1;omega))⟩
  have HZ4:Hid (w4.heap[A+1]? = some (.cells #[.int .i64 0,.int .i64 0,.int .i64 0,.string ⟨#[]⟩,.slice none 0 0,.slice none 0 0] 27 (0,0))):=hb4.at H3.out.2.1 (fun e=>by have:=H3.out.2.2.2.1;omega)
  obtain ⟨G,hG⟩:∃ G,G=w4.heap.size:=⟨_,rfl⟩
  obtain ⟨w5,hw5⟩:∃ w5,w5=w4.alloc (.cells #[.int .i64 x.op,.int .i64 x.at_,.int .i64 x.n,.string x.s,.slice p3 n1 n2,.slice q3' n3 n4] 27):=⟨_,rfl⟩
  have nb5:Below w4.heap.size w4 w5:=by rw [hw5];exact newx w4 _
  have h6:SixO w5 G x (.slice p3 n1 n2) (.slice q3' n3 n4):=by rw [hw5,hG];exact han w4 _
  have HWW5:Hid (w5=w4.alloc (.cells #[.int .i64 x.op,.int .i64 x.at_,.int .i64 x.n,.string x.s,.slice p3 n1 n2,.slice q3' n3 n4] 27)∧G=w4.heap.size):=⟨hw5,hG⟩
  have HB5:Hid (Below W.heap.size W w5∧Below w4.heap.size w4 w5):=⟨HB4.out.2.trans (nb5.mono HB4.out.2.size),nb5⟩
  have HZ5:Hid (w5.heap[A+1]? = some (.cells #[.int .i64 0,.int .i64 0,.int .i64 0,.string ⟨#[]⟩,.slice none 0 0,.slice none 0 0] 27 (0,0))):=(nb5.block _ (aes.1 HZ4.out).1).trans HZ4.out
  have H6:=jad h6
  clear hb4 q0 q1 q2 q3 q4 q5 hw5 hG nb5
  rcases hcase with ⟨r,S,h1,h2,h3,h4,h4',h5,h7,h8⟩|⟨⟨f',m',h3⟩,h1⟩
  ·have HFD:Hid (jaX t L=some r):=by show _=_;rw [←HX.out.2.2.2.2.2];exact h1
   have k0:w5.cell? ⟨Q,0,none⟩=some (.bool true):=jat HB5.out.2 _ _ (crw w4 Q 0 _ _ _ h3)
   have HNI:=jad (jgl (jdJ HSB.out) (t.nice_weight HX.out.2.2.1) (GW.niceL HX.out.2.2.2.1) HFD.out (by omega))
   have hxn:x.Nice:=HNI.out.1 x (by rw [h2];simp)
   have hxc:x.count≤1099511627776:=by have:=HNI.out.2;rw [h2] at this;simp [jaR] at this;omega
   have HAN0:=jad (jjp HSB.out HFD.out h2)
   have HXO:Hid (XOwn w5 x (.slice p3 n1 n2) (.slice q3' n3 n4) S∧∀ k∈S,w3.heap.size≤k):=⟨XOwn.same x h5 (fun k hk=>HB5.out.2.block k (h5.there _ k hk)),h8⟩
   have HSX:Hid (Calls Tryz.prog 20 #[.agg #[.int .i64 x.op,.int .i64 x.at_,.int .i64 x.n,.string x.s,.slice p3 n1 n2,.slice q3' n3 n4]] w5 fun e w'=>e=.returned (.bool (jax x))∧Below w5.heap.size w5 w'):=jeO x w5 _ _ HXO.out.1.at0 hxn hxc
   have HXN:=jad hxn
   obtain ⟨y0,y1,y2,y3,y4,y5⟩:=h6.cells
   clear h1 h2 h3 h4 h4' h5 h7 h8 h6 hxn hxc HNI
   go_upto_region 5 with fail
   rw [←HWW5.out.1,←HWW5.out.2]
   go_wp2_with fail
   refine HSX.out.mono ?_
   rintro e w6 ⟨rfl,hb6⟩
   have HB6:Hid (Below W.heap.size W w6):=HB5.out.1.trans (hb6.mono HB5.out.1.size)
   have z:=(hb6.block _ (aes.1 HZ5.out).1).trans HZ5.out
   have z0:=crw w6 _ 0 _ _ _ z
   have z1:=crw w6 _ 1 _ _ _ z
   have z2:=crw w6 _ 2 _ _ _ z
   have z3:=crw w6 _ 3 _ _ _ z
   have z4:=crw w6 _ 4 _ _ _ z
   have z5:=crw w6 _ 5 _ _ _ z
   have zf:∀ j,w6.frozen? ⟨A+1,j,none⟩=false:=fun j=>fzr w6 _ j _ _ z
   obtain ⟨g0,g1,g2,g3,g4,g5⟩:=SixO.cells ((hb6.block _ (aes.1 H6.out).1).trans H6.out)
   have HO6:Hid (XOwn w6 x (.slice p3 n1 n2) (.slice q3' n3 n4) S):=XOwn.same x HXO.out.1 (fun k hk=>hb6.block k (HXO.out.1.there _ k hk))
   clear z hb6 y0 y1 y2 y3 y4 y5 k0
   cases hxb:jax x with
   | false =>
    have HAN:Hid (ansF t L=none):=by have:=HAN0.out;rw [hxb] at this;exact this
    clear hxb
    go_wp2_with fail
    refine bpr (v:=.tuple #[noXV,.bool false]) (by rw [jac (p:=4) (q:=5) (ty:=27) (by kernel_rfl)];simp [go_sem,noXV,z0,z1,z2,z3,z4,z5]) rfl ?_
    exact ⟨.inr ⟨HAN.out,rfl⟩,(((((HB6.out.setCell (p:=⟨A+1,0,none⟩) H1.out.2.2.2 _).setCell (p:=⟨A+1,1,none⟩) H1.out.2.2.2 _).setCell (p:=⟨A+1,2,none⟩) H1.out.2.2.2 _).setCell (p:=⟨A+1,3,none⟩) H1.out.2.2.2 _).setCell (p:=⟨A+1,4,none⟩) H1.out.2.2.2 _).setCell (p:=⟨A+1,5,none⟩) H1.out.2.2.2 _⟩
   | true =>
    have HAN:Hid (ansF t L=some x):=by have:=HAN0.out;rw [hxb] at this;exact this
    have HFIN:Hid (jeb (ansF t L) (finW w6 (A+1) x (.slice p3 n1 n2) (.slice q3' n3 n4)) (.returned (.tuple #[aggX x (.slice p3 n1 n2) (.slice q3' n3 n4),.bool true]))∧Below W.heap.size W (finW w6 (A+1) x (.slice p3 n1 n2) (.slice q3' n3 n4))):=by
     refine ⟨.inl ⟨x,p3,q3',n1,n2,n3,n4,HAN.out,HXN.out,hxb,?_,rfl⟩,?_⟩
     ·exact (XOwn.same x HO6.out (fun k hk=>jdg w6 (A+1) x _ _ (fun e=>by have a1:=HXO.out.2 k hk;have a2:=H3.out.2.2.2.1;have a3:=H3.out.2.2.2.2.2;omega))).at0
     ·exact (((((HB6.out.setCell (p:=⟨A+1,0,none⟩) H1.out.2.2.2 _).setCell (p:=⟨A+1,1,none⟩) H1.out.2.2.2 _).setCell (p:=⟨A+1,2,none⟩) H1.out.2.2.2 _).setCell (p:=⟨A+1,3,none⟩) H1.out.2.2.2 _).setCell (p:=⟨A+1,4,none⟩) H1.out.2.2.2 _).setCell (p:=⟨A+1,5,none⟩) H1.out.2.2.2 _
    clear hxb
    go_wp2_with fail
    refine bpr (v:=.tuple #[aggX x (.slice p3 n1 n2) (.slice q3' n3 n4),.bool true]) (by rw [jac (p:=4) (q:=5) (ty:=27) (by kernel_rfl)];simp [go_sem,z0,z1,z2,z3,z4,z5]) rfl ?_
    exact HFIN.out
  ·have HAN:Hid (ansF t L=none):=jnC (fun r hr=>by
    rw [←HX.out.2.2.2.2.2] at hr
    rcases h1 r hr with a1|a1
    ·exact .inl (by omega)
    ·exact .inr (by omega))
   have k0:w5.cell? ⟨Q,0,none⟩=some (.bool false):=jat HB5.out.2 _ _ (crw w4 Q 0 _ _ _ h3)
   have z:=HZ5.out
   have z0:=crw w5 _ 0 _ _ _ z
   have z1:=crw w5 _ 1 _ _ _ z
   have z2:=crw w5 _ 2 _ _ _ z
   have z3:=crw w5 _ 3 _ _ _ z
   have z4:=crw w5 _ 4 _ _ _ z
   have z5:=crw w5 _ 5 _ _ _ z
   have zf:∀ j,w5.frozen? ⟨A+1,j,none⟩=false:=fun j=>fzr w5 _ j _ _ z
   clear z h1 h3 h6
   go_upto_region 5 with fail
   rw [←HWW5.out.1,←HWW5.out.2]
   go_wp2_with fail
   refine bpr (v:=.tuple #[noXV,.bool false]) (by rw [jac (p:=4) (q:=5) (ty:=27) (by kernel_rfl)];simp [go_sem,noXV,z0,z1,z2,z3,z4,z5]) rfl ?_
   exact ⟨.inr ⟨HAN.out,rfl⟩,(((((HB5.out.1.setCell (p:=⟨A+1,0,none⟩) H1.out.2.2.2 _).setCell (p:=⟨A+1,1,none⟩) H1.out.2.2.2 _).setCell (p:=⟨A+1,2,none⟩) H1.out.2.2.2 _).setCell (p:=⟨A+1,3,none⟩) H1.out.2.2.2 _).setCell (p:=⟨A+1,4,none⟩) H1.out.2.2.2 _).setCell (p:=⟨A+1,5,none⟩) H1.out.2.2.2 _⟩
theorem jib:∀ (ns:List ByteArray),jaq [] ns (-1) = -1
 | []=>rfl
 | nm::r=>by
  have e:jag [] nm=none:=rfl
  simp only [jaq,e]
  exact jib r
theorem jog {t:X} (h:∀ i,i<t.len→∀ r,jaI (t.kid i) []=some r→∃ x,r.1=[x]∧sameX x (t.kid i)=true):∀ m i r,t.len-i=m→remF t [] i=some r→r.1.length=t.len-i∧∀ j,j<t.len-i→sameX (r.1.getD j .no) (t.kid (i+j))=true:=by
 intro m
 induction m using Nat.strongRecOn with
 | ind m ih =>
  intro i r hm hr
  by_cases hi:i<t.len
  ·cases hd:jan (t.kid i) with
   | true=>rw [jc9 hi hd] at hr;cases hr
   | false =>
    by_cases hn:i+1<t.len∧jan (t.kid (i+1))=true
    ·rw [jdo hd hn.1 hn.2] at hr
     obtain ⟨a,ha,_⟩:=bind_some hr
     unfold jcO at ha
     rw [jib,if_pos (by omega)] at ha
     cases ha
    ·rw [je4 hi hd hn] at hr
     obtain ⟨a,ha,hr⟩:=bind_some hr
     obtain ⟨b,hb,rfl⟩:=jar hr
     obtain ⟨x,hx,hs⟩:=h i hi a ha
     obtain ⟨b1,b2⟩:=ih (t.len-(i+1)) (by omega) (i+1) b rfl hb
     have e:(a.join b).1=x::b.1:=by show a.1++b.1=_;rw [hx];rfl
     rw [e]
     refine ⟨by rw [List.length_cons,b1];omega,fun j hj=>?_⟩
     cases j with
     | zero=>simpa using hs
     | succ j =>
      have h9:=b2 j (by omega)
      have e2:i+1+j=i+(j+1):=by omega
      rw [e2] at h9
      simpa using h9
  ·rw [jdn t [] (by omega)] at hr
   injection hr with hr
   subst hr
   exact ⟨by simp;omega,fun j hj=>by omega⟩
theorem jma (t:X):PlainX t→∀ r,jaI t []=some r→∃ x,r.1=[x]∧sameX x t=true:=by
 induction t with
 | no=>intro h;exact h.elim
 | mk op a n s set len kid ih =>
  intro hp r hr
  simp only [jaI] at hr
  split at hr
  ·have e:jag [] s=none:=rfl
   rw [e] at hr
   simp only at hr
   split at hr
   ·cases hr
   ·injection hr with hr;subst hr;exact ⟨_,rfl,jeA _⟩
  ·split at hr
   ·injection hr with hr;subst hr;exact ⟨_,rfl,jeA _⟩
   ·rename_i h2 h1
    have h3:op=3∧n=0∧s=⟨#[]⟩∧set=[]:=by
     rcases hp.1 with ⟨h|h,_⟩|h
     ·exact absurd h h1
     ·exact absurd h h2
     ·exact h
    obtain ⟨rfl,rfl,rfl,rfl⟩:=h3
    obtain ⟨ks,hks,rfl⟩:=jar hr
    have hrem:remF (.mk 3 a 0 ⟨#[]⟩ [] len kid) [] 0=some ks:=hks
    obtain ⟨k1,k2⟩:=jog (t:=.mk 3 a 0 ⟨#[]⟩ [] len kid) (fun i hi r hr=>ih i (hp.2 i hi) r hr) _ 0 ks rfl hrem
    have hl:ks.1.length=len:=k1
    refine ⟨_,rfl,?_⟩
    rw [je5,Bool.and_eq_true]
    constructor
    ·show ((3:Int)==3&&((0:Int)==0&&(((⟨#[]⟩:ByteArray).toList==(⟨#[]⟩:ByteArray).toList)&&(jcw [] []&&(ks.1.length==len)))))=true
     rw [hl]
     simp [jcw]
    ·rw [allX_true]
     intro i hi
     have hi':i<len:=by rw [←hl];exact hi
     have h9:=k2 i hi'
     rw [Nat.zero_add] at h9
     exact h9
abbrev XP:=X×X×(Value×Value)×(Value×Value)
def XP.cells (q:XP):List Value:=[.int .i64 q.1.op,.int .i64 q.1.at_,.int .i64 q.1.n,.string q.1.s,q.2.2.1.1,q.2.2.1.2,.int .i64 q.2.1.op,.int .i64 q.2.1.at_,.int .i64 q.2.1.n,.string q.2.1.s,q.2.2.2.1,q.2.2.2.2]
def jbC (st:List XP):List Value:=st.flatMap XP.cells
theorem jcM (a b:List XP):jbC (a++b)=jbC a++jbC b:=by simp [jbC]
theorem jcN (st:List XP):(jbC st).length=st.length*12:=by
 induction st with
 | nil=>rfl
 | cons t r ih=>simp only [jbC,List.flatMap_cons,List.length_append,List.length_cons] at ih ⊢;rw [ih];simp [XP.cells];omega
def jbc (st:List XP):Bool:=st.all fun q=>sameX q.1 q.2.1
def jbB (st:List XP):Nat:=(st.map fun q=>q.1.count).sum
theorem jcL (a b:List XP):jbB (a++b)=jbB a+jbB b:=by simp [jbB]
theorem jeD (st:List XP):st.length≤jbB st:=by
 induction st with
 | nil=>simp
 | cons q r ih =>
  simp only [jbB,List.map_cons,List.sum_cons,List.length_cons] at ih ⊢
  have:1≤q.1.count:=by rw [X.count_eq];omega
  omega
def jaH (x y:X) (U V:Nat→Value×Value) (k:Nat):List XP:=(List.range k).map fun i=>(x.kid i,y.kid i,U i,V i)
theorem jc6 (x y:X) (U V:Nat→Value×Value) (k:Nat):jaH x y U V (k+1)=jaH x y U V k++[(x.kid k,y.kid k,U k,V k)]:=by simp [jaH,List.range_succ]
theorem jcF (x y:X) (U V:Nat→Value×Value) (k:Nat):(jaH x y U V k).length=k:=by simp [jaH]
theorem jgb (x y:X) (U V:Nat→Value×Value) (k:Nat):jbB (jaH x y U V k)=sumX (fun i=>(x.kid i).count) k:=by
 induction k with
 | zero=>rfl
 | succ k ih=>rw [jc6,jcL,ih];simp [jbB,sumX]
theorem jhT (x y:X) (U V:Nat→Value×Value) (k:Nat):jbc (jaH x y U V k)=allX (fun i=>sameX (x.kid i) (y.kid i)) k:=by
 induction k with
 | zero=>rfl
 | succ k ih=>rw [jc6];simp only [jbc,List.all_append] at ih ⊢;rw [ih];simp [allX]
theorem jmL (r:List XP) (x y:X) (u v:Value×Value) (U V:Nat→Value×Value) (h:jek x y=true):jbc (r++[(x,y,u,v)])=jbc (r++jaH x y U V x.len):=by
 have h1:=jhT x y U V x.len
 simp only [jbc,List.all_append] at h1 ⊢
 rw [h1,←Bool.true_and (allX _ _),←h,←je5]
 simp
theorem jpe (r:List XP) (x y:X) (u v:Value×Value) (h:jek x y=false):jbc (r++[(x,y,u,v)])=false:=by
 simp only [jbc,List.all_append]
 simp [je5 x y,h]
theorem jiX (r:List XP) (x y:X) (u v:Value×Value) (U V:Nat→Value×Value):jbB (r++jaH x y U V x.len)+1=jbB (r++[(x,y,u,v)]):=by
 rw [jcL,jcL,jgb]
 simp only [jbB,List.map_cons,List.map_nil,List.sum_cons,List.sum_nil]
 rw [X.count_eq x];omega
def joV (w:World) (st:List XP):Prop:=∀ q∈st,(q.1.At 0 w q.2.2.1.1 q.2.2.1.2∧q.1.Small)∧(q.2.1.At 0 w q.2.2.2.1 q.2.2.2.2∧q.2.1.Small)
end Go.Proofs.YtjmlfacbcfbhdaaGreatDoor
