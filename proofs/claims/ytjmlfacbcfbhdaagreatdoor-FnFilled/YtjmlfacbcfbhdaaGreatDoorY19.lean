/- impl.partOf, impl.isSym, impl.datKids, impl.stxKids. No conditions. -/
import Derived.Test.YtjmlfacbcfbhdaaGreatDoorYA
import Derived.Test.YtjmlfacbcfbhdaaGreatDoorY17
import Derived.Test.YtjmlfacbcfbhdaaGreatDoorY18
import Derived.Test.YtjmlfacbcfbhdaaGreatDoorY0
import Derived.WalkKit
import Derived.ProofKit
set_option maxRecDepth 100000
set_option maxHeartbeats 8000000
namespace Go.Proofs.YtjmlfacbcfbhdaaGreatDoor
open Go.ChangeShapes Go.WideShapes Go.ChangeAt Go.RowKit
def jnz (t:X):Prop:=∀ (w:World) (su u:Value),t.At 0 w su u→t.weight≤1048576→Calls Tryz.prog 56 #[.agg #[.int .i64 t.op,.int .i64 t.at_,.int .i64 t.n,.string t.s,su,u]] w fun e w'=>e=.returned (.bool (jaS t))∧Below w.heap.size w w'
theorem ji9 (t:X):jnz t:=by
 induction t with
 | no=>intro w su u h;exact h.elim
 | mk op a n s set len kid ih =>
  intro w su u hin hwt
  obtain ⟨p,cap,e1,hl2,hat⟩:=hin.xs.at
  obtain ⟨qs,cs,e2⟩:=hin.sets.shape
  simp only [X.op,X.at_,X.n,X.s,X.len,X.set,X.kid] at e1 e2 hat hl2 ⊢
  have hwe:(X.mk op a n s set len kid).weight=s.size+(set.length+(len+sumX (fun i=>(kid i).weight) len)):=rfl
  have hlen:len≤1048576:=by omega
  have HAT:Hid (∀ i,i<len→∃ b o sv u,p=some ⟨b,o,none⟩∧Head6 w b (o+i*6) (kid i) sv u∧(kid i).At 0 w sv u):=hat
  have IH:Hid (∀ i,i<len→∀ (w:World) (su u:Value),(kid i).At 0 w su u→Calls Tryz.prog 56 #[.agg #[.int .i64 (kid i).op,.int .i64 (kid i).at_,.int .i64 (kid i).n,.string (kid i).s,su,u]] w fun e w'=>e=.returned (.bool (jaS (kid i)))∧Below w.heap.size w w'):=fun i hi w su u h=>ih i w su u h (by
   have h1:=jbo (fun i=>(kid i).weight) i len hi
   omega)
  subst e1 e2
  obtain ⟨res,hres⟩:∃ r,r=jaS (.mk op a n s set len kid):=⟨_,rfl⟩
  rw [←hres]
  have HRES:Hid (res=allX (fun i=>jaP len kid i&&jaS (kid i)) len):=by show _=_;rw [hres,jgu]
  obtain ⟨W,hW⟩:∃ W,W=w.alloc (.cells #[.int .i64 op,.int .i64 a,.int .i64 n,.string s,.slice qs set.length cs,.slice p len cap] 27):=⟨_,rfl⟩
  obtain ⟨C,hC⟩:∃ C,C=w.heap.size:=⟨_,rfl⟩
  have KW:Hid (∀ wx,Below W.heap.size W wx→Below w.heap.size w wx∧Six wx C op a n s (.slice qs set.length cs) (.slice p len cap) 27):=by
   have nb:Below w.heap.size w W:=by rw [hW];exact newx w _
   have h6:Six W C op a n s (.slice qs set.length cs) (.slice p len cap) 27:=by rw [hW,hC];exact han w _
   exact fun wx hx=>⟨nb.trans (hx.mono nb.size),h6.below hx⟩
  clear hin ih hat hres hwt hwe
  generalize set.length=sl at *
  obtain ⟨x0,x1,x2,x3,x4,x5⟩:=(KW.out W (brf _ _)).2.cells
  go_enter Tryz.func56,Tryz.ntmps56
  go_wp2_with fail
  rw [←hW,←hC]
  clear hW hC x0 x1 x2 x3 x4 x5
  go_loopw [4] (fun i wr=>∃ k:Nat,i=.int .i64 k∧k≤len∧(∀ j,j<k→(jaP len kid j&&jaS (kid j))=true)∧Below W.heap.size W wr) (fun i _=>len-(intOf i).toNat)
  case atStart=>exact ⟨0,rfl,nzl _,fun j hj=>absurd hj (Nat.not_lt_zero _),brf _ _⟩
  case round =>
   obtain ⟨k,rfl,hk,hall,hbel⟩:=hrel
   have HB:Hid (Below W.heap.size W wr):=hbel
   have HALL:Hid (∀ j,j<k→(jaP len kid j&&jaS (kid j))=true):=hall
   clear hbel hall
   obtain ⟨x0,x1,x2,x3,x4,x5⟩:=(KW.out wr HB.out).2.cells
   by_cases hlt:(k:Int)<len
   ·have hk':k<len:=by omega
    obtain ⟨b,o,sk,uk,hp,hd,hink⟩:=HAT.out k hk'
    subst hp
    have HKID:Hid (∀ wx,Below W.heap.size W wx→Head6 wx b (o+k*6) (kid k) sk uk∧(kid k).At 0 wx sk uk):=fun wx hx=>⟨hd.below (KW.out wx hx).1,hink.below (KW.out wx hx).1⟩
    have HBAD:Hid ((jaP len kid k&&jaS (kid k))=false→res=false):=fun h=>by rw [HRES.out];exact jgg hk' h
    have HGO:Hid ((jaP len kid k&&jaS (kid k))=true→∀ j,j<k+1→(jaP len kid j&&jaS (kid j))=true):=fun h j hj=>by
     by_cases hjk:j=k
     ·subst hjk;exact h
     ·exact HALL.out j (by omega)
    have HKP:Hid (jaP len kid k = !(jan (kid k)&&(!(decide (k+1=len))||(decide (k=0)||jan (kid (k-1)))))):=rfl
    obtain ⟨c0,c1,c2,c3,c4,c5⟩:=(HKID.out wr HB.out).1
    clear hd hink
    go_wp2_with fail
    refine (jbz (kid k) sk uk wr).mono ?_
    rintro e w1 ⟨rfl,hb1⟩
    have HB1:Hid (Below W.heap.size W w1):=HB.out.trans (hb1.mono HB.out.size)
    clear hb1 c0 c1 c2 c3 c4 c5 x0 x1 x2 x3 x4 x5 HB
    obtain ⟨x0,x1,x2,x3,x4,x5⟩:=(KW.out w1 HB1.out).2.cells
    obtain ⟨c0,c1,c2,c3,c4,c5⟩:=(HKID.out w1 HB1.out).1
    cases hdk:jan (kid k)
    ·have HM:Hid (jaP len kid k=true):=by show _=_;rw [HKP.out,hdk];rfl
     have HBV:Hid (Below W.heap.size W w1):=HB1.out
     go_wp2_with fail
     refine (IH.out k hk' _ sk uk (HKID.out _ HBV.out).2).mono ?_
     rintro e w5 ⟨rfl,hb5⟩
     have HB5:Hid (Below W.heap.size W w5):=HBV.out.trans (hb5.mono HBV.out.size)
     clear hb5
     cases hpl:jaS (kid k)
     ·have HE:Hid (res=false):=HBAD.out (by rw [HM.out,hpl];rfl)
      go_wp2_with fail
      go_ret
      exact ⟨by rw [HE.out];rfl,(KW.out w5 HB5.out).1⟩
     ·have HE:Hid (∀ j,j<k+1→(jaP len kid j&&jaS (kid j))=true):=HGO.out (by rw [HM.out,hpl];rfl)
      go_wp2_with fail
      go_roundw
      case rel=>first|exact ⟨k+1,by go_num,by omega,HE.out,HB5.out⟩|((repeat apply Exists.intro);exact ⟨⟨k+1,by go_num,by omega,HE.out,HB5.out⟩,rfl⟩)
      case measure=>simp [intOf];omega
    ·by_cases hle:k+1=len
     ·have t1:((k:Int)==(len:Int)-1)=true:=by rw [beq_iff_eq];omega
      have t1':((k:Int) != (len:Int)-1)=false:=by simp only [bne,t1];rfl
      by_cases hk0:k=0
      ·have HM:Hid (jaP len kid k=false):=by show _=_;rw [HKP.out,hdk,dqt hle,dqt hk0];rfl
       have HBV:Hid (Below W.heap.size W w1):=HB1.out
       have t2:((k:Int)==0)=true:=by rw [beq_iff_eq];omega
       have HE:Hid (res=false):=HBAD.out (by rw [HM.out];rfl)
       go_wp2_with fail
       go_ret
       exact ⟨by rw [HE.out];rfl,(KW.out _ HBV.out).1⟩
      ·obtain ⟨j,hj⟩:∃ j,k=j+1:=⟨k-1,by omega⟩
       have t2:((k:Int)==0)=false:=by rw [beq_eq_false_iff_ne];omega
       obtain ⟨b',o',sj,uj,hp',hdj,hinj⟩:=HAT.out j (by omega)
       simp only [Option.some.injEq,Addr.mk.injEq,and_true] at hp'
       obtain ⟨rfl,rfl⟩:=hp'
       have HJ:Hid (∀ wx,Below W.heap.size W wx→Head6 wx b (o+j*6) (kid j) sj uj):=fun wx hx=>hdj.below (KW.out wx hx).1
       obtain ⟨f0,f1,f2,f3,f4,f5⟩:=HJ.out w1 HB1.out
       have HKJ:Hid (kid (k-1)=kid j):=by show _=_;rw [hj];rfl
       have HMJ:Hid (∀ q,jan (kid j)=q→jaP len kid k = !q):=fun q h=>by rw [HKP.out,hdk,dqt hle,dqf hk0,HKJ.out,h];cases q <;> rfl
       clear hdj hinj HKJ HKP t1 t1' t2 hk0 hlt
       subst hj
       subst hle
       go_wp2_with fail
       refine (jbz (kid j) sj uj w1).mono ?_
       rintro e w2 ⟨rfl,hb2⟩
       have HBV:Hid (Below W.heap.size W w2):=HB1.out.trans (hb2.mono HB1.out.size)
       clear hb2 c0 c1 c2 c3 c4 c5 x0 x1 x2 x3 x4 x5 f0 f1 f2 f3 f4 f5
       obtain ⟨x0,x1,x2,x3,x4,x5⟩:=(KW.out w2 HBV.out).2.cells
       obtain ⟨c0,c1,c2,c3,c4,c5⟩:=(HKID.out w2 HBV.out).1
       cases hdj:jan (kid j)
       ·have HM:Hid (jaP (j+1+1) kid (j+1)=true):=HMJ.out _ hdj
        go_wp2_with fail
        refine (IH.out (j+1) hk' _ sk uk (HKID.out _ HBV.out).2).mono ?_
        rintro e w5 ⟨rfl,hb5⟩
        have HB5:Hid (Below W.heap.size W w5):=HBV.out.trans (hb5.mono HBV.out.size)
        clear hb5
        cases hpl:jaS (kid (j+1))
        ·have HE:Hid (res=false):=HBAD.out (by rw [HM.out,hpl];rfl)
         go_wp2_with fail
         go_ret
         exact ⟨by rw [HE.out];rfl,(KW.out w5 HB5.out).1⟩
        ·have HE:Hid (∀ i,i<j+1+1→(jaP (j+1+1) kid i&&jaS (kid i))=true):=HGO.out (by rw [HM.out,hpl];rfl)
         go_wp2_with fail
         go_roundw
         case rel=>first|exact ⟨j+1+1,by go_num,by omega,HE.out,HB5.out⟩|((repeat apply Exists.intro);exact ⟨⟨j+1+1,by go_num,by omega,HE.out,HB5.out⟩,rfl⟩)
         case measure=>simp [intOf];omega
       ·have HM:Hid (jaP (j+1+1) kid (j+1)=false):=HMJ.out _ hdj
        have HE:Hid (res=false):=HBAD.out (by rw [HM.out];rfl)
        go_wp2_with fail
        go_ret
        exact ⟨by rw [HE.out];rfl,(KW.out _ HBV.out).1⟩
     ·have HM:Hid (jaP len kid k=false):=by show _=_;rw [HKP.out,hdk,dqf hle];rfl
      have HBV:Hid (Below W.heap.size W w1):=HB1.out
      have t1:((k:Int)==(len:Int)-1)=false:=by rw [beq_eq_false_iff_ne];omega
      have t1':((k:Int) != (len:Int)-1)=true:=by simp only [bne,t1];rfl
      have HE:Hid (res=false):=HBAD.out (by rw [HM.out];rfl)
      go_wp2_with fail
      go_ret
      exact ⟨by rw [HE.out];rfl,(KW.out _ HBV.out).1⟩
   ·have hke:k=len:=by omega
    subst hke
    have HE:Hid (res=true):=by show _=_;rw [HRES.out];exact allX_true.2 HALL.out
    go_wp2_with fail
    go_ret
    exact ⟨by rw [HE.out];rfl,(KW.out wr HB.out).1⟩
theorem jcg (t:X) (w:World) (su u:Value) (hin:t.At 0 w su u) (hwt:t.weight≤1048576) :
  Calls Tryz.prog 83 #[.agg #[.int .i64 t.op,.int .i64 t.at_,.int .i64 t.n,.string t.s,su,u]] w fun e w'=>∃ v,e=.returned v∧Below w.heap.size w w'∧OwnS w' w.heap.size v (jaz t ([],false)).1:=by
 obtain ⟨p,cap,e1⟩:=hin.xs.shape
 obtain ⟨qs,cs,e2⟩:=hin.sets.shape
 subst e1 e2
 have hcw:=t.count_weight
 obtain ⟨W,hW⟩:∃ W,W=w.alloc (.cells #[.int .i64 t.op,.int .i64 t.at_,.int .i64 t.n,.string t.s,.slice qs t.set.length cs,.slice p t.len cap] 27):=⟨_,rfl⟩
 have nb:Below w.heap.size w W:=by rw [hW];exact newx w _
 have HCL:Hid (Calls Tryz.prog 54 #[.agg #[.int .i64 t.op,.int .i64 t.at_,.int .i64 t.n,.string t.s,.slice qs t.set.length cs,.slice p t.len cap],.slice (some ⟨W.heap.size,0,none⟩) 0 0,.bool false] (W.alloc (.cells #[] 9)) fun e w'=>∃ v',e=.returned (.tuple #[v',.bool (jaz t ([],false)).2])∧Below W.heap.size W w'∧OwnS w' W.heap.size v' (jaz t ([],false)).1∧NonStr (W.alloc (.cells #[] 9)) w') :=
  jgv t W _ _ _ _ [] false (hin.below nb) (newx W _) (World.ownsRow_lit W #[] 0 (nlr _) (nzl _) rfl) (by simp;omega)
 have HNB:Hid (Below w.heap.size w W):=nb
 have hsz:W.heap.size=w.heap.size+1:=by rw [hW];simp
 rw [hsz] at HCL
 clear hin hwt nb hcw
 go_enter Tryz.func83,Tryz.ntmps83
 go_wp2_with fail
 rw [←hW]
 clear hW
 refine HCL.out.mono ?_
 rintro e w2 ⟨v',rfl,hb2,ho2,-⟩
 have H2:Hid (Below w.heap.size w w2∧OwnS w2 w.heap.size v' (jaz t ([],false)).1):=⟨HNB.out.trans (hb2.mono (Nat.le_succ _)),ho2.mono (Nat.le_succ _)⟩
 clear hb2 ho2
 go_wp2_with fail
 go_ret
 exact ⟨_,rfl,H2.out⟩
theorem jfQ (t:X) (w:World) (su u:Value) (hin:t.At 0 w su u) (hwt:t.weight≤1048576) :
  Calls Tryz.prog 26 #[.agg #[.int .i64 t.op,.int .i64 t.at_,.int .i64 t.n,.string t.s,su,u]] w fun e w'=>e=.returned (.bool (jcd t))∧Below w.heap.size w w':=by
 obtain ⟨p,cap,e1⟩:=hin.xs.shape
 obtain ⟨qs,cs,e2⟩:=hin.sets.shape
 subst e1 e2
 have hcw:=t.count_weight
 obtain ⟨res,hres⟩:∃ r,r=jcd t:=⟨_,rfl⟩
 rw [←hres]
 have HRES:Hid (res=(jax t&&(!(jaz t ([],false)).2&&(!jan t&&jaS t)))):=hres
 obtain ⟨W,hW⟩:∃ W,W=w.alloc (.cells #[.int .i64 t.op,.int .i64 t.at_,.int .i64 t.n,.string t.s,.slice qs t.set.length cs,.slice p t.len cap] 27):=⟨_,rfl⟩
 obtain ⟨C,hC⟩:∃ C,C=w.heap.size:=⟨_,rfl⟩
 have nb:Below w.heap.size w W:=by rw [hW];exact newx w _
 have h6:Six W C t.op t.at_ t.n t.s (.slice qs t.set.length cs) (.slice p t.len cap) 27:=by rw [hW,hC];exact han w _
 have hsz:W.heap.size=w.heap.size+1:=by rw [hW];simp
 have KW:Hid (∀ wx,Below W.heap.size W wx→Below w.heap.size w wx∧Six wx C t.op t.at_ t.n t.s (.slice qs t.set.length cs) (.slice p t.len cap) 27∧t.At 0 wx (.slice qs t.set.length cs) (.slice p t.len cap)):=fun wx hx=>⟨nb.trans (hx.mono nb.size),h6.below hx,(hin.below nb).below hx⟩
 have HCL:Hid (Calls Tryz.prog 54 #[.agg #[.int .i64 t.op,.int .i64 t.at_,.int .i64 t.n,.string t.s,.slice qs t.set.length cs,.slice p t.len cap],.slice (some ⟨w.heap.size+1,0,none⟩) 0 0,.bool false] (W.alloc (.cells #[] 9)) fun e w'=>∃ v',e=.returned (.tuple #[v',.bool (jaz t ([],false)).2])∧Below W.heap.size W w'∧OwnS w' W.heap.size v' (jaz t ([],false)).1∧NonStr (W.alloc (.cells #[] 9)) w'):=by
  rw [←hsz]
  exact jgv t W _ _ _ _ [] false (hin.below nb) (newx W _) (World.ownsRow_lit W #[] 0 (nlr _) (nzl _) rfl) (by simp;omega)
 have HSO:Hid (∀ wx,Below W.heap.size W wx→Calls Tryz.prog 20 #[.agg #[.int .i64 t.op,.int .i64 t.at_,.int .i64 t.n,.string t.s,.slice qs t.set.length cs,.slice p t.len cap]] wx fun e w'=>e=.returned (.bool (jax t))∧Below wx.heap.size wx w'):=fun wx hx=>jdI t wx _ _ (KW.out wx hx).2.2 hwt
 have HPL:Hid (∀ wx,Below W.heap.size W wx→Calls Tryz.prog 56 #[.agg #[.int .i64 t.op,.int .i64 t.at_,.int .i64 t.n,.string t.s,.slice qs t.set.length cs,.slice p t.len cap]] wx fun e w'=>e=.returned (.bool (jaS t))∧Below wx.heap.size wx w'):=fun wx hx=>ji9 t wx _ _ (KW.out wx hx).2.2 hwt
 clear hin hwt nb hcw hres h6 hsz
 go_enter Tryz.func26,Tryz.ntmps26
 go_wp2_with fail
 rw [←hW]
 clear hW
 refine HCL.out.mono ?_
 rintro e w2 ⟨v',rfl,hb2,-,-⟩
 rw [←hC]
 clear hC HCL
 have H2:Hid (Below W.heap.size W w2):=hb2
 clear hb2
 obtain ⟨x0,x1,x2,x3,x4,x5⟩:=(KW.out w2 H2.out).2.1.cells
 go_wp2_with fail
 refine (HSO.out w2 H2.out).mono ?_
 rintro e w3 ⟨rfl,hb3⟩
 have H3:Hid (Below W.heap.size W w3):=H2.out.trans (hb3.mono H2.out.size)
 clear hb3 x0 x1 x2 x3 x4 x5 H2
 obtain ⟨x0,x1,x2,x3,x4,x5⟩:=(KW.out w3 H3.out).2.1.cells
 cases h1:jax t
 ·have HE:Hid (res=false):=by show _=_;rw [HRES.out,h1];rfl
  go_wp2_with fail
  go_ret
  exact ⟨by rw [HE.out];rfl,(KW.out w3 H3.out).1⟩
 cases h2:(jaz t ([],false)).2
 case true =>
  have HE:Hid (res=false):=by show _=_;rw [HRES.out,h1,h2];rfl
  go_wp2_with fail
  go_ret
  exact ⟨by rw [HE.out];rfl,(KW.out w3 H3.out).1⟩
 case false =>
 go_wp2_with fail
 refine (jbz t _ _ w3).mono ?_
 rintro e w4 ⟨rfl,hb4⟩
 have H4:Hid (Below W.heap.size W w4):=H3.out.trans (hb4.mono H3.out.size)
 clear hb4 x0 x1 x2 x3 x4 x5 H3
 obtain ⟨x0,x1,x2,x3,x4,x5⟩:=(KW.out w4 H4.out).2.1.cells
 cases h3:jan t
 case true =>
  have HE:Hid (res=false):=by show _=_;rw [HRES.out,h1,h2,h3];rfl
  go_wp2_with fail
  go_ret
  exact ⟨by rw [HE.out];rfl,(KW.out w4 H4.out).1⟩
 case false =>
 have HE:Hid (res=jaS t):=by show _=_;rw [HRES.out,h1,h2,h3];simp
 go_wp2_with fail
 refine (HPL.out w4 H4.out).mono ?_
 rintro e w5 ⟨rfl,hb5⟩
 have H5:Hid (Below W.heap.size W w5):=H4.out.trans (hb5.mono H4.out.size)
 clear hb5 x0 x1 x2 x3 x4 x5 H4
 go_wp2_with fail
 go_ret
 exact ⟨by rw [HE.out];rfl,(KW.out w5 H5.out).1⟩
def jpS (op:Int) (T:TypeId):Prop:=(op=1∧T=97)∨(op=2∧T=99)∨(op=3∧T=102)∨((op≠1∧op≠2∧op≠3)∧T=139)
theorem jiV (op a n:Int) (s:ByteArray) (sv v:Value) (w:World) :
  Calls Tryz.prog 50 #[.agg #[.int .i64 op,.int .i64 a,.int .i64 n,.string s,sv,v]] w fun e w'=>∃ T,e=.returned (.iface T (.agg #[.int .i64 op,.int .i64 a,.int .i64 n,.string s,sv,v]))∧Below w.heap.size w w'∧jpS op T:=by
 have HB:Hid (∀ o1,Below w.heap.size w (w.alloc o1)):=fun o1=>newx w _
 by_cases h1:op=1
 ·subst h1
  go_enter Tryz.func50,Tryz.ntmps50
  go_wp2_with fail
  go_ret
  exact ⟨_,rfl,HB.out _,.inl ⟨rfl,rfl⟩⟩
 by_cases h2:op=2
 ·subst h2
  go_enter Tryz.func50,Tryz.ntmps50
  go_wp2_with fail
  go_ret
  exact ⟨_,rfl,HB.out _,.inr (.inl ⟨rfl,rfl⟩)⟩
 by_cases h3:op=3
 ·subst h3
  go_enter Tryz.func50,Tryz.ntmps50
  go_wp2_with fail
  go_ret
  exact ⟨_,rfl,HB.out _,.inr (.inr (.inl ⟨rfl,rfl⟩))⟩
 ·have d1:(op==1)=false:=by simpa using h1
  have d2:(op==2)=false:=by simpa using h2
  have d3:(op==3)=false:=by simpa using h3
  have HO:Hid (op≠1∧op≠2∧op≠3):=⟨h1,h2,h3⟩
  clear h1 h2 h3
  go_enter Tryz.func50,Tryz.ntmps50
  go_wp2_with fail
  go_ret
  exact ⟨_,rfl,HB.out _,.inr (.inr (.inr ⟨HO.out,rfl⟩))⟩
theorem jec {P:Program} {t:TypeId} {fs:Array Field} (hu:P.underlying t=some (.struct fs)) (v:Value) (xT:TypeId) (w:World):(Instr.typeAssert (.iface t v) xT t true).run P w=.ok (.tuple #[v,.bool true]) w:=by
 simp [Instr.typeAssert,run_underlying hu,go_sem,Result.andThen]
theorem jfd {P:Program} {t ty:TypeId} {fs:Array Field} {z:Value} (hu:P.underlying t=some (.struct fs)) (hz:(P.info? t).map (·.zero)=some (some z)) (hne:ty≠t) (v:Value) (xT:TypeId) (w:World):(Instr.typeAssert (.iface ty v) xT t true).run P w=.ok (.tuple #[z,.bool false]) w:=by
 obtain ⟨j,hj,hz'⟩:=Option.map_eq_some_iff.1 hz
 simp [Instr.typeAssert,run_underlying hu,hne,zeroValue,typeInfo,hj,hz']
abbrev jpB:Value:=.agg #[.int .i64 0,.int .i64 0,.int .i64 0,.string ⟨#[]⟩,.slice none 0 0,.slice none 0 0]
theorem jkB (v:Value) (w:World):(Instr.typeAssert (.iface 97 v) 95 97 true).run Tryz.prog w=.ok (.tuple #[v,.bool true]) w:=jec Tryz.underlying97 v _ w
theorem jet {ty:TypeId} (hne:ty≠97) (v:Value) (w:World):(Instr.typeAssert (.iface ty v) 95 97 true).run Tryz.prog w=.ok (.tuple #[jpB,.bool false]) w:=jfd Tryz.underlying97 (by kernel_rfl) hne v _ w
theorem jgp (v:Value) (w:World):(Instr.typeAssert (.iface 99 v) 95 99 true).run Tryz.prog w=.ok (.tuple #[v,.bool true]) w:=jec Tryz.underlying99 v _ w
theorem jcs {ty:TypeId} (hne:ty≠99) (v:Value) (w:World):(Instr.typeAssert (.iface ty v) 95 99 true).run Tryz.prog w=.ok (.tuple #[jpB,.bool false]) w:=jfd Tryz.underlying99 (by kernel_rfl) hne v _ w
theorem jiF (v:Value) (w:World):(Instr.typeAssert (.iface 102 v) 95 102 true).run Tryz.prog w=.ok (.tuple #[v,.bool true]) w:=jec Tryz.underlying102 v _ w
theorem jiS {ty:TypeId} (hne:ty≠102) (v:Value) (w:World):(Instr.typeAssert (.iface ty v) 95 102 true).run Tryz.prog w=.ok (.tuple #[jpB,.bool false]) w:=jfd Tryz.underlying102 (by kernel_rfl) hne v _ w
theorem jhL (op a n:Int) (s:ByteArray) (sv v:Value) (w:World) :
  Calls Tryz.prog 141 #[.agg #[.int .i64 op,.int .i64 a,.int .i64 n,.string s,sv,v]] w fun e w'=>e=.returned (.int .i64 1)∧Below w.heap.size w w':=by
 go_enter Tryz.func141,Tryz.ntmps141
 go_wp2_with fail
 go_ret
 exact ⟨rfl,newx _ _⟩
theorem jhM (op a n:Int) (s:ByteArray) (sv v:Value) (w:World) :
  Calls Tryz.prog 142 #[.agg #[.int .i64 op,.int .i64 a,.int .i64 n,.string s,sv,v]] w fun e w'=>e=.returned (.int .i64 2)∧Below w.heap.size w w':=by
 go_enter Tryz.func142,Tryz.ntmps142
 go_wp2_with fail
 go_ret
 exact ⟨rfl,newx _ _⟩
theorem jg2 (op a n:Int) (s:ByteArray) (sv v:Value) (w:World) :
  Calls Tryz.prog 143 #[.agg #[.int .i64 op,.int .i64 a,.int .i64 n,.string s,sv,v]] w fun e w'=>e=.returned (.int .i64 3)∧Below w.heap.size w w':=by
 go_enter Tryz.func143,Tryz.ntmps143
 go_wp2_with fail
 go_ret
 exact ⟨rfl,newx _ _⟩
theorem jg3 (op a n:Int) (s:ByteArray) (sv v:Value) (w:World) :
  Calls Tryz.prog 156 #[.agg #[.int .i64 op,.int .i64 a,.int .i64 n,.string s,sv,v]] w fun e w'=>e=.returned (.int .i64 0)∧Below w.heap.size w w':=by
 go_enter Tryz.func156,Tryz.ntmps156
 go_wp2_with fail
 go_ret
 exact ⟨rfl,newx _ _⟩
theorem joM (op a n:Int) (s:ByteArray) (sv v:Value) (w:World) :
  Calls Tryz.prog 64 #[.agg #[.int .i64 op,.int .i64 a,.int .i64 n,.string s,sv,v]] w fun e w'=>e=.returned (.bool (decide (op=2)))∧Below w.heap.size w w':=by
 go_enter Tryz.func64,Tryz.ntmps64
 go_wp2_with fail
 refine (jiV op a n s sv v _).mono ?_
 rintro e w1 ⟨T,rfl,hb1,hT⟩
 have HB1:Hid (Below w.heap.size w w1):=(newx w _).trans (hb1.mono (by simp))
 clear hb1
 rcases hT with ⟨h,rfl⟩|⟨h,rfl⟩|⟨h,rfl⟩|⟨⟨h1,h2,h3⟩,rfl⟩
 ·have HR:Hid (decide (op=2)=false):=dqf (by omega)
  clear h
  go_wp2_with fail
  refine (jhL op a n s sv v _).mono ?_
  rintro e w2 ⟨rfl,hb2⟩
  have HB2:Hid (Below w.heap.size w w2):=HB1.out.trans (hb2.mono HB1.out.size)
  clear hb2
  go_wp2_with fail
  go_ret
  exact ⟨by rw [HR.out];rfl,HB2.out⟩
 ·have HR:Hid (decide (op=2)=true):=dqt h
  clear h
  go_wp2_with fail
  refine (jhM op a n s sv v _).mono ?_
  rintro e w2 ⟨rfl,hb2⟩
  have HB2:Hid (Below w.heap.size w w2):=HB1.out.trans (hb2.mono HB1.out.size)
  clear hb2
  go_wp2_with fail
  go_ret
  exact ⟨by rw [HR.out];rfl,HB2.out⟩
 ·have HR:Hid (decide (op=2)=false):=dqf (by omega)
  clear h
  go_wp2_with fail
  refine (jg2 op a n s sv v _).mono ?_
  rintro e w2 ⟨rfl,hb2⟩
  have HB2:Hid (Below w.heap.size w w2):=HB1.out.trans (hb2.mono HB1.out.size)
  clear hb2
  go_wp2_with fail
  go_ret
  exact ⟨by rw [HR.out];rfl,HB2.out⟩
 ·have HR:Hid (decide (op=2)=false):=dqf h2
  clear h1 h2 h3
  go_wp2_with fail
  refine (jg3 op a n s sv v _).mono ?_
  rintro e w2 ⟨rfl,hb2⟩
  have HB2:Hid (Below w.heap.size w w2):=HB1.out.trans (hb2.mono HB1.out.size)
  clear hb2
  go_wp2_with fail
  go_ret
  exact ⟨by rw [HR.out];rfl,HB2.out⟩
theorem jmk (op a n:Int) (s:ByteArray) (sv v:Value) (b:Bool) (hb:decide (op=2)=b) (w:World) :
  Calls Tryz.prog 64 #[.agg #[.int .i64 op,.int .i64 a,.int .i64 n,.string s,sv,v]] w fun e w'=>e=.returned (.bool b)∧Below w.heap.size w w':=by
 subst hb
 exact joM op a n s sv v w
theorem jjT (op a n:Int) (s:ByteArray) (sv v:Value) (w:World) :
  Calls Tryz.prog 24 #[.agg #[.int .i64 op,.int .i64 a,.int .i64 n,.string s,sv,v]] w fun e w'=>e=.returned v∧Below w.heap.size w w':=by
 go_enter Tryz.func24,Tryz.ntmps24
 go_wp2_with fail
 go_ret
 exact ⟨rfl,newx _ _⟩
end Go.Proofs.YtjmlfacbcfbhdaaGreatDoor
