/- Rows of data that are being built, each owned; a datum whose kids are appended. No conditions. -/
import Derived.Test.YtjmlfacbcfbhdaaGreatDoorYA
import Derived.Test.YtjmlfacbcfbhdaaGreatDoorY16
import Derived.Test.YtjmlfacbcfbhdaaGreatDoorY1
import Derived.Test.YtjmlfacbcfbhdaaGreatDoorY0
import Derived.Test.YtjmlfacbcfbhdaaGreatDoorRows
import Derived.BigQuiet
import Derived.Deep.QuietTactic
import Derived.WalkKit
import Derived.ProofKit
import Derived.Deep.AppendLies
set_option maxRecDepth 100000
set_option maxHeartbeats 8000000
namespace Go.Proofs.YtjmlfacbcfbhdaaGreatDoor
open Go.ChangeShapes Go.WideShapes Go.ChangeAt Go.RowKit
theorem jbz (t:X) (su u:Value) (w:World) :
  Calls Tryz.prog 55 #[.agg #[.int .i64 t.op,.int .i64 t.at_,.int .i64 t.n,.string t.s,su,u]] w fun e w'=>e=.returned (.bool (jan t))∧Below w.heap.size w w':=by
 have HD:Hid (jan t=((t.op==2)&&(t.s.toList == [46,46,46]))):=rfl
 generalize t.op=op at *
 generalize t.at_=a at *
 generalize t.n=n at *
 generalize t.s=s at *
 cases h1:(op==2)
 ·have HR:Hid (jan t=false):=by show _=_;rw [HD.out,h1];rfl
  go_enter Tryz.func55,Tryz.ntmps55
  go_wp2_with fail
  go_ret
  exact ⟨by rw [HR.out];rfl,newx w _⟩
 ·cases h2:(s.toList == [46,46,46])
  all_goals
   have HR:Hid (jan t=(s.toList == [46,46,46])):=by show _=_;rw [HD.out,h1];rfl
   go_enter Tryz.func55,Tryz.ntmps55
   go_wp2_with fail
   go_ret
   exact ⟨by rw [HR.out,h2];rfl,newx w _⟩
def NonStr (w w':World):Prop:=∀ (g:Nat) (o:Obj),w.heap[g]? = some o→(∀ cs m,o≠.cells cs 9 m)→w'.heap[g]? = some o
theorem NonStr.trans {w w1 w2:World} (h:NonStr w w1) (h2:NonStr w1 w2):NonStr w w2:=fun g o hg hn=>h2 g o (h g o hg hn) hn
theorem NonStr.below {w w':World} (hb:Below w.heap.size w w'):NonStr w w':=fun g _ hg _=>(hb.block g (aes.1 hg).1).trans hg
theorem NonStr.grown {w w':World} {B:Nat} {v:Value} {xs:List ByteArray} (ho:OwnS w B v xs) (hg:w.grownBy w' v.ownBlock):NonStr w w':=fun g o h hn=>by
 refine (hg.block g (aes.1 h).1 ?_).trans h
 intro e
 rcases ho.2 with ⟨rfl,_⟩|⟨g1,cap,cur,rfl,hbg,hgg,_⟩
 ·simp [Value.ownBlock] at e
 ·have e1:g1=g:=by simpa [Value.ownBlock] using e.symm
  subst e1
  rw [hgg] at h
  exact hn _ _ (Option.some.inj h).symm
theorem NonStr.six {w w':World} {g:Nat} {a b c:Int} {s:ByteArray} {u v:Value} (h:NonStr w w') (h6:Six w g a b c s u v 27):Six w' g a b c s u v 27:=h g _ h6 (fun cs m e=>by simp at e)
def jlG (t:X):Prop:=∀ (w0 w:World) (su u v:Value) (out:List ByteArray) (tw:Bool),t.At 0 w0 su u→Below w0.heap.size w0 w→OwnS w w0.heap.size v out→out.length+t.count≤4194304 →
 Calls Tryz.prog 54 #[.agg #[.int .i64 t.op,.int .i64 t.at_,.int .i64 t.n,.string t.s,su,u],v,.bool tw] w fun e w'=>∃ v',e=.returned (.tuple #[v',.bool (jaz t (out,tw)).2])∧Below w0.heap.size w0 w'∧OwnS w' w0.heap.size v' (jaz t (out,tw)).1∧NonStr w w'
theorem jm9 (kid:Nat→X) (out:List ByteArray×Bool) (k:Nat):(ja4 (fun i a=>jaz (kid i) a) k out).1.length≤out.1.length+sumX (fun i=>(kid i).count) k:=by
 induction k with
 | zero=>exact Nat.le_add_right _ _
 | succ k ih =>
  simp only [ja4,sumX]
  have:=jeq (kid k) (ja4 (fun i a=>jaz (kid i) a) k out)
  omega
theorem jgv (t:X):jlG t:=by
 induction t with
 | no=>intro w0 w su u v out tw h;exact h.elim
 | mk op a n s set len kid ih =>
  intro w0 w su u v out tw hin hbel hown hlen
  have hcn:(X.mk op a n s set len kid).count=1+sumX (fun i=>(kid i).count) len:=rfl
  obtain ⟨p,cap,e1,hl2,hat⟩:=hin.xs.at
  obtain ⟨qs,cs,e2⟩:=hin.sets.shape
  simp only [X.op,X.at_,X.n,X.s,X.len,X.set,X.kid] at e1 e2 hat hl2 ⊢
  have HAT:Hid (∀ i,i<len→∃ b o sv u,p=some ⟨b,o,none⟩∧Head6 w0 b (o+i*6) (kid i) sv u∧(kid i).At 0 w0 sv u):=hat
  have IH:Hid (∀ i,jlG (kid i)):=ih
  have HCN:Hid (out.length+(1+sumX (fun i=>(kid i).count) len)≤4194304):=by show _≤_;rw [←hcn];exact hlen
  have hlo:out.length<4194304:=by omega
  unfold maxLen at hl2
  subst e1 e2
  obtain ⟨res,hres⟩:∃ r,r=jaz (.mk op a n s set len kid) (out,tw):=⟨_,rfl⟩
  rw [←hres]
  have HRES:Hid (res=if jbl op s then addN s (out,tw) else ja4 (fun i a=>jaz (kid i) a) len (out,tw)):=by show _=_;rw [hres,jc4]
  have HNX:Hid (jbl op s=((op==2)&&(!(s.toList == [95]) && !(s.toList == [46,46,46])))):=rfl
  obtain ⟨i0,hi,hz0,hz1,hz2⟩:=info_parts jjc
  obtain ⟨W,hW⟩:∃ W,W=w.alloc (.cells #[.int .i64 op,.int .i64 a,.int .i64 n,.string s,.slice qs set.length cs,.slice p len cap] 27):=⟨_,rfl⟩
  obtain ⟨C,hC⟩:∃ C,C=w.heap.size:=⟨_,rfl⟩
  have HW:Hid (Below w0.heap.size w0 W∧OwnS W w0.heap.size v out∧Six W C op a n s (.slice qs set.length cs) (.slice p len cap) 27∧NonStr w W):=by
   rw [hW,hC]
   exact ⟨hbel.trans ((newx w _).mono hbel.size),hown.below (newx w _),han w _,NonStr.below (newx w _)⟩
  obtain ⟨av,acap,hvs,hvc⟩:=hown.rd
  subst hvs
  have HVC:Hid (∀ j,j<out.length→∃ b off,av=some ⟨b,off,none⟩∧w.cell? ⟨b,off+j,none⟩=some (.string (out.getD j ⟨#[]⟩))):=hvc
  have HWN:Hid (Below w.heap.size w W):=by rw [hW];exact newx w _
  clear hin hbel hown ih hat hlen hcn hres hvc
  generalize set.length=sl at *
  have hcases:(jbl op s=true∧(op==2)=true∧(s.toList == [95])=false∧(s.toList == [46,46,46])=false)∨(jbl op s=false∧((op==2)=false∨((op==2)=true∧(s.toList == [95])=true)∨((op==2)=true∧(s.toList == [95])=false∧(s.toList == [46,46,46])=true))):=by
   rw [HNX.out]
   cases h1:(op==2) <;> cases h2:(s.toList == [95]) <;> cases h3:(s.toList == [46,46,46]) <;> simp
  rcases hcases with ⟨hnm,g1,g2,g3⟩|⟨hnm,hrest⟩
  ·have HR:Hid (res=addN s (out,tw)):=by show _=_;rw [HRES.out,hnm];rfl
   clear HRES hnm HNX
   go_enter Tryz.func54,Tryz.ntmps54
   go_wp2_with fail
   rw [←hW,←hC]
   clear hW hC
   have KW:Hid (∀ wx,Below W.heap.size W wx→Below w0.heap.size w0 wx∧OwnS wx w0.heap.size (.slice av out.length acap) out∧Six wx C op a n s (.slice qs sl cs) (.slice p len cap) 27∧NonStr w wx):=fun wx hx=>⟨HW.out.1.trans (hx.mono HW.out.1.size),HW.out.2.1.below hx,HW.out.2.2.1.below hx,HW.out.2.2.2.trans (NonStr.below hx)⟩
   have HAC:Hid (∀ wx,Below W.heap.size W wx→∀ j,j<out.length→∃ b off,av=some ⟨b,off,none⟩∧wx.cell? ⟨b,off+j,none⟩=some (.string (out.getD j ⟨#[]⟩))):=fun wx hx j hj=>by
    obtain ⟨b,off,e,h⟩:=HVC.out j hj
    exact ⟨b,off,e,jat hx _ _ (jat HWN.out _ _ h)⟩
   have HML:Hid (∀ (o2:List ByteArray),o2=out→o2.length=out.length):=fun _ h=>by rw [h]
   have HIY:Hid (∀ k,k<out.length→((out.getD k ⟨#[]⟩).toList==s.toList)=true→res=(out,true)):=fun k hk h=>by
    rw [HR.out];unfold addN;rw [if_pos (jo4 k hk h)]
   have HIN:Hid ((∀ j,j<out.length→((out.getD j ⟨#[]⟩).toList==s.toList)=false)→res=(out++[s],tw)):=fun h=>by
    rw [HR.out];unfold addN;rw [if_neg (by rw [jpI h];simp)]
   clear HW HVC HML HR
   obtain ⟨m,hm⟩:∃ m,m=out.length:=⟨_,rfl⟩
   rw [←hm] at KW HAC HIY HIN hlo ⊢
   have HM:Hid (m=out.length):=hm
   clear hm
   go_loopw [8] (fun i wr=>∃ k:Nat,i=.int .i64 k∧k≤m∧(∀ j,j<k→((out.getD j ⟨#[]⟩).toList==s.toList)=false)∧Below W.heap.size W wr) (fun i _=>m-(intOf i).toNat)
   case atStart=>exact ⟨0,rfl,nzl _,fun j hj=>absurd hj (Nat.not_lt_zero _),brf _ _⟩
   case round =>
    obtain ⟨k,rfl,hk,hno,hbel⟩:=hrel
    have HB:Hid (Below W.heap.size W wr):=hbel
    have HNO:Hid (∀ j,j<k→((out.getD j ⟨#[]⟩).toList==s.toList)=false):=hno
    clear hno hbel
    obtain ⟨x0,x1,x2,x3,x4,x5⟩:=(KW.out wr HB.out).2.2.1.cells
    by_cases hlt:(k:Int)<m
    ·have hk':k<m:=by omega
     obtain ⟨b,off,ha,hcell⟩:=HAC.out wr HB.out k hk'
     subst ha
     have HY:Hid (((out.getD k ⟨#[]⟩).toList==s.toList)=true→res=(out,true)):=HIY.out k hk'
     have HN2:Hid (((out.getD k ⟨#[]⟩).toList==s.toList)=false→∀ j,j<k+1→((out.getD j ⟨#[]⟩).toList==s.toList)=false):=fun h j hj=>by
      by_cases hjk:j=k
      ·subst hjk;exact h
      ·exact HNO.out j (by omega)
     have HBD:Hid (∀ nq,Below W.heap.size W (wr.drewN nq)):=fun nq=>⟨HB.out.os,HB.out.tape,HB.out.output,HB.out.size,HB.out.block⟩
     generalize out.getD k ⟨#[]⟩=x at *
     cases he:(x.toList==s.toList)
     ·have HN3:Hid (∀ j,j<k+1→((out.getD j ⟨#[]⟩).toList==s.toList)=false):=HN2.out he
      go_wp2_with fail
      go_quiet (fail)
      go_wp2_with fail
      go_roundw
      case rel=>exact ⟨k+1,by go_num,by omega,HN3.out,HBD.out _⟩
      case measure=>simp [intOf];omega
     ·have HE:Hid (res=(out,true)):=HY.out he
      go_wp2_with fail
      go_quiet (fail)
      go_wp2_with fail
      go_ret2
      exact ⟨_,by rw [HE.out];rfl,(KW.out _ (HBD.out _)).1,by rw [HE.out];exact (KW.out _ (HBD.out _)).2.1,(KW.out _ (HBD.out _)).2.2.2⟩
    ·have hke:k=m:=by omega
     subst hke
     have HE:Hid (res=(out++[s],tw)):=HIN.out HNO.out
     have HOW:Hid (OwnS wr w0.heap.size (.slice av k acap) out∧Below w0.heap.size w0 wr∧NonStr w wr):=⟨(KW.out wr HB.out).2.1,(KW.out wr HB.out).1,(KW.out wr HB.out).2.2.2⟩
     have HSZ:Hid (w0.heap.size≤wr.heap.size):=HOW.out.2.1.size
     go_wp2_with (at_builtin;refine jaj _ rfl (.tmp 39) (.tmp 42) 64 rfl w0.heap.size 9 i0 (.string ⟨#[]⟩) 1 16 Tryz.underlying64 hi hz0 hz1 hz2 rfl (by decide) (.slice av k acap) out.length (out.map Value.string) rfl (World.ownsRow.alloc HOW.out.1 _) (some ⟨wr.heap.size,0,none⟩) 1 1 [.string s] rfl rfl (by simp) (jfK wr _ _) (by simp [Value.oneCell']) (by unfold maxLen;rw [←HM.out];omega) (by rw [←HM.out];omega) (by have:=HSZ.out;simp;omega) ?_;intro v' w2 hown2 hg2)
     have R:=jmH HOW.out.1 HOW.out.2.1 HSZ.out hown2.out hg2.out
     have nb:Below wr.heap.size wr (wr.alloc (.cells #[.string s] 9)):=newx wr _
     have HR2:Hid (OwnS w2 w0.heap.size v' (out++[s])∧Below w0.heap.size w0 w2∧NonStr w w2):=⟨R.1,R.2,HOW.out.2.2.trans ((NonStr.below nb).trans (NonStr.grown (HOW.out.1.below nb) hg2.out))⟩
     clear R nb hown2 hg2
     go_wp2_with fail
     go_ret2
     exact ⟨_,by rw [HE.out];rfl,HR2.out.2.1,by rw [HE.out];exact HR2.out.1,HR2.out.2.2⟩
  ·have HR:Hid (res=ja4 (fun i a=>jaz (kid i) a) len (out,tw)):=by show _=_;rw [HRES.out,hnm];rfl
   clear HRES hnm HNX
   rcases hrest with g1|⟨g1,g2⟩|⟨g1,g2,g3⟩
   all_goals
    go_enter Tryz.func54,Tryz.ntmps54
    go_wp2_with fail
    rw [←hW,←hC]
    clear hW hC
    go_loopw [1,2,9] (fun r q i wr=>∃ (k:Nat) (r0:Value) (o:List ByteArray×Bool),r0=r∧i=.int .i64 k∧k≤len∧o=ja4 (fun i a=>jaz (kid i) a) k (out,tw)∧q=.bool o.2∧OwnS wr w0.heap.size r0 o.1∧Below w0.heap.size w0 wr∧Six wr C op a n s (.slice qs sl cs) (.slice p len cap) 27∧NonStr w wr) (fun _ _ i _=>len-(intOf i).toNat)
    case atStart=>exact ⟨0,_,(out,tw),rfl,rfl,nzl _,rfl,rfl,HW.out.2.1,HW.out.1,HW.out.2.2.1,HW.out.2.2.2⟩
    case round =>
     obtain ⟨k,r0,o,rfl,rfl,hk,ho,rfl,hown,hbel,hsix,hns⟩:=hrel
     have HK:Hid (OwnS wr w0.heap.size r0 o.1∧Below w0.heap.size w0 wr∧Six wr C op a n s (.slice qs sl cs) (.slice p len cap) 27∧NonStr w wr∧o=ja4 (fun i a=>jaz (kid i) a) k (out,tw)):=⟨hown,hbel,hsix,hns,ho⟩
     have c5:=hsix.cells.2.2.2.2.2
     clear hown hbel hsix hns ho HW
     by_cases hlt:(k:Int)<len
     ·have hk':k<len:=by omega
      obtain ⟨b,ob,sk,uk,hp,hd,hink⟩:=HAT.out k hk'
      subst hp
      obtain ⟨d0,d1,d2,d3,d4,d5⟩:=hd.below HK.out.2.1
      have HCL:Hid (Calls Tryz.prog 54 #[.agg #[.int .i64 (kid k).op,.int .i64 (kid k).at_,.int .i64 (kid k).n,.string (kid k).s,sk,uk],r0,.bool o.2] wr fun e w'=>∃ v',e=.returned (.tuple #[v',.bool (jaz (kid k) o).2])∧Below w0.heap.size w0 w'∧OwnS w' w0.heap.size v' (jaz (kid k) o).1∧NonStr wr w'):=by
       have hle:=jm9 kid (out,tw) k
       rw [←HK.out.2.2.2.2] at hle
       have h2:=jbo (fun i=>(kid i).count) k len hk'
       have h3:=HCN.out
       exact IH.out k w0 wr sk uk r0 o.1 o.2 hink HK.out.2.1 HK.out.1 (by simp only at hle;omega)
      clear hd hink
      go_wp2_with fail
      refine HCL.out.mono ?_
      rintro e w2 ⟨v',rfl,hb2,ho2,hn2⟩
      have HN:Hid (OwnS w2 w0.heap.size v' (jaz (kid k) o).1∧Below w0.heap.size w0 w2∧Six w2 C op a n s (.slice qs sl cs) (.slice (some ⟨b,ob,none⟩) len cap) 27∧NonStr w w2):=⟨ho2,hb2,hn2.six HK.out.2.2.1,HK.out.2.2.2.1.trans hn2⟩
      have HOE:Hid (jaz (kid k) o=ja4 (fun i a=>jaz (kid i) a) (k+1) (out,tw)):=by show _=_;simp only [ja4];rw [←HK.out.2.2.2.2]
      clear hb2 ho2 hn2 HCL d0 d1 d2 d3 d4 d5 c5
      go_wp2_with fail
      go_roundw
      case rel=>exact ⟨k+1,_,jaz (kid k) o,rfl,by go_num,by omega,HOE.out,rfl,HN.out⟩
      case measure=>simp [intOf];omega
     ·have hke:k=len:=by omega
      subst hke
      have HE:Hid (res=o):=by show _=_;rw [HR.out,←HK.out.2.2.2.2]
      go_wp2_with fail
      go_ret2
      exact ⟨_,by rw [HE.out];rfl,HK.out.2.1,by rw [HE.out];exact HK.out.1,HK.out.2.2.2.1⟩
def X.Nice:X→Prop
 | .no=>True
 | .mk _ _ _ s set len kid=>(s.size≤1048576∧set.length≤1048576)∧len≤1073741824∧∀ i,i<len→(kid i).Nice
def jlH (len:Nat) (kid:Nat→X):Prop:=∀ i,i<len→(kid i).Nice
theorem X.Nice.parts {t:X} (h:t.Nice):t.s.size≤1048576∧jlH t.len t.kid∧t.set.length≤1048576:=by
 cases t with
 | no=>exact ⟨nzl _,fun i hi=>absurd hi (Nat.not_lt_zero _),nzl _⟩
 | mk op a n s set len kid=>exact ⟨h.1.1,h.2.2,h.1.2⟩
theorem X.nice_weight (t:X):t.weight≤1048576→t.Nice:=by
 induction t with
 | no=>intro _;exact trivial
 | mk op a n s set len kid ih =>
  intro h
  have hwe:(X.mk op a n s set len kid).weight=s.size+(set.length+(len+sumX (fun i=>(kid i).weight) len)):=rfl
  refine ⟨⟨by omega,by omega⟩,by omega,fun i hi=>ih i ?_⟩
  have h1:=jbo (fun i=>(kid i).weight) i len hi
  omega
theorem jnG:(Tryz.prog.info? 72).map (fun i=>(i.zero,i.size,i.bytes))=some (some (.agg #[.int .i64 0,.int .i64 0,.int .i64 0,.string ⟨#[]⟩,.slice none 0 0]),5,64):=by kernel_rfl
structure DAcc (B:Nat) (w:World) (kid:Nat→D) (l:List (D×Value)) (SS:List (List Nat)):Prop where
 len:SS.length=l.length
 ks:Ks kid l
 each:∀ i,i<l.length→∃ u T,l[i]? = some (kid i,u)∧SS[i]? = some T∧DOwn w (kid i) u T
 nd:SS.flatten.Nodup
 ge:∀ x∈SS.flatten,B≤x
theorem DAcc.nil (B:Nat) (w:World) (kid:Nat→D):DAcc B w kid [] []:=⟨rfl,Ks.nil _,fun i hi=>by simp at hi,by simp,by simp⟩
theorem DAcc.lt {B:Nat} {w:World} {kid:Nat→D} {l:List (D×Value)} {SS:List (List Nat)} (h:DAcc B w kid l SS):∀ x∈SS.flatten,x<w.heap.size:=by
 intro x hx
 obtain ⟨T,hT,hxT⟩:=List.mem_flatten.1 hx
 obtain ⟨i,hi,rfl⟩:=List.mem_iff_getElem.1 hT
 obtain ⟨u,T',k1,k2,k3⟩:=h.each i (by rw [←h.len];exact hi)
 rw [lgg hi] at k2
 injection k2 with k2
 exact k3.there _ x (by rw [←k2];exact hxT)
theorem DAcc.same {B:Nat} {w w':World} {kid:Nat→D} {l:List (D×Value)} {SS:List (List Nat)} (h:DAcc B w kid l SS) (hs:∀ x,B≤x→x<w.heap.size→w'.heap[x]? = w.heap[x]?):DAcc B w' kid l SS :=
 ⟨h.len,h.ks,fun i hi=>by
  obtain ⟨u,T,k1,k2,k3⟩:=h.each i hi
  exact ⟨u,T,k1,k2,k3.same _ (fun x hx=>hs x (h.ge x (jaQ k2 hx)) (h.lt x (jaQ k2 hx)))⟩,h.nd,h.ge⟩
theorem DAcc.snoc {B:Nat} {w:World} {kid:Nat→D} {l:List (D×Value)} {SS:List (List Nat)} (h:DAcc B w kid l SS) {u:Value} {T:List Nat} (hv:DOwn w (kid l.length) u T) (hn:T.Nodup) (hge:∀ x∈T,B≤x) (hd:∀ x∈T,x ∉ SS.flatten):DAcc B w kid (l++[(kid l.length,u)]) (SS++[T]):=by
 refine ⟨by simp [h.len],h.ks.snoc u,fun i hi=>?_,?_,?_⟩
 ·rcases Nat.lt_or_ge i l.length with h1|h1
  ·obtain ⟨u',T',k1,k2,k3⟩:=h.each i h1
   exact ⟨u',T',by rw [List.getElem?_append_left h1];exact k1,by rw [List.getElem?_append_left (by rw [h.len];exact h1)];exact k2,k3⟩
  ·have hi':i=l.length:=by simp at hi;omega
   subst hi'
   exact ⟨u,T,by simp,by rw [←h.len];simp,hv⟩
 ·rw [List.flatten_append]
  simp only [List.flatten_cons,List.flatten_nil,List.append_nil]
  exact List.nodup_append.2 ⟨h.nd,hn,fun a ha b hb e=>hd b hb (e ▸ ha)⟩
 ·intro x hx
  rw [List.flatten_append] at hx
  simp only [List.flatten_cons,List.flatten_nil,List.append_nil] at hx
  rcases lma.1 hx with hx|hx
  ·exact h.ge x hx
  ·exact hge x hx
structure DBuild (B:Nat) (w:World) (kid:Nat→D) (k:Nat) (lv:Value) (la:List (D×Value)) (SS:List (List Nat)):Prop where
 own:w.ownsRow 0 72 5 lv k (jaF la)
 num:la.length=k
 rows:DAcc B w kid la SS
 out:∀ g,lv.ownBlock=some g→g ∉ SS.flatten∧B≤g
theorem DBuild.nil (B:Nat) (w:World) (kid:Nat→D):DBuild B w kid 0 (.slice none 0 0) [] [] :=
 ⟨⟨rfl,.inl ⟨rfl,rfl⟩⟩,rfl,DAcc.nil _ _ _,fun g h=>by simp [Value.ownBlock] at h⟩
theorem DBuild.same {B:Nat} {w w':World} {kid:Nat→D} {k:Nat} {lv:Value} {la:List (D×Value)} {SS:List (List Nat)} (h:DBuild B w kid k lv la SS) (hs:∀ x,B≤x→x<w.heap.size→w'.heap[x]? = w.heap[x]?):DBuild B w' kid k lv la SS :=
 ⟨jdl h.own (fun g hg=>hs g (h.out g hg).2 (h.own.lt g hg).2),h.num,h.rows.same hs,h.out⟩
theorem DBuild.app {B:Nat} {w w3:World} {kid:Nat→D} {k:Nat} {lv v:Value} {la:List (D×Value)} {SS:List (List Nat)} {T:List Nat} {o:Obj} {g cap:Nat} (h:DBuild B w kid k lv la SS) (hd:DOwn w (kid k) v T) (hT:T.Nodup) (hTS:∀ x∈T,x ∉ SS.flatten) (hTl:∀ x∈T,lv.ownBlock≠some x) (hTB:∀ x∈T,B≤x) (hB:B≤w.heap.size)
  (hown:w3.ownsRow 0 72 5 (.slice (some ⟨g,0,none⟩) (k+1) cap) (k+1) (jaF la++jaW (kid k,v))) (hg:(w.alloc o).grownBy w3 lv.ownBlock) (hat:lv.ownBlock=some g∨g=w.heap.size+1) :
  DBuild B w3 kid (k+1) (.slice (some ⟨g,0,none⟩) (k+1) cap) (la++[(kid k,v)]) (SS++[T]):=by
 have hlt:=h.rows.lt
 have hTt:=hd.there
 have hsz:(w.alloc o).heap.size=w.heap.size+1:=by simp
 have keep:∀ x,x<w.heap.size→lv.ownBlock≠some x→w3.heap[x]? = w.heap[x]? := fun x hx hne =>
  (hg.block x (by omega) (fun e=>hne e.symm)).trans (bha w o x hx)
 have hfl:(SS++[T]).flatten=SS.flatten++T:=by simp
 have hd':DOwn w (kid la.length) v T:=by rw [h.num];exact hd
 have a1:=h.rows.snoc hd' hT hTB hTS
 rw [h.num] at a1
 refine ⟨by rw [jb6];exact hown,by simp [h.num],⟨a1.len,a1.ks,fun i hi=>?_,a1.nd,a1.ge⟩,?_⟩
 ·obtain ⟨u',T',k1,k2,k3⟩:=a1.each i hi
  refine ⟨u',T',k1,k2,k3.same _ (fun x hx=>keep x (k3.there _ x hx) (fun e=>?_))⟩
  have hx':=jaQ k2 hx
  rw [hfl,lma] at hx'
  exact hx'.elim (h.out x e).1 (fun hx=>hTl x hx e)
 ·intro x hx
  simp only [Value.ownBlock,Option.some.injEq] at hx
  subst hx
  rw [hfl,lma]
  rcases hat with hat|hat
  ·exact ⟨fun hx=>hx.elim (h.out g hat).1 (fun hx=>hTl g hx hat),(h.out g hat).2⟩
  ·refine ⟨fun hx=>?_,by omega⟩
   rcases hx with hx|hx
   ·have:=hlt g hx;omega
   ·have:=hTt g hx;omega
theorem DBuild.xsown {B:Nat} {w:World} {kid:Nat→D} {k:Nat} {lv:Value} {la:List (D×Value)} {SS:List (List Nat)} (h:DBuild B w kid k lv la SS):∃ S,SOwn w k kid lv S∧S.Nodup∧∀ x∈S,B≤x:=by
 rcases h.own.2 with ⟨h1,h2⟩|⟨g,cap,cur,h1,hb,hg,hc,hm,hs,ht⟩
 ·exact ⟨[],.inl ⟨h2,h1,rfl⟩,by simp,fun x hx=>by simp at hx⟩
 ·subst h1
  refine ⟨g::SS.flatten,.inr ⟨g,cap,la,SS,rfl,h.own,h.num,by rw [h.rows.len];exact h.num,h.rows.ks,rfl,fun i hi=>h.rows.each i (by rw [h.num];exact hi)⟩,List.nodup_cons.2 ⟨(h.out g rfl).1,h.rows.nd⟩,fun x hx=>?_⟩
  rcases List.mem_cons.1 hx with rfl|hx
  ·exact (h.out x rfl).2
  ·exact h.rows.ge x hx
structure DLoop (w wr:World) (B C R O:Nat) (oA:Obj) (op a n:Int) (s:ByteArray) (kid:Nat→D) (k:Nat) (lv:Value) (la:List (D×Value)) (SS:List (List Nat)):Prop where
 bel:Fr [] w wr
 size:B≤wr.heap.size
 ord:w.heap.size≤C∧w.heap.size≤R∧w.heap.size≤O∧C<B∧R<B∧O<B∧C≠O∧R≠O
 arg:wr.heap[C]? = some oA
 res:Five wr R 0 0 0 ⟨#[]⟩ (.slice none 0 0) 72
 out:Five wr O op a n s lv 72
 rows:DBuild B wr kid k lv la SS
theorem DLoop.next {w wr w1 w3:World} {B C R O:Nat} {oA:Obj} {op a n:Int} {s:ByteArray} {kid:Nat→D} {k:Nat} {lv:Value} {la:List (D×Value)} {SS:List (List Nat)}
  (hL:DLoop w wr B C R O oA op a n s kid k lv la SS) {v':Value} {T:List Nat} (hb:Fr [] wr w1) (hd:DOwn w1 (kid k) v' T) (hn:T.Nodup) (hT:∀ x∈T,wr.heap.size≤x) {o:Obj} {g cap:Nat}
  (hown:w3.ownsRow 0 72 5 (.slice (some ⟨g,0,none⟩) (k+1) cap) (k+1) (jaF la++jaW (kid k,v'))) (hg:(w1.alloc o).grownBy w3 lv.ownBlock) (hat:lv.ownBlock=some g∨g=w1.heap.size+1) :
  (w3.heap[O]? = wr.heap[O]?)∧DLoop w (w3.setCell ⟨O,4,none⟩ (.slice (some ⟨g,0,none⟩) (k+1) cap)) B C R O oA op a n s kid (k+1) (.slice (some ⟨g,0,none⟩) (k+1) cap) (la++[(kid k,v')]) (SS++[T]):=by
 obtain ⟨o1,o2,o3,o4,o5,o6,o7,o8⟩:=hL.ord
 have hs:=hL.size
 have hbs:=hb.size
 have hcs:∀ x:Nat,x ∉ ([]:List Nat):=fun x=>by simp
 have hws:=hL.bel.size
 have hA1:DBuild B w1 kid k lv la SS:=hL.rows.same (fun x hx hx'=>hb.block x hx' (hcs x))
 have hlt:=hL.rows.rows.lt
 have hlv:∀ x,lv.ownBlock=some x→B≤x∧x<wr.heap.size:=fun x hx=>⟨(hL.rows.out x hx).2,(hL.rows.own.lt x hx).2⟩
 have hA3:=hA1.app (o:=o) (g:=g) (cap:=cap) hd hn (fun x hx hx'=>by have:=hT x hx;have:=hlt x hx';omega) (fun x hx e=>by have:=hT x hx;have:=(hlv x e).2;omega) (fun x hx=>by have:=hT x hx;omega) (by omega) hown hg hat
 have hs1:(w1.alloc o).heap.size=w1.heap.size+1:=by simp
 have low:∀ x,x<B→w3.heap[x]? = wr.heap[x]? := fun x hx =>
  (hg.block x (by omega) (fun e=>by have:=(hlv x e.symm).1;omega)).trans ((bha w1 o x (by omega)).trans (hb.block x (by omega) (hcs x)))
 have hset:∀ x,x≠O→(w3.setCell ⟨O,4,none⟩ (.slice (some ⟨g,0,none⟩) (k+1) cap)).heap[x]? = w3.heap[x]? := fun x hx=>bhs w3 ⟨O,4,none⟩ _ x hx
 have hgs:=hg.size
 have hO3:=low O o6
 have e:(w3.setCell ⟨O,4,none⟩ (.slice (some ⟨g,0,none⟩) (k+1) cap)).heap.size=w3.heap.size:=by simp
 have hfr:Fr [] w w3:=⟨hg.os.trans (hb.os.trans hL.bel.os),hg.tape.trans (hb.tape.trans hL.bel.tape),hg.output.trans (hb.output.trans hL.bel.output),by omega,fun x hx hc=>(low x (by omega)).trans (hL.bel.block x hx hc)⟩
 refine ⟨hO3,hfr.setCell _ _ (by exact o3),by omega,hL.ord,(hset C o7).trans ((low C o4).trans hL.arg),(hset R o8).trans ((low R o5).trans hL.res),?_,hA3.same (fun x hx _=>hset x (by omega))⟩
 have h1:Five w3 O op a n s lv 72:=hO3.trans hL.out
 exact heap_setCell_same w3 O 4 _ _ _ h1
theorem DLoop.done {w wr:World} {B C R O:Nat} {oA:Obj} {op a n:Int} {s:ByteArray} {kid:Nat→D} {k:Nat} {lv:Value} {la:List (D×Value)} {SS:List (List Nat)}
  (hL:DLoop w wr B C R O oA op a n s kid k lv la SS) (hp:s.size≤maxLen∧(-9223372036854775808≤n∧n≤9223372036854775807)) :
  Fr [] w (put5 wr R op a n s lv)∧∃ S,DOwn (put5 wr R op a n s lv) (.mk op a n s k kid) lv S∧S.Nodup∧∀ x∈S,w.heap.size≤x:=by
 obtain ⟨o1,o2,o3,o4,o5,o6,o7,o8⟩:=hL.ord
 have hoth:=jk3 wr R op a n s lv
 obtain ⟨S,h1,h2,h3⟩:=hL.rows.xsown
 refine ⟨((((hL.bel.setCell _ _ (by exact o2)).setCell _ _ (by exact o2)).setCell _ _ (by exact o2)).setCell _ _ (by exact o2)).setCell _ _ (by exact o2),S,⟨hp,h1.same (fun x hx=>hoth x (by have:=h3 x hx;omega))⟩,h2,fun x hx=>by have:=h3 x hx;omega⟩
theorem jlS (w:World) (oA:Obj) (op a n:Int) (s:ByteArray) (kid:Nat→D) :
  DLoop w (((w.alloc oA).alloc (.cells #[.int .i64 0,.int .i64 0,.int .i64 0,.string ⟨#[]⟩,.slice none 0 0] 72)).alloc (.cells #[.int .i64 op,.int .i64 a,.int .i64 n,.string s,.slice none 0 0] 72)) (w.heap.size+3) w.heap.size (w.heap.size+1) (w.heap.size+1+1) oA op a n s kid 0 (.slice none 0 0) [] []:=by
 obtain ⟨h1,h2,h3,h4,h5⟩:=jjV (brf (((w.alloc oA).alloc (.cells #[.int .i64 0,.int .i64 0,.int .i64 0,.string ⟨#[]⟩,.slice none 0 0] 72)).alloc (.cells #[.int .i64 op,.int .i64 a,.int .i64 n,.string s,.slice none 0 0] 72)).heap.size _)
 exact ⟨Fr.below h5 _,h4,⟨by omega,by omega,by omega,by omega,by omega,by omega,by omega,by omega⟩,h1,h2,h3,DBuild.nil _ _ _⟩
end Go.Proofs.YtjmlfacbcfbhdaaGreatDoor
