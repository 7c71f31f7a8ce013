/- Two lists of ints held against each other, one by one: spec.SameSet, laws.sameInts, laws.eqIntS, slices.Equal. Condition: at most 2^22 of them. -/
import Derived.Test.YtjmlfacbcfbhdaaGreatDoorYA
import Derived.Test.YtjmlfacbcfbhdaaGreatDoorRows
import Derived.Test.YtjmlfacbcfbhdaaGreatDoorY20
import Derived.Test.YtjmlfacbcfbhdaaGreatDoorY19
import Derived.Test.YtjmlfacbcfbhdaaGreatDoorY0
import Derived.WalkKit
import Derived.ProofKit
import Derived.OwnWalk
import Derived.Laws.OwnMore
import Derived.Laws.ResultCell
import Derived.Sort.LoopGhostIn
import Derived.Maps.OwnIn
import Derived.StringKeys
import Derived.Deep.QuietTactic
import Derived.BigQuiet
import Derived.WalkSpells
import Derived.WalkSmall
set_option maxRecDepth 100000
set_option maxHeartbeats 8000000
namespace Go.Proofs.YtjmlfacbcfbhdaaGreatDoor
open Go.ChangeShapes Go.WideShapes Go.ChangeAt Go.RowKit
theorem jiU {w:World} {base e size g n m cap:Nat} {xs ys:List Value} (h:w.ownsRow base e size (.slice (some ⟨g,0,none⟩) m cap) m (xs++ys)) (hx:xs.length=n*size) (hm:n≤m) :
  w.ownsRow base e size (.slice (some ⟨g,0,none⟩) n cap) n xs:=by
 refine ⟨hx,?_⟩
 rcases h.2 with ⟨h0,_⟩|⟨g',cap',cur,he,hbg,hgg,hc,hmx,hs,ht⟩
 ·cases h0
 ·injection he with h1 h2 h3
  injection h1 with h1
  injection h1 with h1
  subst h1 h3
  refine .inr ⟨_,_,cur,rfl,hbg,hgg,by omega,hmx,hs,?_⟩
  have h9:=congrArg (List.take (n*size)) ht
  rw [List.take_take,Nat.min_eq_left (Nat.mul_le_mul_right _ hm),List.take_append_of_le_length (by omega)] at h9
  rw [h9,List.take_of_length_le (by omega)]
theorem je3 {w:World} {base e size g n cap:Nat} {xs:List Value} (h:w.ownsRow base e size (.slice (some ⟨g,0,none⟩) n cap) n xs):n≤cap∧cap≤maxLen∧base≤g∧g<w.heap.size:=by
 rcases h.2 with ⟨h0,_⟩|⟨g',cap',cur,he,hbg,hgg,hc,hmx,hs,ht⟩
 ·cases h0
 ·injection he with h1 h2 h3
  injection h1 with h1
  injection h1 with h1
  subst h1 h3
  exact ⟨hc,hmx,hbg,(aes.1 hgg).1⟩
theorem jmG {w:World} {base e size cap g n:Nat} {cs:Array Value} {xs:List Value} (hcs:cs.toList=xs) (hg:w.heap.size=g) (hb:base≤g) (hl:xs.length=n*size) (hc:n=cap) (hm:cap≤maxLen) :
  (w.alloc (.cells cs e)).ownsRow base e size (.slice (some ⟨g,0,none⟩) n cap) n xs:=by
 subst hc hg hcs
 exact ⟨hl,.inr ⟨w.heap.size,n,cs,rfl,hb,han w _,nlr _,hm,by simpa using hl,by rw [←hl];exact List.take_length⟩⟩
end Go.Proofs.YtjmlfacbcfbhdaaGreatDoor
namespace Go.Proofs.YtjmlfacbcfbhdaaGreatDoor
open Go.ChangeShapes Go.WideShapes Go.ChangeAt Go.RowKit Go.Shelf
attribute [local go_sem] Oper.semAt_some
theorem jmy (t:X) (p1 p2:Option Addr) (n1 n2 c1 c2:Nat) (w:World):Calls Tryz.prog 110 #[.agg #[.int .i64 t.op,.int .i64 t.at_,.int .i64 t.n,.string t.s,.slice p1 n1 c1,.slice p2 n2 c2]] w fun e w'=>e=.returned (.func (.func 117) #[] #[.pointer (some ⟨w.heap.size,0,none⟩)])∧w'=w.alloc (.cells #[.int .i64 t.op,.int .i64 t.at_,.int .i64 t.n,.string t.s,.slice p1 n1 c1,.slice p2 n2 c2] 27):=by
 go_enter Tryz.func110,Tryz.ntmps110
 go_wp2_with fail
 go_ret
 exact ⟨rfl,rfl⟩
def joR (X:Nat→Prop) (W W':World):Prop:=W.heap.size≤W'.heap.size∧∀ k,X k→k<W.heap.size→W'.heap[k]? = W.heap[k]?
abbrev Inv (α:Type):Type:=List α→World→(Nat→Prop)→Prop
def Inv.Stable {α:Type} (J:Inv α):Prop:=∀ pre A B X X',J pre A X→But X A B→(∀ k,X' k→X k∨(A.heap.size≤k∧k<B.heap.size))→J pre B X'
theorem jkT (l Bp:Nat) (t:X) (su u:Value) (w0:World) (hin:t.At 0 w0 su u) (hc:t.count≤2097152) (J:Inv (ByteArray×Int)) (Jx:List (ByteArray×Int)→World→Prop)
  (hJs:J.Stable) (hJb:∀ pre A X,J pre A X→Below w0.heap.size w0 A)
  (hY:∀ pre x W X,J pre W X→x.1.size≤maxLen→(pre++[x]) <+: jab t 0→YieldAt Fence.wide 0 Tryz.prog l #[.string x.1,.int .i64 x.2] W fun e W'=>(e=.returned (.bool true)∧J (pre++[x]) W' X∧joR X W W')∨(e=.returned (.bool false)∧Jx (pre++[x]) W'))
  (W:World) (hBp:Six W Bp t.op t.at_ t.n t.s su u 27) (h0:J [] W (fun _=>False)) :
  Calls Tryz.prog 117 #[.func (.yield l) #[] #[],.pointer (some ⟨Bp,0,none⟩)] W fun e W'=>(∃ v,e=.returned v)∧((∃ X,J (jab t 0) W' X)∨(∃ pre,pre <+: jab t 0∧Jx pre W')):=by
 have HJS:Hid J.Stable:=hJs
 have HJB:Hid (∀ pre A X,J pre A X→Below w0.heap.size w0 A):=hJb
 have HY:Hid (∀ pre x W X,J pre W X→x.1.size≤maxLen→(pre++[x]) <+: jab t 0→YieldAt Fence.wide 0 Tryz.prog l #[.string x.1,.int .i64 x.2] W fun e W'=>(e=.returned (.bool true)∧J (pre++[x]) W' X∧joR X W W')∨(e=.returned (.bool false)∧Jx (pre++[x]) W')):=hY
 have HH0:Hid (J [] W (fun _=>False)):=h0
 have HIN:Hid (t.At 0 w0 su u):=hin
 obtain ⟨p2,c2,e2⟩:=hin.xs.shape
 obtain ⟨p1,c1,e1⟩:=hin.sets.shape
 clear hJs hJb hY h0 hin
 subst e1 e2
 obtain ⟨b0,b1,b2,b3,b4,b5⟩:=hBp.cells
 have HC:Hid (t.count≤2097152):=hc
 obtain ⟨n0,hn0⟩:∃ n0,n0=t.count:=⟨_,rfl⟩
 have HN0:Hid (n0=t.count):=hn0
 clear hn0 hc hBp
 refine callsIn_wide (n:=0).1 ?_
 refine callsIn_of_wp Tryz.func117 rfl trivial ?_ rfl
 simp only [Tryz.ntmps117,List.size_toArray,List.length_cons,List.length_nil,Nat.reduceAdd,Nat.reduceSub,Array.replicate_succ,Array.replicate_zero,List.push_toArray,List.append_toArray,List.nil_append,List.cons_append]
 gi_wp2
 clear b0 b1 b2 b3 b4 b5
 gi_loopg [3] n0 (fun k lv wr=>∃ (pre:List (ByteArray×Int)) (L:List DR) (pv:Option Addr) (cap:Nat) (X:Nat→Prop),jbA L=k∧k≤2097152∧lv=.slice pv L.length cap∧OwnD wr w0.heap.size (.slice pv L.length cap) L∧GoodD w0 2097152 L∧J pre wr X∧(∀ g,(Value.slice pv L.length cap).ownBlock=some g→X g)∧pre++jcR L=jab t 0)
 case atStart =>
  have hsz:=(HJB.out _ _ _ HH0.out).size
  refine ⟨[],[⟨t,.slice p1 t.set.length c1,.slice p2 t.len c2,0⟩],some ⟨W.heap.size,0,none⟩,1,fun k=>k=W.heap.size,?_,?_,rfl,?_,?_,?_,fun g hg=>(by simpa [Value.ownBlock] using hg.symm),?_⟩
  ·rw [jeC,HN0.out]
  ·rw [HN0.out];exact HC.out
  ·exact jmG rfl rfl hsz rfl rfl (by unfold maxLen;omega)
  ·intro q hq
   simp only [List.mem_singleton] at hq
   subst hq
   have:=HC.out
   exact ⟨HIN.out,Int.le_refl _,by simp only;omega⟩
  ·refine HJS.out _ _ _ _ _ HH0.out ((But.refl _ W).alloc _) (fun k hk=>.inr (by rw [hk];exact ⟨nlr _,by simp⟩))
  ·rw [jfB];rfl
 case round =>
  obtain ⟨pre,L,pv,cap,X,hk,hkb,rfl,hown,hgood,hj,hXg,hpre⟩:=hrel
  have HK:Hid (jbA L=gk):=hk
  have HO:Hid (OwnD wr w0.heap.size (.slice pv L.length cap) L):=hown
  have HG:Hid (GoodD w0 2097152 L):=hgood
  have HJ:Hid (J pre wr X∧(∀ g,(Value.slice pv L.length cap).ownBlock=some g→X g)):=⟨hj,hXg⟩
  have HP:Hid (pre++jcR L=jab t 0):=hpre
  clear hk hown hgood hj hXg hpre HH0 HN0 HIN HC
  rcases List.eq_nil_or_concat L with hnil|⟨L',q,hL⟩
  ·subst hnil
   gi_wp2
   go_end0
   refine ⟨⟨_,rfl⟩,.inl ⟨X,?_⟩⟩
   have h1:=HP.out
   rw [show jcR ([]:List DR)=[] from rfl,lan] at h1
   rw [←h1]
   exact HJ.out.1
  ·rw [List.concat_eq_append] at hL
   subst hL
   obtain ⟨g,hgv⟩:∃ g,pv=some ⟨g,0,none⟩:=by
    rcases HO.out.2 with ⟨-,hn⟩|⟨g,c,cur,hv,-⟩
    ·simp at hn
    ·injection hv with hv
     exact ⟨g,hv⟩
   subst hgv
   have HXG:Hid (X g):=HJ.out.2 g rfl
   obtain ⟨a,sa,ua,d⟩:=q
   obtain ⟨hq1,hq2,hq3⟩:=HG.out ⟨a,sa,ua,d⟩ (by simp)
   simp only at hq1 hq2 hq3
   obtain ⟨pu,cu,eu⟩:=hq1.xs.shape
   obtain ⟨ps,cs,es⟩:=hq1.sets.shape
   have HQ:Hid (a.At 0 w0 sa ua∧0≤d∧d≤2097152):=⟨hq1,hq2,by omega⟩
   have HQS:Hid (a.s.size≤maxLen):=hq1.size
   clear hq1 hq2 hq3
   subst eu es
   have hcell:∀ j,j<7→wr.cell? ⟨g,L'.length*7+j,none⟩=(jbG ⟨a,.slice ps a.set.length cs,.slice pu a.len cu,d⟩)[j]? := by
    intro j hj
    have h1:=HO.out.cellAt (L'.length*7+j) (by simp;omega)
    rw [h1,jc7,List.getElem?_append_right (by rw [jc8];omega),jc8]
    simp [jdE]
   have l0:=hcell 0 (by omega);have l1:=hcell 1 (by omega);have l2:=hcell 2 (by omega);have l3:=hcell 3 (by omega);have l4:=hcell 4 (by omega)
   have l5:=hcell 5 (by omega);have l6:=hcell 6 (by omega)
   simp only [jbG,Nat.add_zero,List.getElem?_cons_zero,List.getElem?_cons_succ] at l0 l1 l2 l3 l4 l5 l6
   clear hcell
   obtain ⟨hr1,hr2,hr3,hr4⟩:=je3 HO.out
   have hlen:(L'++[(⟨a,.slice ps a.set.length cs,.slice pu a.len cu,d⟩:DR)]).length=L'.length+1:=by simp
   have hrl:L'.length<2097152:=by have:=jgB (L'++[(⟨a,.slice ps a.set.length cs,.slice pu a.len cu,d⟩:DR)]);rw [HK.out] at this;omega
   rw [hlen] at hr1 ⊢
   unfold maxLen at hr2
   have hO1:=jiU (n:=L'.length) (xs:=jdE L') (ys:=jdE [⟨a,.slice ps a.set.length cs,.slice pu a.len cu,d⟩]) (by rw [←jc7];exact HO.out) (by rw [jc8]) (by simp)
   have HO1:Hid (OwnD wr w0.heap.size (.slice (some ⟨g,0,none⟩) L'.length cap) L'):=hO1
   have HR4:Hid (w0.heap.size≤g∧g<wr.heap.size):=⟨hr3,hr4⟩
   clear hlen hO1 HO hr3 hr4
   gi_wp2
   refine ⟨trivial,rfl,(callsIn_wide.2 (jnU a _ _ _)).mono ?_⟩
   rintro e w1 ⟨rfl,hb1⟩
   clear l0 l1 l2 l3 l4 l5 l6
   obtain ⟨PB,hPB⟩:∃ x,x=wr.heap.size:=⟨_,rfl⟩
   have hnb:=newx wr (.cells #[.int .i64 a.op,.int .i64 a.at_,.int .i64 a.n,.string a.s,.slice ps a.set.length cs,.slice pu a.len cu,.int .i64 d] 186)
   have hb2:Below wr.heap.size wr w1:=hnb.trans (hb1.mono hnb.size)
   have S1:Hid (J pre w1 (fun k=>X k∨k=PB)∧X g∧g<PB∧PB<w1.heap.size∧OwnD w1 w0.heap.size (.slice (some ⟨g,0,none⟩) L'.length cap) L'∧Seven w1 PB ⟨a,.slice ps a.set.length cs,.slice pu a.len cu,d⟩ 186):=by
    have h7:Seven w1 PB ⟨a,.slice ps a.set.length cs,.slice pu a.len cu,d⟩ 186:=by
     rw [hPB]
     exact (hb1.block _ (by simp)).trans (han wr _)
    refine ⟨HJS.out _ _ _ _ _ HJ.out.1 (But.of_all hb2) (fun k hk=>?_),HXG.out,by rw [hPB];exact HR4.out.2,h7.lt,HO1.out.below hb2,h7⟩
    rcases hk with h|h
    ·exact .inl h
    ·exact .inr (by rw [h];exact ⟨by rw [hPB];exact nlr _,h7.lt⟩)
   have HT:Hid (∀ U V,jcR (L'++[⟨a,.slice ps a.set.length cs,.slice pu a.len cu,d⟩])=(if jbl a.op a.s=true then [(a.s,d)] else [])++jcR (L'++jap a.len a.kid U V d a.len)):=fun U V=>jkL L' ⟨a,.slice ps a.set.length cs,.slice pu a.len cu,d⟩ U V
   rw [←hPB]
   have HSZ:Hid (w0.heap.size≤PB):=by show _≤_;have:=HR4.out;omega
   clear hb1 hb2 hnb HJ HO1 HR4 hPB
   obtain ⟨x0,x1,x2,x3,x4,x5,x6⟩:=S1.out.2.2.2.2.2.cells
   simp only at x0 x1 x2 x3 x4 x5 x6
   cases hnm:jbl a.op a.s
   case' false =>
    obtain ⟨pre2,hpre2⟩:∃ x,x=pre:=⟨_,rfl⟩
    obtain ⟨w2,hw2⟩:∃ x,x=w1:=⟨_,rfl⟩
    have S2:Hid (J pre2 w2 (fun k=>X k∨k=PB)∧X g∧g<PB∧PB<w2.heap.size∧OwnD w2 w0.heap.size (.slice (some ⟨g,0,none⟩) L'.length cap) L'∧Seven w2 PB ⟨a,.slice ps a.set.length cs,.slice pu a.len cu,d⟩ 186):=by
     rw [hpre2,hw2];exact S1.out
    have HP2:Hid (∀ U V,pre2++jcR (L'++jap a.len a.kid U V d a.len)=jab t 0):=fun U V=>by
     have h1:=HP.out
     rw [HT.out U V,hnm] at h1
     rw [hpre2]
     simpa using h1
    rw [←hw2]
    clear hpre2 hw2 S1 HT HP hnm x0 x1 x2 x3 x4 x5 x6
    gi_wp2
    refine ⟨fun _ h=>(by cases h),?_⟩
    obtain ⟨x0,x1,x2,x3,x4,x5,x6⟩:=S2.out.2.2.2.2.2.cells
    simp only at x0 x1 x2 x3 x4 x5 x6
    gi_wp2
   case' true =>
    have HPX:Hid ((pre++[(a.s,d)]) <+: jab t 0):=by
     have h1:=HP.out
     rw [HT.out (fun _=>.bool false) (fun _=>.bool false),hnm,if_pos rfl,←List.append_assoc] at h1
     exact ⟨_,h1⟩
    obtain ⟨fn,tmps,assign,body,hy,hR⟩:=HY.out pre (a.s,d) w1 _ S1.out.1 HQS.out HPX.out
    simp only at hy
    gi_wp2
    refine ⟨rfl,hR.mono ?_⟩
    clear hR hy
    rintro e w2 (⟨rfl,hj2,hk2⟩|⟨rfl,hx2⟩)
    case' inr =>
     gi_wp2
     refine bpr (results_none rfl _ _ _) rfl ?_
     exact ⟨⟨_,rfl⟩,.inr ⟨pre++[(a.s,d)],HPX.out,hx2⟩⟩
    case' inl =>
     obtain ⟨pre2,hpre2⟩:∃ x,x=pre++[(a.s,d)]:=⟨_,rfl⟩
     have S2:Hid (J pre2 w2 (fun k=>X k∨k=PB)∧X g∧g<PB∧PB<w2.heap.size∧OwnD w2 w0.heap.size (.slice (some ⟨g,0,none⟩) L'.length cap) L'∧Seven w2 PB ⟨a,.slice ps a.set.length cs,.slice pu a.len cu,d⟩ 186):=by
      obtain ⟨s1,s2,s3,s4,s5,s6⟩:=S1.out
      refine ⟨by rw [hpre2];exact hj2,s2,s3,nll s4 hk2.1,?_,(hk2.2 PB (.inr rfl) s4).trans s6⟩
      refine ⟨s5.1,?_⟩
      rcases s5.2 with hn|⟨g1,cap1,cur,hv,hbg,hgg,rest⟩
      ·exact .inl hn
      ·refine .inr ⟨g1,cap1,cur,hv,hbg,(hk2.2 g1 (.inl ?_) (aes.1 hgg).1).trans hgg,rest⟩
       injection hv with hv
       injection hv with hv
       injection hv with hv
       rw [←hv]
       exact s2
     have HP2:Hid (∀ U V,pre2++jcR (L'++jap a.len a.kid U V d a.len)=jab t 0):=fun U V=>by
      have h1:=HP.out
      rw [HT.out U V,hnm,if_pos rfl,←List.append_assoc] at h1
      rw [hpre2]
      exact h1
     clear hpre2 S1 HT HP hnm x0 x1 x2 x3 x4 x5 x6 hj2 hk2
     obtain ⟨x0,x1,x2,x3,x4,x5,x6⟩:=S2.out.2.2.2.2.2.cells
     simp only at x0 x1 x2 x3 x4 x5 x6
     gi_wp2
   all_goals
    refine ⟨trivial,rfl,(callsIn_wide.2 (jno w0 w2 ⟨a,.slice ps a.set.length cs,.slice pu a.len cu,d⟩ _ L' HQ.out.1 (HJB.out _ _ _ S2.out.1) S2.out.2.2.2.2.1 ?_ ?_)).mono ?_⟩
    ·have h1:=jdK L' ⟨a,.slice ps a.set.length cs,.slice pu a.len cu,d⟩ (fun _=>.bool false) (fun _=>.bool false)
     have h2:=jgB (L'++jap a.len a.kid (fun _=>.bool false) (fun _=>.bool false) d a.len)
     rw [HK.out] at h1
     rw [lla,jfz] at h2
     simp only at h1 ⊢
     omega
    ·have:=HQ.out
     simp only
     omega
    rintro e w3 ⟨v',U,V,rfl,hbut,hown3,hwh,hat⟩
    simp only at hown3 hat
    obtain ⟨p',c',hv'⟩:=jc5 hown3
    subst hv'
    have HF:Hid (But (fun k=>(Value.slice (some ⟨g,0,none⟩) L'.length cap).ownBlock=some k) w2 w3∧OwnD w3 w0.heap.size (.slice p' (L'++jap a.len a.kid U V d a.len).length c') (L'++jap a.len a.kid U V d a.len)∧((Value.slice p' (L'++jap a.len a.kid U V d a.len).length c').ownBlock=(Value.slice (some ⟨g,0,none⟩) L'.length cap).ownBlock∨∀ g1,(Value.slice p' (L'++jap a.len a.kid U V d a.len).length c').ownBlock=some g1→w2.heap.size≤g1)∧∀ i,i<a.len→(a.kid i).At 0 w0 (U i) (V i)):=⟨hbut,hown3,hwh,hat⟩
    obtain ⟨n1,hn1⟩:∃ n1,n1=(L'++jap a.len a.kid U V d a.len).length:=⟨_,rfl⟩
    have HN1:Hid (n1=(L'++jap a.len a.kid U V d a.len).length):=hn1
    rw [←hn1] at HF ⊢
    clear hbut hown3 hwh hat hn1
    gi_wp2
    gi_roundg (jbA (L'++jap a.len a.kid U V d a.len))
    case rel =>
     obtain ⟨f1,f2,f3,f4⟩:=HF.out
     have h1:=jdK L' ⟨a,.slice ps a.set.length cs,.slice pu a.len cu,d⟩ U V
     rw [HK.out] at h1
     simp only at h1
     refine ⟨pre2,_,p',c',fun k=>(X k∨k=PB)∨(Value.slice p' n1 c').ownBlock=some k,rfl,by omega,by rw [←HN1.out],by rw [←HN1.out];exact f2,GoodD.turn HG.out f4,?_,fun g1 hg1=>.inr (by rw [HN1.out];exact hg1),HP2.out U V⟩
     refine HJS.out _ _ _ _ _ S2.out.1 (f1.mono (fun k hk hx=>.inl ?_)) (fun k hk=>?_)
     ·have:g=k:=by simpa [Value.ownBlock] using hx
      rw [←this]
      exact S2.out.2.1
     ·rcases hk with h|h
      ·exact .inl h
      ·rcases f3 with f3|f3
       ·rw [f3] at h
        have:g=k:=by simpa [Value.ownBlock] using h
        exact .inl (.inl (by rw [←this];exact S2.out.2.1))
       ·exact .inr ⟨f3 k h,(World.ownsRow.lt f2 k h).2⟩
    case measure =>
     have h1:=jdK L' ⟨a,.slice ps a.set.length cs,.slice pu a.len cu,d⟩ U V
     rw [HK.out] at h1
     simp only at h1
     omega
end Go.Proofs.YtjmlfacbcfbhdaaGreatDoor
namespace Go.Proofs.YtjmlfacbcfbhdaaGreatDoor
open Go.ChangeShapes Go.WideShapes Go.ChangeAt Go.RowKit Go.Shelf
attribute [local go_sem] Oper.semAt_some
def ja3 (l:List (ByteArray×Int)):List (List UInt8):=l.map fun x=>x.1.data.toList
theorem jdk (t:X):∀ d,(jab t d).length≤t.count:=by
 induction t with
 | no=>intro d;simp [jab]
 | mk op a n s set len kid ih =>
  intro d
  have h:∀ k,(jaB (fun i=>jab (kid i) (jal len kid d i)) k).length≤sumX (fun i=>(kid i).count) k:=by
   intro k
   induction k with
   | zero=>simp [jaB,sumX]
   | succ k ihk =>
    simp only [jaB,sumX,List.length_append]
    have:=ih k (jal len kid d k)
    omega
  have h1:=h len
  have hc:(X.mk op a n s set len kid).count=1+sumX (fun i=>(kid i).count) len:=rfl
  rw [hc,jab,lla]
  split <;> simp <;> omega
end Go.Proofs.YtjmlfacbcfbhdaaGreatDoor
namespace Go.Proofs.YtjmlfacbcfbhdaaGreatDoor
open Go.ChangeShapes Go.WideShapes Go.ChangeAt Go.RowKit
def jdU:X→Prop
 | .no=>True
 | .mk op _ _ _ _ len kid=>(op=2→len=0)∧∀ i,i<len→jdU (kid i)
def jbv (l:List (ByteArray×Int)) (a:List ByteArray×Bool):List ByteArray×Bool:=l.foldl (fun a x=>addN x.1 a) a
theorem jgM (l m:List (ByteArray×Int)) (a:List ByteArray×Bool):jbv (l++m) a=jbv m (jbv l a):=by simp [jbv]
theorem jfI (t:X):∀ (d:Int) (a:List ByteArray×Bool),jdU t→jaz t a=jbv (jab t d) a:=by
 induction t with
 | no=>intro d a _;rfl
 | mk op b n s set len kid ih =>
  intro d a hl
  obtain ⟨h1,h2⟩:=hl
  rw [jc4,jab]
  have hk:∀ k,k≤len→ja4 (fun i a=>jaz (kid i) a) k a=jbv (jaB (fun i=>jab (kid i) (jal len kid d i)) k) a:=by
   intro k
   induction k with
   | zero=>intro _;rfl
   | succ k ihk =>
    intro hle
    simp only [ja4,jaB]
    rw [jgM,ihk (by omega)]
    exact ih k _ _ (h2 k (by omega))
  cases hn:jbl op s
  ·simp only [Bool.false_eq_true,if_false,List.nil_append]
   exact hk len (nlr _)
  ·have hop:op=2:=by
    unfold jbl at hn
    rw [Bool.and_eq_true] at hn
    simpa using hn.1
   have hz:=h1 hop
   subst hz
   simp [jaB,jbv]
theorem jmi (l:List ByteArray) (s:ByteArray):inS l s=decide (s.data.toList∈l.map fun x=>x.data.toList):=by
 unfold inS
 rw [Bool.eq_iff_iff,List.any_eq_true,decide_eq_true_eq,List.mem_map]
 constructor
 ·rintro ⟨x,hx,h⟩
  refine ⟨x,hx,?_⟩
  have h':=eq_of_beq h
  rwa [ByteArray.toList_eq,ByteArray.toList_eq] at h'
 ·rintro ⟨x,hx,h⟩
  refine ⟨x,hx,?_⟩
  rw [ByteArray.toList_eq,ByteArray.toList_eq]
  simp [h]
theorem jj0 (l:List (ByteArray×Int)):∀ (out:List ByteArray) (tw:Bool),(out.map fun x=>x.data.toList).Nodup→(jbv l (out,tw)).2=(tw || !decide ((out.map fun x=>x.data.toList)++ja3 l).Nodup):=by
 induction l with
 | nil =>
  intro out tw h
  simp [jbv,ja3,h]
 | cons x l ih =>
  intro out tw h
  have e:jbv (x::l) (out,tw)=jbv l (addN x.1 (out,tw)):=rfl
  have ek:ja3 (x::l)=x.1.data.toList::ja3 l:=rfl
  rw [e,ek]
  unfold addN
  rw [jmi]
  by_cases hm:x.1.data.toList∈out.map fun x=>x.data.toList
  ·have hn:¬ ((out.map fun x=>x.data.toList)++x.1.data.toList::ja3 l).Nodup:=by
    intro h2
    rw [List.nodup_append] at h2
    exact h2.2.2 _ hm _ (by simp) rfl
   rw [dqt hm,dqf hn]
   simp only [if_true]
   rw [ih out true h]
   simp
  ·rw [dqf hm]
   simp only [Bool.false_eq_true,if_false]
   have h1:((out++[x.1]).map fun x=>x.data.toList).Nodup:=by
    rw [List.map_append,List.nodup_append]
    refine ⟨h,by simp,fun a ha b hb e=>hm ?_⟩
    simp only [List.map_cons,List.map_nil,List.mem_singleton] at hb
    rw [←hb,←e]
    exact ha
   rw [ih _ tw h1]
   simp
theorem jhE {g:X→Nat→Option Nat} {kid:Nat→X} {left:Nat} (n:Nat) (h:(jcQ g kid left n).isSome=true):∀ i,i<n→∃ l,(g (kid i) l).isSome=true:=by
 induction n with
 | zero=>intro i hi;omega
 | succ n ih =>
  intro i hi
  rw [jcQ] at h
  cases e:jcQ g kid left n with
  | none=>rw [e] at h;simp at h
  | some l =>
   rw [e] at h
   rcases Nat.lt_or_ge i n with h1|h1
   ·exact ih (by rw [e];rfl) i h1
   ·have:i=n:=by omega
    rw [this]
    exact ⟨l,h⟩
inductive G where
 | no
 | mk (name:ByteArray) (deep:Int) (one:X) (len:Nat) (sm:Nat→G)
namespace G
def name:G→ByteArray | .no=>⟨#[]⟩ | .mk x _ _ _ _=>x
def deep:G→Int | .no=>0 | .mk _ x _ _ _=>x
def one:G→X | .no=>.no | .mk _ _ x _ _=>x
def len:G→Nat | .no=>0 | .mk _ _ _ x _=>x
def sm:G→Nat→G | .no=>fun _=>.no | .mk _ _ _ _ x=>x
end G
instance : Inhabited G := ⟨.no⟩
def jlB:X:=.mk 0 0 0 ⟨#[]⟩ [] 0 (fun _=>.no)
def oneG (s:ByteArray) (x:X):G:=.mk s 0 x 0 (fun _=>.no)
def jaw (f:Nat→Option (List G)):Nat→Option (List G)
 | 0=>some []
 | k+1=>(jaw f k).bind fun a=>(f k).map fun b=>a++b
def colG (ns:List (ByteArray×Int)) (f:Nat→Option (List G)) (cnt:Nat):List G :=
 (List.range ns.length).map fun i=>.mk (ns.getD i (⟨#[]⟩,0)).1 ((ns.getD i (⟨#[]⟩,0)).2+1) jlB cnt (fun j=>((f j).getD []).getD i .no)
def jcW (ns:List (ByteArray×Int)) (f:Nat→Option (List G)) (cnt:Nat):Option (List G) :=
 if allX (fun j=>(f j).isSome) cnt=true then some (colG ns f cnt) else none
def jai:X→X→Option (List G)
 | .no,_=>none
 | .mk op _ n s _ len kid,x =>
  if op=2 then some (if (s.toList==jkJ)=true then [] else [oneG s x])
  else if op=1 then (if x.op=1∧x.n=n then some [] else none)
  else if op=3∧x.op=3 then
   if jaJ len kid = -1 then (if x.len=len then jaw (fun i=>jai (kid i) (x.kid i)) len else none)
   else if x.len<len-2 then none
   else (jaw (fun i=>jai (kid i) (x.kid i)) (len-2)).bind fun a=>(jcW (jab (kid (len-2)) 0) (fun j=>jai (kid (len-2)) (x.kid (len-2+j))) (x.len-(len-2))).map fun b=>a++b
  else none
def okG:X→Prop
 | .no=>False
 | .mk op _ _ s _ len kid=>(op=1∨op=2∨op=3)∧(op≠3→len=0)∧(op=2→(s.toList==jb3)=false)∧∀ i,i<len→(jan (kid i)=true∧i+1=len∧i≠0∧(kid i).len=0)∨okG (kid i)
def jbX (d:Int) (l:List (ByteArray×Int)):List (ByteArray×Int):=l.map fun x=>(x.1,x.2+d)
theorem jdM (d:Int) (a b:List (ByteArray×Int)):jbX d (a++b)=jbX d a++jbX d b:=by simp [jbX]
theorem jfx (len:Nat) (kid:Nat→X) (d e:Int) (i:Nat):jal len kid (d+e) i=jal len kid d i+e:=by unfold jal;split <;> omega
theorem jbT (t:X):∀ d e:Int,jab t (d+e)=jbX e (jab t d):=by
 induction t with
 | no=>intro d e;rfl
 | mk op a n s set len kid ih =>
  intro d e
  have h:∀ k,jaB (fun i=>jab (kid i) (jal len kid (d+e) i)) k=jbX e (jaB (fun i=>jab (kid i) (jal len kid d i)) k):=by
   intro k
   induction k with
   | zero=>rfl
   | succ k ihk=>simp only [jaB];rw [ihk,jfx,ih k,jdM]
  rw [jab,jab,h,jdM]
  congr 1
  split
  ·simp [jbX]
  ·rfl
def jeB (l:List G):List (ByteArray×Int):=l.map fun g=>(g.name,g.deep)
theorem jeP (a b:List G):jeB (a++b)=jeB a++jeB b:=by simp [jeB]
theorem jnd (ns:List (ByteArray×Int)) (f:Nat→Option (List G)) (cnt:Nat):jeB (colG ns f cnt)=jbX 1 ns:=by
 apply List.ext_getElem
 ·simp [jeB,colG,jbX]
 ·intro i h1 h2
  simp only [jeB,colG,jbX,List.map_map,List.getElem_map,List.getElem_range,Function.comp,G.name,G.deep]
  have hi:i<ns.length:=by simpa [jbX] using h2
  rw [lgd,lgg hi,Option.getD_some]
theorem jdf (ns:List (ByteArray×Int)) (f:Nat→Option (List G)) (cnt:Nat):(colG ns f cnt).length=ns.length:=by simp [colG]
theorem jkS {t:X} (h:jan t=true) (hl:t.len=0) (d:Int):jab t d=[]:=by
 rw [jfH,hl]
 have hn:jbl t.op t.s=false:=by
  unfold jan at h
  rw [Bool.and_eq_true] at h
  unfold jbl
  rw [h.1,h.2]
  simp
 rw [hn]
 rfl
theorem jfD (p:X):∀ (x:X) (l:List G),okG p→jai p x=some l→jeB l=jab p 0:=by
 induction p with
 | no=>intro x l hp;exact hp.elim
 | mk op a n s set len kid ih =>
  intro x l hp hm
  obtain ⟨h1,h2,h3,h4⟩:=hp
  rw [jai] at hm
  rw [jab]
  by_cases ho2:op=2
  ·subst ho2
   have hz:=h2 (by omega)
   subst hz
   rw [if_pos rfl] at hm
   injection hm with hm
   subst hm
   have hd:=h3 rfl
   simp only [jaB,List.append_nil]
   unfold jbl
   cases hs:(s.toList==jkJ)
   ·rw [hd]
    simp [jeB,oneG,G.name,G.deep]
   ·rw [hd]
    simp [jeB]
  ·have hnn:jbl op s=false:=by
    unfold jbl
    have:(op==2)=false:=by simpa using ho2
    rw [this];rfl
   rw [if_neg ho2] at hm
   by_cases ho1:op=1
   ·subst ho1
    have hz:=h2 (by omega)
    subst hz
    rw [if_pos rfl] at hm
    split at hm
    ·injection hm with hm
     subst hm
     rw [hnn]
     rfl
    ·cases hm
   ·have ho3:op=3:=by omega
    subst ho3
    rw [if_neg (by omega)] at hm
    by_cases hx3:x.op=3
    ·rw [if_pos ⟨rfl,hx3⟩] at hm
     rw [hnn]
     simp only [Bool.false_eq_true,if_false,List.nil_append]
     have hto:∀ k lk,k≤len→(∀ i,i<k→okG (kid i))→(∀ i,i<k→(i:Int)≠jaJ len kid)→jaw (fun i=>jai (kid i) (x.kid i)) k=some lk→jeB lk=jaB (fun i=>jab (kid i) (jal len kid 0 i)) k:=by
      intro k
      induction k with
      | zero=>intro lk _ _ _ h;simp only [jaw] at h;injection h with h;subst h;rfl
      | succ k ihk =>
       intro lk hk hok hno h
       simp only [jaw] at h
       cases hA:jaw (fun i=>jai (kid i) (x.kid i)) k with
       | none=>rw [hA] at h;cases h
       | some A =>
        rw [hA] at h
        cases hB:jai (kid k) (x.kid k) with
        | none=>rw [hB] at h;cases h
        | some B =>
         rw [hB] at h
         injection h with h
         subst h
         simp only [jaB]
         rw [jeP,ihk A (by omega) (fun i hi=>hok i (by omega)) (fun i hi=>hno i (by omega)) hA,ih k _ _ (hok k (by omega)) hB]
         congr 2
         unfold jal
         rw [if_neg (hno k (by omega))]
     by_cases hof:jaJ len kid = -1
     ·rw [if_pos hof] at hm
      split at hm
      ·refine hto len l (nlr _) (fun i hi=>?_) (fun i hi=>by rw [hof];omega) hm
       rcases h4 i hi with ⟨hd,hl,h0,_⟩|h
       ·exfalso
        unfold jaJ at hof
        have e:len-1=i:=by omega
        rw [e] at hof
        rw [if_pos ⟨by omega,hd⟩] at hof
        omega
       ·exact h
      ·cases hm
     ·rw [if_neg hof] at hm
      have hof2:2≤len∧jan (kid (len-1))=true:=by
       unfold jaJ at hof
       split at hof
       ·rename_i h;exact h
       ·exact absurd rfl hof
      have hofe:jaJ len kid=(len:Int)-2:=by unfold jaJ;rw [if_pos hof2]
      split at hm
      ·cases hm
      ·cases hA:jaw (fun i=>jai (kid i) (x.kid i)) (len-2) with
       | none=>rw [hA] at hm;cases hm
       | some A =>
        rw [hA] at hm
        have hokk:∀ i,i+1<len→okG (kid i):=fun i hi=>by
         rcases h4 i (by omega) with ⟨hd,hl,h0,_⟩|h
         ·omega
         ·exact h
        have hdl:(kid (len-1)).len=0:=by
         rcases h4 (len-1) (by omega) with ⟨_,_,_,h⟩|h
         ·exact h
         ·cases hk:kid (len-1) with
          | no=>rfl
          | mk op' a' n' s' set' len' kid' =>
           rw [hk] at h hof2
           obtain ⟨_,_,hs,_⟩:=h
           have hd:=hof2.2
           unfold jan at hd
           rw [Bool.and_eq_true] at hd
           have:=hs (by simpa [X.op] using hd.1)
           simp only [X.s] at hd
           rw [this] at hd
           cases hd.2
        unfold jcW at hm
        split at hm
        ·injection hm with hm
         subst hm
         rw [jeP,jnd,hto (len-2) A (by omega) (fun i hi=>hokk i (by omega)) (fun i hi=>by rw [hofe];omega) hA]
         obtain ⟨m,hml⟩:∃ m,len=m+2:=⟨len-2,by omega⟩
         subst hml
         rw [show m+2-2=m from rfl]
         simp only [jaB]
         rw [show m+2-1=m+1 from rfl] at hof2 hdl
         rw [jkS hof2.2 hdl,lan]
         congr 1
         have hkd:jal (m+2) kid 0 m=0+1:=by unfold jal;rw [if_pos (by rw [hofe];omega)]
         rw [hkd,jbT]
        ·cases hm
    ·rw [if_neg (fun h=>hx3 h.2)] at hm
     cases hm
theorem jcp (p x:X) (l:List G) (hp:okG p) (hm:jai p x=some l):l.length=(jab p 0).length:=by
 rw [←jfD p x l hp hm];simp [jeB]
def jjO:X→Prop
 | .no=>False
 | .mk op _ _ _ _ len kid=>(op=1∨op=2∨op=3)∧(op≠3→len=0)∧∀ i,i<len→jjO (kid i)
theorem jhV {t:X} (h:ja2 t=true):(t.op=1∨t.op=2∨t.op=3)∧(t.op≠3→t.len=0):=by
 rw [jdz] at h
 unfold gB at h
 rw [Bool.and_eq_true] at h
 have h:=h.2
 split at h
 ·rename_i h1
  simp only [Bool.and_eq_true] at h
  exact ⟨.inl h1,fun _=>by have:=h.2.2.2;simpa using this⟩
 ·split at h
  ·rename_i h1
   simp only [Bool.and_eq_true] at h
   exact ⟨.inr (.inl h1),fun _=>by have:=h.2.2.2;simpa using this⟩
  ·split at h
   ·rename_i h1
    exact ⟨.inr (.inr h1),fun hn=>absurd h1 hn⟩
   ·cases h
theorem jkO (nest:Nat):∀ left len kid,(jbb nest left len kid).isSome=true→∀ i,i<len→jjO (kid i):=by
 induction nest with
 | zero =>
  intro left len kid h i hi
  unfold jbb at h
  split at h
  ·omega
  ·simp at h
 | succ nest ih =>
  intro left len kid h i hi
  rw [jbb] at h
  split at h
  ·simp at h
  ·obtain ⟨l,hl⟩:=jhE len h i hi
   split at hl
   ·rename_i hf
    have h1:=jhV hf
    have h2:=ih l _ _ hl
    cases hk:kid i with
    | no=>rw [hk] at h1;simp [X.op] at h1
    | mk op a n s set len' kid' =>
     rw [hk] at h1 h2
     exact ⟨h1.1,h1.2,h2⟩
   ·simp at hl
theorem jjd {t:X} (h:jax t=true):jjO t:=by
 rw [jdp] at h
 exact jkO 20 1500 1 (fun _=>t) h 0 (by omega)
theorem jpU (t:X):jjO t→jaS t=true→jan t=false→okG t:=by
 induction t with
 | no=>intro h;exact h.elim
 | mk op a n s set len kid ih =>
  rintro ⟨h1,h2,h3⟩ hp hd
  rw [jgu,allX_true] at hp
  refine ⟨h1,h2,fun ho=>?_,fun i hi=>?_⟩
  ·have hd:((op==2)&&(s.toList==jb3))=false:=hd
   rw [ho] at hd
   simpa using hd
  ·have hi':=hp i hi
   rw [Bool.and_eq_true] at hi'
   cases hx:jan (kid i) with
   | false=>exact .inr (ih i (h3 i hi) hi'.2 hx)
   | true =>
    have hk:=hi'.1
    unfold jaP at hk
    rw [hx] at hk
    simp only [Bool.true_and,Bool.not_eq_true',Bool.or_eq_false_iff,Bool.not_eq_false',decide_eq_true_eq,decide_eq_false_iff_not] at hk
    refine .inl ⟨rfl,hk.1,hk.2.1,?_⟩
    have hr:=h3 i hi
    have ho:(kid i).op=2:=by
     unfold jan at hx
     rw [Bool.and_eq_true] at hx
     simpa using hx.1
    cases hc:kid i with
    | no=>rw [hc] at hr;exact hr.elim
    | mk op' a' n' s' set' len' kid' =>
     rw [hc] at hr ho
     exact hr.2.1 (by have:op'=2:=ho;omega)
theorem jev {t:X} (h:jcd t=true):okG t:=by
 unfold jcd at h
 simp only [Bool.and_eq_true,Bool.not_eq_true'] at h
 exact jpU t (jjd h.1) h.2.2.2 h.2.2.1
def jb8 (f:Nat→Int):Nat→Int
 | 0=>-1
 | k+1=>if 0≤jb8 f k then jb8 f k else f k
def ja9:X→ByteArray→Int
 | .no,_=>-1
 | .mk op _ _ s _ len kid,nm=>if ((op==2)&&(s.toList==nm.toList))=true then 0 else jb8 (fun i=>if 0≤ja9 (kid i) nm then jal len kid (ja9 (kid i) nm) i else -1) len
theorem jdB {f:Nat→Int} {k:Nat} (h:∀ i,i<k→f i<0) (h1:∀ i,i<k→-1≤f i):jb8 f k = -1:=by
 induction k with
 | zero=>rfl
 | succ k ih =>
  have:=h k (by omega)
  have:=h1 k (by omega)
  simp only [jb8]
  rw [ih (fun i hi=>h i (by omega)) (fun i hi=>h1 i (by omega)),if_neg (by omega)]
  omega
theorem jhC {f:Nat→Int} {k j:Nat} (hj:j<k) (h:∀ i,i<j→f i<0) (h1:∀ i,i<j→-1≤f i) (h0:0≤f j):jb8 f k=f j:=by
 induction k with
 | zero=>omega
 | succ k ih =>
  simp only [jb8]
  rcases Nat.lt_or_ge j k with hk|hk
  ·rw [ih hk,if_pos h0]
  ·have:j=k:=by omega
   subst this
   rw [jdB h h1,if_neg (by omega)]
theorem jmc {f:Nat→Int} {k:Nat} {b:Int} (hb:-1≤b) (h:∀ i,i<k→f i≤b):jb8 f k≤b:=by
 induction k with
 | zero=>exact hb
 | succ k ih =>
  simp only [jb8]
  split
  ·exact ih (fun i hi=>h i (by omega))
  ·exact h k (by omega)
theorem jkD (len:Nat) (kid:Nat→X) (d:Int) (i:Nat):jal len kid d i≤d+1:=by unfold jal;split <;> omega
theorem jdi (len:Nat) (kid:Nat→X) (d:Int) (i:Nat):d≤jal len kid d i:=by unfold jal;split <;> omega
theorem jjr (t:X) (nm:ByteArray):ja9 t nm+1≤t.count:=by
 induction t with
 | no=>simp [ja9,X.count]
 | mk op a n s set len kid ih =>
  rw [ja9]
  have hc:(X.mk op a n s set len kid).count=1+sumX (fun i=>(kid i).count) len:=rfl
  split
  ·rw [hc];omega
  ·have:=jmc (f:=fun i=>if 0≤ja9 (kid i) nm then jal len kid (ja9 (kid i) nm) i else -1) (k:=len) (b:=((sumX (fun i=>(kid i).count) len:Nat):Int)) (by omega) (fun i hi=>by
    have h1:=jbo (fun i=>(kid i).count) i len hi
    have h2:=jkD len kid (ja9 (kid i) nm) i
    have h3:=ih i
    split <;> omega)
   rw [hc]
   omega
theorem jnH (t:X) (nm:ByteArray):-1≤ja9 t nm:=by
 induction t with
 | no=>simp [ja9]
 | mk op a n s set len kid ih =>
  rw [ja9]
  split
  ·omega
  ·clear ih
   have:∀ k,-1≤jb8 (fun i=>if 0≤ja9 (kid i) nm then jal len kid (ja9 (kid i) nm) i else -1) k:=by
    intro k
    induction k with
    | zero=>simp [jb8]
    | succ k ih =>
     simp only [jb8]
     split
     ·exact ih
     ·have:=jdi len kid (ja9 (kid k) nm) k
      split <;> omega
   exact this len
theorem jaa {P:Prop} (h:P):Hid P:=h
theorem jbr (a b:List (ByteArray×Int)):ja3 (a++b)=ja3 a++ja3 b:=by simp [ja3]
theorem jhH (e:Int) (l:List (ByteArray×Int)):ja3 (jbX e l)=ja3 l:=by simp [ja3,jbX]
theorem jdR (t:X) (d:Int):ja3 (jab t d)=ja3 (jab t 0):=by
 have:=jbT t 0 d
 rw [Int.zero_add] at this
 rw [this,jhH]
theorem jjw {f:Nat→List (ByteArray×Int)}:∀ {k i:Nat} {s:List UInt8},i<k→s∈ja3 (f i)→s∈ja3 (jaB f k):=by
 intro k
 induction k with
 | zero=>intro i s h;omega
 | succ k ih =>
  intro i s hi hs
  simp only [jaB]
  rw [jbr,lma]
  rcases Nat.lt_or_ge i k with h|h
  ·exact .inl (ih h hs)
  ·have:i=k:=by omega
   subst this
   exact .inr hs
theorem jkq {f:Nat→List (ByteArray×Int)}:∀ {k i j:Nat} {s:List UInt8},(ja3 (jaB f k)).Nodup→i<j→j<k→s∈ja3 (f i)→s∈ja3 (f j)→False:=by
 intro k
 induction k with
 | zero=>intro i j s _ _ h;omega
 | succ k ih =>
  intro i j s hn hij hj hi hjs
  simp only [jaB] at hn
  rw [jbr,List.nodup_append] at hn
  rcases Nat.lt_or_ge j k with h|h
  ·exact ih hn.1 hij h hi hjs
  ·have:j=k:=by omega
   subst this
   exact hn.2.2 s (jjw hij hi) s hjs rfl
theorem jkr {f:Nat→List (ByteArray×Int)}:∀ {k i:Nat},(ja3 (jaB f k)).Nodup→i<k→(ja3 (f i)).Nodup:=by
 intro k
 induction k with
 | zero=>intro i _ h;omega
 | succ k ih =>
  intro i hn hi
  simp only [jaB] at hn
  rw [jbr,List.nodup_append] at hn
  rcases Nat.lt_or_ge i k with h|h
  ·exact ih hn.1 h
  ·have:i=k:=by omega
   subst this
   exact hn.2.1
theorem jjK {op a n:Int} {s:ByteArray} {set:List Int} {len:Nat} {kid:Nat→X} (h:(ja3 (jab (.mk op a n s set len kid) 0)).Nodup) {i:Nat} (hi:i<len):(ja3 (jab (kid i) 0)).Nodup:=by
 rw [jab,jbr,List.nodup_append] at h
 have:=jkr h.2.1 hi
 rwa [jdR] at this
theorem jj8 (t:X) (nm:ByteArray) (hnm:jbl 2 nm=true):nm.data.toList ∉ ja3 (jab t 0)→ja9 t nm = -1:=by
 induction t with
 | no=>intro _;rfl
 | mk op a n s set len kid ih =>
  intro hno
  rw [jab,jbr,lma] at hno
  have hs:¬ ((op==2)&&(s.toList==nm.toList))=true:=fun h=>by
   rw [Bool.and_eq_true] at h
   have h1:op=2:=by simpa using h.1
   have h2:=eq_of_beq h.2
   subst h1
   have hn:jbl 2 s=true:=by unfold jbl at hnm ⊢;rw [h2];exact hnm
   rw [if_pos hn] at hno
   rw [ByteArray.toList_eq,ByteArray.toList_eq] at h2
   exact hno (.inl (by simp [ja3,h2]))
  rw [ja9,if_neg hs]
  have hk:∀ i,i<len→ja9 (kid i) nm = -1:=fun i hi=>ih i (fun h=>hno (.inr (jjw hi (by rw [jdR];exact h))))
  exact jdB (fun i hi=>by rw [hk i hi];simp) (fun i hi=>by rw [hk i hi];simp)
theorem jo0 {f:Nat→List (ByteArray×Int)}:∀ {k:Nat} {y:ByteArray×Int},y∈jaB f k→∃ i,i<k∧y∈f i:=by
 intro k
 induction k with
 | zero=>intro y h;simp [jaB] at h
 | succ k ih =>
  intro y h
  simp only [jaB] at h
  rcases lma.1 h with h|h
  ·obtain ⟨i,hi,hy⟩:=ih h
   exact ⟨i,by omega,hy⟩
  ·exact ⟨k,by omega,h⟩
theorem jj9 (t:X):∀ y∈jab t 0,jdU t→(ja3 (jab t 0)).Nodup→ja9 t y.1=y.2∧0≤y.2∧jbl 2 y.1=true:=by
 induction t with
 | no=>intro y h;simp [jab] at h
 | mk op a n s set len kid ih =>
  intro y hy hl hnd
  obtain ⟨hl1,hl2⟩:=hl
  have hnd0:=hnd
  rw [jab,jbr,List.nodup_append] at hnd
  rw [jab] at hy
  by_cases hn:jbl op s=true
  ·have hop:op=2:=by
    unfold jbl at hn
    rw [Bool.and_eq_true] at hn
    simpa using hn.1
   have hz:=hl1 hop
   subst hz hop
   rw [if_pos hn] at hy
   simp only [jaB,List.append_nil,List.mem_singleton] at hy
   subst hy
   refine ⟨?_,by simp,hn⟩
   rw [ja9,if_pos (by simp)]
  ·rw [if_neg hn,List.nil_append] at hy
   obtain ⟨i,hi,hyi⟩:=jo0 hy
   have hkd:jab (kid i) (jal len kid 0 i)=jbX (jal len kid 0 i) (jab (kid i) 0):=by
    have:=jbT (kid i) 0 (jal len kid 0 i)
    rwa [Int.zero_add] at this
   rw [hkd] at hyi
   obtain ⟨z,hz,rfl⟩:=List.mem_map.1 hyi
   obtain ⟨h1,h2,h3⟩:=ih i z hz (hl2 i hi) (jjK hnd0 hi)
   have hkk:z.1.data.toList∈ja3 (jab (kid i) 0):=List.mem_map.2 ⟨z,hz,rfl⟩
   have hs:¬ ((op==2)&&(s.toList==z.1.toList))=true:=fun h=>by
    rw [Bool.and_eq_true] at h
    have h1:op=2:=by simpa using h.1
    have:=hl1 h1
    omega
   have hother:∀ j,j<i→ja9 (kid j) z.1 = -1:=fun j hj=>jj8 (kid j) z.1 h3 (fun h=>jkq hnd.2.1 hj hi (by rw [jdR];exact h) (by rw [jdR];exact hkk))
   have hkg:=jdi len kid 0 i
   refine ⟨?_,by simp only;omega,h3⟩
   rw [ja9,if_neg hs,jhC (j:=i) hi (fun j hj=>by simp only;rw [hother j hj];simp) (fun j hj=>by simp only;rw [hother j hj];simp)]
   ·simp only
    rw [h1,if_pos h2]
    have:=jfx len kid 0 z.2 i
    rw [Int.zero_add] at this
    rw [this]
    omega
   ·simp only
    rw [h1,if_pos h2]
    have:=jdi len kid z.2 i
    omega
theorem jil (l:List (ByteArray×Int)):∀ (out:List ByteArray) (tw:Bool),((out.map fun x=>x.data.toList)++ja3 l).Nodup→(jbv l (out,tw)).1=out++l.map (·.1):=by
 induction l with
 | nil=>intro out tw _;simp [jbv]
 | cons x l ih =>
  intro out tw h
  have e:jbv (x::l) (out,tw)=jbv l (addN x.1 (out,tw)):=rfl
  have ek:ja3 (x::l)=x.1.data.toList::ja3 l:=rfl
  rw [ek] at h
  have hm:x.1.data.toList ∉ out.map fun x=>x.data.toList:=fun hm=>by
   rw [List.nodup_append] at h
   exact h.2.2 _ hm _ (by simp) rfl
  rw [e]
  unfold addN
  rw [jmi,dqf hm]
  simp only [Bool.false_eq_true,if_false]
  rw [ih (out++[x.1]) tw (by simpa using h)]
  simp
theorem jg8 (t:X) (hl:jdU t) (h:(ja3 (jab t 0)).Nodup):(jaz t ([],false)).1=(jab t 0).map (·.1):=by
 rw [jfI t 0 _ hl,jil _ [] false (by simpa using h)]
 simp
theorem jg9 (t:X):okG t→jdU t:=by
 induction t with
 | no=>intro h;exact h.elim
 | mk op a n s set len kid ih =>
  intro h
  obtain ⟨h1,h2,h3,h4⟩:=h
  refine ⟨fun h=>h2 (by omega),fun i hi=>?_⟩
  rcases h4 i hi with ⟨_,_,_,h⟩|h
  ·cases hk:kid i with
   | no=>trivial
   | mk op' a' n' s' set' len' kid' =>
    rw [hk] at h
    simp only [X.len] at h
    subst h
    exact ⟨fun _=>rfl,fun j hj=>by omega⟩
  ·exact ih i h
def jag:List G→ByteArray→Option G
 | [],_=>none
 | g::l,nm=>if (g.name.toList==nm.toList)=true then some g else jag l nm
theorem jb7 (a b:List G) (nm:ByteArray):jag (a++b) nm=(jag a nm).or (jag b nm):=by
 induction a with
 | nil=>simp [jag]
 | cons g a ih =>
  simp only [List.cons_append,jag]
  split
  ·rfl
  ·exact ih
theorem jb1 {l:List G} {nm:ByteArray} {g:G} (h:jag l nm=some g):g∈l∧(g.name.toList==nm.toList)=true:=by
 induction l with
 | nil=>cases h
 | cons x l ih =>
  simp only [jag] at h
  split at h
  ·rename_i hx
   injection h with h
   subst h
   exact ⟨by simp,hx⟩
  ·exact ⟨List.mem_cons_of_mem _ (ih h).1,(ih h).2⟩
def G.named (g:G) (nm:ByteArray):G:=match g with | .no=>.no | .mk _ d o n s=>.mk nm d o n s
def jaq (L:List G):List ByteArray→Int→Int
 | [],out=>out
 | nm::r,out=>match jag L nm with
  | some g=>if 0<g.deep then (if 0≤out∧out≠g.len then -1 else jaq L r g.len) else jaq L r out
  | none=>jaq L r out
def jaA (L:List G) (t:Nat) (ns:List ByteArray):List G:=ns.filterMap fun nm=>(jag L nm).bind fun g=>if 0<g.deep∧t<g.len then some ((g.sm t).named nm) else none
def jam (t:X):List ByteArray:=(jaz t ([],false)).1
abbrev FX:Type:=List X×Nat×Nat
def FX.join (a b:FX):FX:=(a.1++b.1,a.2.1+b.2.1,a.2.2+b.2.2)
def jaV (f:Nat→Option FX):Nat→Option FX
 | 0=>some ([],0,0)
 | n+1=>(jaV f n).bind fun a=>(f n).map fun b=>a.join b
def jcC (kid:Nat→X) (f:Nat→List G→Option FX) (L:List G) (len:Nat):Nat→Nat→Option FX
 | 0,_=>some ([],0,0)
 | k+1,i =>
  if jan (kid i)=true then none
  else if i+1<len∧jan (kid (i+1))=true then
   (if jaq L (jam (kid i)) (-1)<0 then none else jaV (fun t=>f i (jaA L t (jam (kid i))++L)) (jaq L (jam (kid i)) (-1)).toNat).bind fun a=>(match k with|0=>some ([],0,0)|k'+1=>jcC kid f L len k' (i+2)).map fun b=>a.join b
  else (f i L).bind fun a=>(jcC kid f L len k (i+1)).map fun b=>a.join b
def jaI:X→List G→Option FX
 | .no,_=>none
 | .mk op a n s set len kid,L =>
  if op=2 then (match jag L s with
   | none=>if (s.toList==jb3)=true then none else some ([.mk op a n s set len kid],1,0)
   | some g=>if g.deep=0 then some ([g.one],1,g.one.count) else none)
  else if op=1 then some ([.mk op a n s set len kid],1,0)
  else (jcC kid (fun i L=>jaI (kid i) L) L len len 0).map fun ks=>([.mk op a 0 ⟨#[]⟩ [] ks.1.length (fun i=>ks.1.getD i .no)],ks.2.1+1,ks.2.2)
def jaR (l:List X):Nat:=(l.map X.count).sum
theorem jcA (a b:List X):jaR (a++b)=jaR a+jaR b:=by simp [jaR]
def okF (r:FX):Prop:=r.2.1≤jaR r.1∧r.2.2≤jaR r.1
theorem jdV {a b:FX} (ha:okF a) (hb:okF b):okF (a.join b):=by
 unfold okF FX.join at *
 rw [jcA]
 simp only
 omega
theorem jow {f:Nat→Option FX} {n:Nat} (h:∀ t,t<n→∀ r,f t=some r→okF r):∀ r,jaV f n=some r→okF r:=by
 induction n with
 | zero=>intro r hr;simp only [jaV] at hr;injection hr with hr;subst hr;exact ⟨Nat.le_refl _,Nat.le_refl _⟩
 | succ n ih =>
  intro r hr
  simp only [jaV] at hr
  cases ha:jaV f n with
  | none=>rw [ha] at hr;cases hr
  | some a =>
   cases hb:f n with
   | none=>rw [ha,hb] at hr;cases hr
   | some b =>
    rw [ha,hb] at hr
    injection hr with hr
    subst hr
    exact jdV (ih (fun t ht=>h t (by omega)) a ha) (h n (by omega) b hb)
theorem bind_some {α β:Type} {o:Option α} {f:α→Option β} {r:β} (h:o.bind f=some r):∃ a,o=some a∧f a=some r:=by
 cases o with
 | none=>cases h
 | some a=>exact ⟨a,rfl,h⟩
theorem jar {α β:Type} {o:Option α} {f:α→β} {r:β} (h:o.map f=some r):∃ a,o=some a∧f a=r:=by
 cases o with
 | none=>cases h
 | some a=>exact ⟨a,rfl,by injection h⟩
theorem jn0 {kid:Nat→X} {f:Nat→List G→Option FX} {L:List G} {len:Nat} (h:∀ i L r,f i L=some r→okF r):∀ k i r,jcC kid f L len k i=some r→okF r:=by
 have hnil:okF ([],0,0):=⟨nlr _,nlr _⟩
 have ht:∀ i a,(if jaq L (jam (kid i)) (-1)<0 then none else jaV (fun t=>f i (jaA L t (jam (kid i))++L)) (jaq L (jam (kid i)) (-1)).toNat)=some a→okF a:=fun i a ha=>by
  split at ha
  ·cases ha
  ·exact jow (fun t _ r hr=>h i _ r hr) a ha
 intro k
 induction k using Nat.strongRecOn with
 | ind k ih =>
  intro i r hr
  match k,ih,hr with
  | 0,_,hr=>simp only [jcC] at hr;injection hr with hr;subst hr;exact hnil
  | 1,ih,hr =>
   simp only [jcC] at hr
   split at hr
   ·cases hr
   ·split at hr
    ·obtain ⟨a,ha,hr⟩:=bind_some hr
     obtain ⟨b,hb,rfl⟩:=jar hr
     injection hb with hb
     subst hb
     exact jdV (ht i a ha) hnil
    ·obtain ⟨a,ha,hr⟩:=bind_some hr
     obtain ⟨b,hb,rfl⟩:=jar hr
     injection hb with hb
     subst hb
     exact jdV (h i L a ha) hnil
  | k+2,ih,hr =>
   simp only [jcC] at hr
   split at hr
   ·cases hr
   ·split at hr
    ·obtain ⟨a,ha,hr⟩:=bind_some hr
     obtain ⟨b,hb,rfl⟩:=jar hr
     exact jdV (ht i a ha) (ih k (by omega) _ b hb)
    ·obtain ⟨a,ha,hr⟩:=bind_some hr
     obtain ⟨b,hb,rfl⟩:=jar hr
     exact jdV (h i L a ha) (ih (k+1) (by omega) (i+1) b hb)
theorem jgi (l:List X):sumX (fun i=>(l.getD i .no).count) l.length=jaR l:=by
 have h:∀ k,k≤l.length→sumX (fun i=>(l.getD i .no).count) k=jaR (l.take k):=by
  intro k
  induction k with
  | zero=>intro _;simp [sumX,jaR]
  | succ k ih =>
   intro hk
   simp only [sumX]
   rw [ih (by omega),List.take_succ_eq_append_getElem hk,jcA,lgd,lgg hk,Option.getD_some]
   simp [jaR]
 have:=h l.length (nlr _)
 rwa [List.take_length] at this
theorem jiu (t:X):∀ (L:List G) (r:FX),jaI t L=some r→okF r∧r.1.length=1:=by
 induction t with
 | no=>intro L r h;cases h
 | mk op a n s set len kid ih =>
  intro L r h
  rw [jaI] at h
  have hp:∀ t:X,1≤jaR [t]:=fun t=>by have:=t.count_pos;simp [jaR];omega
  split at h
  ·split at h
   ·split at h
    ·cases h
    ·injection h with h;subst h;exact ⟨⟨hp _,nzl _⟩,rfl⟩
   ·split at h
    ·injection h with h
     subst h
     exact ⟨⟨hp _,by simp [jaR]⟩,rfl⟩
    ·cases h
  ·split at h
   ·injection h with h;subst h;exact ⟨⟨hp _,nzl _⟩,rfl⟩
   ·cases hk:jcC kid (fun i L=>jaI (kid i) L) L len len 0 with
    | none=>rw [hk] at h;cases h
    | some ks =>
     rw [hk] at h
     injection h with h
     subst h
     have hok:=jn0 (fun i L r hr=>(ih i L r hr).1) len 0 ks hk
     have hc:jaR [X.mk op a 0 ⟨#[]⟩ [] ks.1.length (fun i=>ks.1.getD i .no)]=1+jaR ks.1:=by
      rw [←jgi ks.1]
      simp [jaR,X.count]
     refine ⟨⟨?_,?_⟩,rfl⟩
     ·rw [hc];have:=hok.1;simp only;omega
     ·rw [hc];have:=hok.2;simp only;omega
structure GR where
 g:G
 sv:Value
 kv:Value
 gv:Value
def jba (q:GR):List Value:=[.string q.g.name,.int .i64 q.g.deep,.int .i64 q.g.one.op,.int .i64 q.g.one.at_,.int .i64 q.g.one.n,.string q.g.one.s,q.sv,q.kv,q.gv]
def jak (l:List GR):List Value:=l.flatMap jba
abbrev aggG (g:G) (sv kv gv:Value):Value:=.agg #[.string g.name,.int .i64 g.deep,.int .i64 g.one.op,.int .i64 g.one.at_,.int .i64 g.one.n,.string g.one.s,sv,kv,gv]
theorem jb9 (a b:List GR):jak (a++b)=jak a++jak b:=by simp [jak]
theorem jdh (l:List GR) (q:GR):jak (l++[q])=jak l++jba q:=by rw [jb9];simp [jak]
theorem jbq (l:List GR):(jak l).length=l.length*9:=by
 induction l with
 | nil=>rfl
 | cons t r ih=>simp only [jak,List.flatMap_cons,List.length_append,List.length_cons] at ih ⊢;rw [ih];simp [jba];omega
theorem jgZ (l:List GR) (junk:List Value):∀ (i:Nat) (q:GR),l[i]? = some q→∀ j,j<9→(jak l++junk)[i*9+j]? = (jba q)[j]? := by
 induction l with
 | nil=>intro i q h;simp at h
 | cons x r ih =>
  intro i q h j hj
  have e:jak (x::r)++junk=jba x++(jak r++junk):=by simp [jak]
  have hl:(jba x).length=9:=rfl
  rw [e]
  cases i with
  | zero =>
   simp at h;subst h
   rw [List.getElem?_append_left (by omega)];congr 1;omega
  | succ i =>
   simp at h
   rw [List.getElem?_append_right (by omega),hl]
   have:=ih i q h j hj
   rw [←this];congr 1;omega
theorem jej (q:GR) (h1:q.sv.oneCell'=true) (h2:q.kv.oneCell'=true) (h3:q.gv.oneCell'=true):∀ x∈jba q,x.oneCell'=true:=by
 intro x hx
 simp only [jba,List.mem_cons,List.not_mem_nil,or_false] at hx
 rcases hx with rfl|rfl|rfl|rfl|rfl|rfl|rfl|rfl|rfl
 ·rfl
 ·rfl
 ·rfl
 ·rfl
 ·rfl
 ·rfl
 ·exact h1
 ·exact h2
 ·exact h3
theorem jdQ:(Tryz.prog.info? 42).map (fun i=>(i.zero,i.size,i.bytes))=some (some (.agg #[.string ⟨#[]⟩,.int .i64 0,.int .i64 0,.int .i64 0,.int .i64 0,.string ⟨#[]⟩,.slice none 0 0,.slice none 0 0,.slice none 0 0]),9,136):=by kernel_rfl
def GOwn (w:World):G→Value→Value→Value→List Nat→Prop
 | .no,_,_,_,_=>False
 | .mk name _ one len sm,sv,kv,v,S=>name.size≤maxLen∧∃ S1 S2,S=S1++S2∧XOwn w one sv kv S1 ∧
  ((len=0∧v=.slice none 0 0∧S2=[]) ∨
   ∃ (g cap:Nat) (l:List GR) (SS:List (List Nat)),v=.slice (some ⟨g,0,none⟩) len cap∧w.ownsRow 0 42 9 (.slice (some ⟨g,0,none⟩) len cap) len (jak l)∧l.length=len∧SS.length=len∧S2=g::SS.flatten ∧
    ∀ i,i<len→∃ a b c T,l[i]? = some ⟨sm i,a,b,c⟩∧SS[i]? = some T∧GOwn w (sm i) a b c T)
def GsOwn (w:World) (len:Nat) (sm:Nat→G) (v:Value) (S:List Nat):Prop :=
  (len=0∧v=.slice none 0 0∧S=[]) ∨
   ∃ (g cap:Nat) (l:List GR) (SS:List (List Nat)),v=.slice (some ⟨g,0,none⟩) len cap∧w.ownsRow 0 42 9 (.slice (some ⟨g,0,none⟩) len cap) len (jak l)∧l.length=len∧SS.length=len∧S=g::SS.flatten ∧
    ∀ i,i<len→∃ a b c T,l[i]? = some ⟨sm i,a,b,c⟩∧SS[i]? = some T∧GOwn w (sm i) a b c T
theorem GOwn.parts {w:World} {g:G} {sv kv v:Value} {S:List Nat} (h:GOwn w g sv kv v S):g.name.size≤maxLen∧∃ S1 S2,S=S1++S2∧XOwn w g.one sv kv S1∧GsOwn w g.len g.sm v S2:=by
 cases g with
 | no=>exact h.elim
 | mk name deep one len sm=>unfold GOwn at h;exact h
theorem GOwn.mk' {w:World} {name:ByteArray} {deep:Int} {one:X} {len:Nat} {sm:Nat→G} {sv kv v:Value} {S1 S2:List Nat} (hn:name.size≤maxLen) (h1:XOwn w one sv kv S1) (h2:GsOwn w len sm v S2):GOwn w (.mk name deep one len sm) sv kv v (S1++S2):=by
 unfold GOwn;exact ⟨hn,S1,S2,rfl,h1,h2⟩
theorem GOwn.same {w w':World} (g:G):∀ {sv kv v:Value} {S:List Nat},GOwn w g sv kv v S→(∀ x∈S,w'.heap[x]? = w.heap[x]?)→GOwn w' g sv kv v S:=by
 induction g with
 | no=>intro sv kv v S h;exact h.elim
 | mk name deep one len sm ih =>
  intro sv kv v S h hs
  unfold GOwn at h ⊢
  obtain ⟨hn,S1,S2,rfl,hx,hr⟩:=h
  refine ⟨hn,S1,S2,rfl,hx.same _ (fun x hx'=>hs x (List.mem_append_left _ hx')),?_⟩
  rcases hr with h0|⟨b,cap,l,SS,h1,h2,h3,h4,h6,h7⟩
  ·exact .inl h0
  ·refine .inr ⟨b,cap,l,SS,h1,jaM h2 (fun g' hg'=>?_),h3,h4,h6,fun i hi=>?_⟩
   ·simp only [Value.ownBlock,Option.some.injEq] at hg'
    subst hg'
    exact hs b (by rw [h6];simp)
   ·obtain ⟨a,b',c,T,k1,k2,k3⟩:=h7 i hi
    exact ⟨a,b',c,T,k1,k2,ih i k3 (fun x hx'=>hs x (by rw [h6];exact List.mem_append_right _ (List.mem_cons_of_mem _ (jaD k2 hx'))))⟩
theorem GsOwn.same {w w':World} {len:Nat} {sm:Nat→G} {v:Value} {S:List Nat} (h:GsOwn w len sm v S) (hs:∀ x∈S,w'.heap[x]? = w.heap[x]?):GsOwn w' len sm v S:=by
 rcases h with h0|⟨b,cap,l,SS,h1,h2,h3,h4,h6,h7⟩
 ·exact .inl h0
 ·refine .inr ⟨b,cap,l,SS,h1,jaM h2 (fun g' hg'=>?_),h3,h4,h6,fun i hi=>?_⟩
  ·simp only [Value.ownBlock,Option.some.injEq] at hg'
   subst hg'
   exact hs b (by rw [h6];simp)
  ·obtain ⟨a,b',c,T,k1,k2,k3⟩:=h7 i hi
   exact ⟨a,b',c,T,k1,k2,k3.same _ (fun x hx'=>hs x (by rw [h6];exact List.mem_cons_of_mem _ (jaD k2 hx')))⟩
theorem GsOwn.there {w:World} {len:Nat} {sm:Nat→G} {v:Value} {S:List Nat} (h:GsOwn w len sm v S) (hd:∀ i,i<len→∀ a b c T,GOwn w (sm i) a b c T→∀ x∈T,x<w.heap.size):∀ x∈S,x<w.heap.size:=by
 rcases h with ⟨_,_,rfl⟩|⟨b,cap,l,SS,rfl,h2,h3,h4,rfl,h7⟩
 ·intro g hg;simp at hg
 ·intro g' hg'
  rcases List.mem_cons.1 hg' with rfl|hg'
  ·exact (h2.lt _ rfl).2
  ·obtain ⟨T,hT,hgT⟩:=List.mem_flatten.1 hg'
   obtain ⟨i,hi,rfl⟩:=List.mem_iff_getElem.1 hT
   obtain ⟨a,b',c,T',k1,k2,k3⟩:=h7 i (by omega)
   rw [lgg hi] at k2
   injection k2 with k2
   exact hd i (by omega) a b' c T' k3 g' (by rw [←k2];exact hgT)
theorem GOwn.there {w:World} (g:G):∀ {sv kv v:Value} {S:List Nat},GOwn w g sv kv v S→∀ x∈S,x<w.heap.size:=by
 induction g with
 | no=>intro sv kv v S h;exact h.elim
 | mk name deep one len sm ih =>
  intro sv kv v S h x hx
  obtain ⟨_,S1,S2,rfl,h1,h2⟩:=h.parts
  rcases lma.1 hx with hx|hx
  ·exact h1.there _ x hx
  ·exact (show GsOwn w len sm v S2 from h2).there (fun i _ a b c T k=>ih i k) x hx
theorem GsOwn.congr {w:World} {len:Nat} {sm sm':Nat→G} {v:Value} {S:List Nat} (h:GsOwn w len sm v S) (he:∀ i,i<len→sm i=sm' i):GsOwn w len sm' v S:=by
 rcases h with h0|⟨g,cap,l,SS,h1,h2,h3,h4,h6,h7⟩
 ·exact .inl h0
 ·refine .inr ⟨g,cap,l,SS,h1,h2,h3,h4,h6,fun i hi=>?_⟩
  obtain ⟨a,b,c,T,k1,k2,k3⟩:=h7 i hi
  exact ⟨a,b,c,T,by rw [k1,he i hi],k2,by rw [←he i hi];exact k3⟩
theorem GsOwn.shape {w:World} {len:Nat} {sm:Nat→G} {v:Value} {S:List Nat} (h:GsOwn w len sm v S):∃ p cap,v=.slice p len cap:=by
 rcases h with ⟨rfl,rfl,_⟩|⟨g,cap,l,SS,rfl,_⟩
 ·exact ⟨_,_,rfl⟩
 ·exact ⟨_,_,rfl⟩
theorem GOwn.shape {w:World} {g:G} {sv kv v:Value} {S:List Nat} (h:GOwn w g sv kv v S):(∃ p c,sv=.slice p g.one.set.length c)∧(∃ p c,kv=.slice p g.one.len c)∧∃ p c,v=.slice p g.len c:=by
 obtain ⟨_,S1,S2,rfl,h1,h2⟩:=h.parts
 exact ⟨h1.at0.sets.shape,h1.at0.xs.shape,h2.shape⟩
theorem joC (w:World):XOwn w jlB (.slice none 0 0) (.slice none 0 0) []:=XOwn.mk' (S2:=[]) ⟨(nzl _:(0:Nat)≤maxLen),by omega,by simp⟩ (World.ownsRow_nil _ _ _ _) (.inl ⟨rfl,rfl,rfl⟩)
theorem jn9 (w:World) (sm:Nat→G):GsOwn w 0 sm (.slice none 0 0) []:=.inl ⟨rfl,rfl,rfl⟩
structure GRow (w:World) (B:Nat) (v:Value) (L:List G) (l:List GR) (SS:List (List Nat)):Prop where
 row:w.ownsRow B 42 9 v L.length (jak l)
 len:l.length=L.length
 blocks:SS.length=L.length
 each:∀ i,i<L.length→∃ a b c T,l[i]? = some ⟨L.getD i .no,a,b,c⟩∧SS[i]? = some T∧GOwn w (L.getD i .no) a b c T
 own:(v.ownBlock.toList++SS.flatten).Nodup
theorem GRow.nil (w:World) (B:Nat):GRow w B (.slice none 0 0) [] [] []:=⟨World.ownsRow_nil _ _ _ _,rfl,rfl,fun i hi=>absurd hi (Nat.not_lt_zero _),by simp [Value.ownBlock]⟩
theorem GRow.lt {w:World} {B:Nat} {v:Value} {L:List G} {l:List GR} {SS:List (List Nat)} (h:GRow w B v L l SS):∀ x∈v.ownBlock.toList++SS.flatten,x<w.heap.size:=by
 intro x hx
 rcases lma.1 hx with hx|hx
 ·exact (h.row.lt x (by simpa using hx)).2
 ·obtain ⟨T,hT,hxT⟩:=List.mem_flatten.1 hx
  obtain ⟨i,hi,rfl⟩:=List.mem_iff_getElem.1 hT
  obtain ⟨a,b,c,T',k1,k2,k3⟩:=h.each i (by have:=h.blocks;omega)
  rw [lgg hi] at k2
  injection k2 with k2
  exact k3.there _ x (by rw [←k2];exact hxT)
theorem GRow.same {w w':World} {B:Nat} {v:Value} {L:List G} {l:List GR} {SS:List (List Nat)} (h:GRow w B v L l SS) (hs:∀ x∈v.ownBlock.toList++SS.flatten,w'.heap[x]? = w.heap[x]?):GRow w' B v L l SS :=
 ⟨jaM h.row (fun g hg=>hs g (List.mem_append_left _ (jbh hg))),h.len,h.blocks,fun i hi=>by
  obtain ⟨a,b,c,T,k1,k2,k3⟩:=h.each i hi
  exact ⟨a,b,c,T,k1,k2,k3.same _ (fun x hx=>hs x (List.mem_append_right _ (jaD k2 hx)))⟩,h.own⟩
theorem GRow.push {w w':World} {B:Nat} {v v':Value} {L:List G} {l:List GR} {SS:List (List Nat)} (h:GRow w B v L l SS) {g:G} {a b c:Value} {T:List Nat}
  (hrow:w'.ownsRow B 42 9 v' (L.length+1) (jak l++jba ⟨g,a,b,c⟩)) (hg:GOwn w' g a b c T) (hs:∀ x∈SS.flatten,w'.heap[x]? = w.heap[x]?)
  (hnd:(v'.ownBlock.toList++(SS++[T]).flatten).Nodup):GRow w' B v' (L++[g]) (l++[⟨g,a,b,c⟩]) (SS++[T]):=by
 refine ⟨by rw [lla,jdh];exact hrow,by simp [h.len],by simp [h.blocks],fun i hi=>?_,hnd⟩
 rw [lla] at hi
 rcases Nat.lt_or_ge i L.length with h1|h1
 ·obtain ⟨a',b',c',T',k1,k2,k3⟩:=h.each i h1
  have e:(L++[g]).getD i .no=L.getD i .no:=by simp [List.getD_eq_getElem?_getD,List.getElem?_append_left h1]
  rw [e]
  exact ⟨a',b',c',T',by rw [List.getElem?_append_left (by rw [h.len];omega)];exact k1,by rw [List.getElem?_append_left (by rw [h.blocks];omega)];exact k2,k3.same _ (fun x hx=>hs x (jaD k2 hx))⟩
 ·have hie:i=L.length:=by simp at hi;omega
  subst hie
  have e:(L++[g]).getD L.length .no=g:=by simp [List.getD_eq_getElem?_getD]
  rw [e]
  exact ⟨a,b,c,T,by rw [List.getElem?_append_right (by rw [h.len];omega),h.len];simp,by rw [List.getElem?_append_right (by rw [h.blocks];omega),h.blocks];simp,hg⟩
abbrev put9 (w:World) (g p:Nat) (q:GR):World :=
 ((((((((w.setCell ⟨g,p,none⟩ (.string q.g.name)).setCell ⟨g,p+1,none⟩ (.int .i64 q.g.deep)).setCell ⟨g,p+2,none⟩ (.int .i64 q.g.one.op)).setCell ⟨g,p+3,none⟩ (.int .i64 q.g.one.at_)).setCell ⟨g,p+4,none⟩ (.int .i64 q.g.one.n)).setCell ⟨g,p+5,none⟩ (.string q.g.one.s)).setCell ⟨g,p+6,none⟩ q.sv).setCell ⟨g,p+7,none⟩ q.kv).setCell ⟨g,p+8,none⟩ q.gv
theorem set9 (l:List GR) (junk:List Value) (hj:9≤junk.length) (q:GR) :
  (((((((((jak l++junk).set (l.length*9) (.string q.g.name)).set (l.length*9+1) (.int .i64 q.g.deep)).set (l.length*9+2) (.int .i64 q.g.one.op)).set (l.length*9+3) (.int .i64 q.g.one.at_)).set (l.length*9+4) (.int .i64 q.g.one.n)).set (l.length*9+5) (.string q.g.one.s)).set (l.length*9+6) q.sv).set (l.length*9+7) q.kv).set (l.length*9+8) q.gv=jak l++(jba q++junk.drop 9):=by
 have hl:=jbq l
 have s:∀ (c:List Value) (j:Nat) (x:Value),(jak l++c).set (l.length*9+j) x=jak l++c.set j x:=by
  intro c j x
  rw [List.set_append_right _ _ (by omega),hl]
  congr 2;omega
 have s0:=s junk 0 (.string q.g.name)
 rw [Nat.add_zero] at s0
 rw [s0,s,s,s,s,s,s,s,s]
 match junk,hj with
 | a::b::c::d::e::f::g::h::i::r,_=>simp [jba]
theorem joc {w:World} {base e g cap n:Nat} {l:List GR} {junk:List Value} (h:w.ownsRow base e 9 (.slice (some ⟨g,0,none⟩) n cap) n (jak l++junk)) (hj:9≤junk.length) (q:GR) :
  (put9 w g (l.length*9) q).ownsRow base e 9 (.slice (some ⟨g,0,none⟩) n cap) n (jak l++(jba q++junk.drop 9))∧w.grownBy (put9 w g (l.length*9) q) (some g):=by
 obtain ⟨q1,g1⟩:=h.stored (l.length*9) (.string q.g.name)
 obtain ⟨q2,g2⟩:=q1.stored (l.length*9+1) (.int .i64 q.g.deep)
 obtain ⟨q3,g3⟩:=q2.stored (l.length*9+2) (.int .i64 q.g.one.op)
 obtain ⟨q4,g4⟩:=q3.stored (l.length*9+3) (.int .i64 q.g.one.at_)
 obtain ⟨q5,g5⟩:=q4.stored (l.length*9+4) (.int .i64 q.g.one.n)
 obtain ⟨q6,g6⟩:=q5.stored (l.length*9+5) (.string q.g.one.s)
 obtain ⟨q7,g7⟩:=q6.stored (l.length*9+6) q.sv
 obtain ⟨q8,g8⟩:=q7.stored (l.length*9+7) q.kv
 obtain ⟨q9,g9⟩:=q8.stored (l.length*9+8) q.gv
 rw [set9 l junk hj q] at q9
 exact ⟨q9,jcl (jcl (jcl (jcl (jcl (jcl (jcl (jcl g1 g2) g3) g4) g5) g6) g7) g8) g9⟩
theorem jk4 (w:World) (g p:Nat) (q:GR) (x:Nat) (hx:x≠g):(put9 w g p q).heap[x]? = w.heap[x]? := by
 unfold put9
 rw [bhs _ _ _ _ (by exact hx),bhs _ _ _ _ (by exact hx),bhs _ _ _ _ (by exact hx),bhs _ _ _ _ (by exact hx),bhs _ _ _ _ (by exact hx),bhs _ _ _ _ (by exact hx),bhs _ _ _ _ (by exact hx),bhs _ _ _ _ (by exact hx),bhs _ _ _ _ (by exact hx)]
theorem jhY (xs ys:List Int) (v u:Value) (w:World) (hv:Rd w v xs) (hu:Rd w u ys) (hl:xs.length≤4194304) (_hl2:ys.length≤4194304) :
  Calls Tryz.prog 78 #[v,u] w fun e w'=>e=.returned (.bool (jcw xs ys))∧Below w.heap.size w w':=by
 obtain ⟨a,cap,rfl,hc⟩:=hv.shape
 obtain ⟨a2,cap2,rfl,hc2⟩:=hu.shape
 have HC:Hid (∀ j,j<xs.length→∃ b off,a=some ⟨b,off,none⟩∧w.cell? ⟨b,off+j,none⟩=some (.int .i64 (xs.getD j 0))):=hc
 have HC2:Hid (∀ j,j<ys.length→∃ b off,a2=some ⟨b,off,none⟩∧w.cell? ⟨b,off+j,none⟩=some (.int .i64 (ys.getD j 0))):=hc2
 clear hc hv hc2 hu
 by_cases hne:xs.length=ys.length
 ·rw [←hne] at HC2 ⊢
  have HNE:Hid (xs.length=ys.length):=hne
  clear hne
  obtain ⟨m,hm⟩:∃ m,m=xs.length:=⟨_,rfl⟩
  rw [←hm] at HC HC2 hl ⊢
  have HM:Hid (m=xs.length):=hm
  clear hm
  go_enter Tryz.func78,Tryz.ntmps78
  go_wp2
  go_loopw [13] (fun i wr=>∃ k:Nat,k≤m∧i=.int .i64 k∧(∀ j,j<k→xs.getD j 0=ys.getD j 0)∧Below w.heap.size w wr) (fun i _=>m-(intOf i).toNat)
  case atStart=>exact ⟨0,by omega,rfl,fun j hj=>by omega,brf _ _⟩
  case round =>
   obtain ⟨k,hk,rfl,hno,hb⟩:=hrel
   have HNO:Hid (∀ j,j<k→xs.getD j 0=ys.getD j 0):=hno
   have HB:Hid (Below w.heap.size w wr):=hb
   clear hno hb
   by_cases hlt:(k:Int)<m
   ·obtain ⟨b,off,rfl,hcell⟩:=HC.out k (by omega)
    obtain ⟨b2,off2,rfl,hcell2⟩:=HC2.out k (by omega)
    generalize hx:xs.getD k 0=x at hcell
    generalize hy:ys.getD k 0=y at hcell2
    have HX:Hid (xs.getD k 0=x):=hx
    have HY:Hid (ys.getD k 0=y):=hy
    clear hx hy
    have c1:=cell_later HB.out hcell
    have c2:=cell_later HB.out hcell2
    clear hcell hcell2
    cases he:(x != y)
    ·go_wp2_with fail
     go_quiet (fail)
     go_wp2
     go_roundw
     case rel =>
      refine ⟨k+1,by omega,by go_num,fun j hj=>?_,below_drewN HB.out _⟩
      by_cases hjk:j=k
      ·subst hjk;rw [HX.out,HY.out];simpa using he
      ·exact HNO.out j (by omega)
     case measure=>simp [intOf];omega
    ·go_wp2_with fail
     go_quiet (fail)
     go_wp2
     go_ret
     rw [jpk k (by rw [HX.out,HY.out];simpa using he)]
     exact ⟨rfl,below_drewN HB.out _⟩
   ·go_wp2
    go_ret
    have hke:k=m:=by omega
    subst hke
    rw [jon HNE.out (fun i hi=>HNO.out i (by rw [HM.out];exact hi))]
    exact ⟨rfl,HB.out⟩
 ·have HS:Hid (jcw xs ys=false):=jom hne
  have hd:((xs.length:Int) != (ys.length:Int))=true:=by simp;omega
  generalize xs.length=m at *
  generalize ys.length=m2 at *
  clear HC HC2
  go_enter Tryz.func78,Tryz.ntmps78
  go_wp2
  go_ret
  rw [HS.out]
  exact ⟨rfl,brf _ _⟩
theorem jg0 (xs ys:List Int) (v u:Value) (w:World) (hv:Rd w v xs) (hu:Rd w u ys) (hl:xs.length≤4194304) (_hl2:ys.length≤4194304) :
  Calls Tryz.prog 49 #[v,u] w fun e w'=>e=.returned (.bool (jcw xs ys))∧Below w.heap.size w w':=by
 go_enter Tryz.func49,Tryz.ntmps49
 go_wp2_with fail
 refine (jhY xs ys v u w hv hu hl _hl2).mono ?_
 rintro e w1 ⟨rfl,hb⟩
 go_wp2
 go_ret
 exact ⟨rfl,hb⟩
end Go.Proofs.YtjmlfacbcfbhdaaGreatDoor
