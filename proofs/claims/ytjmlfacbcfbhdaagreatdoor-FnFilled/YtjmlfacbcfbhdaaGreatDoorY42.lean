/- impl.firstOfName: it makes that finder. Condition: at most 2^40 Gots. -/
import Derived.Test.YtjmlfacbcfbhdaaGreatDoorYA
import Derived.Test.YtjmlfacbcfbhdaaGreatDoorY16
import Derived.Test.YtjmlfacbcfbhdaaGreatDoorY36
import Derived.Test.YtjmlfacbcfbhdaaGreatDoorY41
import Derived.Test.YtjmlfacbcfbhdaaGreatDoorY0
import Derived.Test.YtjmlfacbcfbhdaaGreatDoorY17
import Derived.Test.YtjmlfacbcfbhdaaGreatDoorY39
import Derived.Test.YtjmlfacbcfbhdaaGreatDoorY20
import Derived.Test.YtjmlfacbcfbhdaaGreatDoorY22
import Derived.Deep.Cut
set_option maxRecDepth 100000
set_option maxHeartbeats 8000000
namespace Go.Proofs.YtjmlfacbcfbhdaaGreatDoor
open Go.ChangeShapes Go.WideShapes Go.ChangeAt Go.RowKit
theorem GsOwn.toN {w:World} {B:Nat} {L:List G} {v:Value} {S:List Nat} (h:GsOwn w L.length (fun i=>L.getD i .no) v S) (hn:S.Nodup) (hB:∀ k∈S,B≤k):GN w B v L:=by
 rcases h with ⟨h0,rfl,rfl⟩|⟨g,cap,l,SS,rfl,h2,h3,h4,rfl,h7⟩
 ·have hL:L=[]:=List.eq_nil_of_length_eq_zero h0
  subst hL
  exact ⟨[],[],GRow.nil w B,by simp [blG,Value.ownBlock]⟩
 ·refine ⟨l,SS,⟨jdW h2 (fun g' hg'=>?_),h3,h4,h7,hn⟩,fun k hk=>hB k hk⟩
  have e:g=g':=Option.some.inj hg'
  subst e
  exact hB _ (by simp)
structure DrawnF (w w':World) (t:X) (su u:Value) (L:List G) (v:Value):Prop where
 at_:t.At 0 w' su u
 gs:GsAt w' L.length (fun i=>L.getD i .no) v
 wt:t.weight≤1048576
 ok:∀ g∈L,GW g
 few:L.length≤1000000
 plain:∀ g∈L,(g.name.toList==jb3)=false
 bel:Below w.heap.size w w'
theorem jcD {w w':World} {t:X} {su u:Value} {S:List Nat} (h:NewX w w' t su u S):t.weight≤1048576:=by
 have h1:=X.weight_sets t h.st
 have h2:=h.wt
 omega
def qG:G:=.mk ⟨#[113]⟩ 0 (.mk 1 0 5 ⟨#[]⟩ [] 0 (fun _=>.no)) 0 (fun _=>.no)
def zG:G:=.mk ⟨#[122]⟩ 1 (.mk 0 0 0 ⟨#[]⟩ [] 0 (fun _=>.no)) 1 (fun _=>qG)
theorem jjC (w:World) (op n:Int) (hn:-9223372036854775808≤n∧n≤9223372036854775807):XOwn w (.mk op 0 n ⟨#[]⟩ [] 0 (fun _=>.no)) (.slice none 0 0) (.slice none 0 0) [] :=
 XOwn.mk' (S2:=[]) ⟨nzl _,hn,nzl _⟩ ⟨rfl,.inl ⟨rfl,rfl⟩⟩ (.inl ⟨rfl,rfl,rfl⟩)
theorem jpM (w:World):GOwn w qG (.slice none 0 0) (.slice none 0 0) (.slice none 0 0) []:=GOwn.mk' (S1:=[]) (S2:=[]) (by decide) (jjC w 1 5 (by omega)) (.inl ⟨rfl,rfl,rfl⟩)
theorem jpP {w:World} {b:Nat} (h:w.heap[b]? = some (.cells #[.string ⟨#[113]⟩,.int .i64 0,.int .i64 1,.int .i64 0,.int .i64 5,.string ⟨#[]⟩,.slice none 0 0,.slice none 0 0,.slice none 0 0] 42 (0,0))):GOwn w zG (.slice none 0 0) (.slice none 0 0) (.slice (some ⟨b,0,none⟩) 1 1) [b]:=by
 refine GOwn.mk' (S1:=[]) (S2:=[b]) (by decide) (jjC w 0 0 (by omega)) (.inr ⟨b,1,[⟨qG,.slice none 0 0,.slice none 0 0,.slice none 0 0⟩],[[]],rfl,?_,rfl,rfl,rfl,fun i hi=>?_⟩)
 ·exact ⟨rfl,.inr ⟨b,1,_,rfl,nzl _,h,nlr _,(by unfold maxLen;omega),rfl,rfl⟩⟩
 ·obtain rfl:i=0:=by omega
  exact ⟨_,_,_,[],rfl,rfl,jpM w⟩
theorem jpA:((⟨#[122]⟩:ByteArray).toList==jb3)=false:=by rw [ByteArray.toList_eq];rfl
theorem jpz:((⟨#[120]⟩:ByteArray).toList==jb3)=false:=by rw [ByteArray.toList_eq];rfl
theorem jpW:GW qG:=⟨by decide,fun i hi=>absurd hi (Nat.not_lt_zero _)⟩
theorem jpY:GW zG:=⟨by decide,fun _ _=>jpW⟩
theorem jhx (a:Option Addr) (len cap:Nat) (w:World) (hc:CodeOk a len w.heap.size w) :
  Calls Tryz.prog 5 #[.slice a len cap] w fun e w'=>∃ (t:X) (p q r:Option Addr) (n1 n2 n3 n4 n5 n6:Nat) (L:List G),e=.returned (.tuple #[.agg #[.int .i64 t.op,.int .i64 t.at_,.int .i64 t.n,.string t.s,.slice p n1 n2,.slice q n3 n4],.slice r n5 n6])∧DrawnF w w' t (.slice p n1 n2) (.slice q n3 n4) L (.slice r n5 n6):=by
 obtain ⟨R,hR⟩:∃ R,R=w.heap.size:=⟨_,rfl⟩
 obtain ⟨w0,hw0⟩:∃ w0,w0=w.alloc (.cells #[.int .i64 0,.int .i64 0,.int .i64 0,.string ⟨#[]⟩,.slice none 0 0,.slice none 0 0] 27):=⟨_,rfl⟩
 have nb:Below w.heap.size w w0:=by rw [hw0];exact newx w _
 have h6:w0.heap[R]? = some (.cells #[.int .i64 0,.int .i64 0,.int .i64 0,.string ⟨#[]⟩,.slice none 0 0,.slice none 0 0] 27 (0,0)):=by rw [hw0,hR];exact han w _
 have HWW:Hid (w0=w.alloc (.cells #[.int .i64 0,.int .i64 0,.int .i64 0,.string ⟨#[]⟩,.slice none 0 0,.slice none 0 0] 27)∧R=w.heap.size):=⟨hw0,hR⟩
 have H0:Hid (Below w.heap.size w w0∧w0.heap[R]? = some (.cells #[.int .i64 0,.int .i64 0,.int .i64 0,.string ⟨#[]⟩,.slice none 0 0,.slice none 0 0] 27 (0,0))∧w.heap.size≤R∧R<w0.heap.size):=⟨nb,h6,by omega,(aes.1 h6).1⟩
 have HC0:Hid (CodeOk a len w0.heap.size w0):=jip hc nb
 clear hR hw0 nb h6 hc
 go_enter Tryz.func5,Tryz.ntmps5
 go_upto_region 1 with fail
 rw [←HWW.out.1,←HWW.out.2]
 go_wp2_with fail
 refine (jml a len cap w0 HC0.out).mono ?_
 rintro e w1 ⟨rfl,hb1,hc1,hs1⟩
 obtain ⟨C,hC⟩:∃ C,C=w0.heap.size:=⟨_,rfl⟩
 rw [←hC] at hc1 ⊢
 have H1:Hid (Below w0.heap.size w0 w1∧CurAt C a len cap w1∧w1.heap.size=C+1∧C=w0.heap.size):=⟨hb1,hc1,by omega,hC⟩
 clear hb1 hc1 hs1 hC
 go_wp2_with fail
 refine (jen C a len cap w1 H1.out.2.1).mono ?_
 rintro e w2 ⟨p,sp,up,Sp,rfl,hp,hx2,hc2⟩
 obtain ⟨p1,c1,e1⟩:=hp.own.at0.sets.shape
 obtain ⟨p2,c2,e2⟩:=hp.own.at0.xs.shape
 subst e1 e2
 have H2:=jaC (And.intro hp (And.intro hx2 hc2))
 clear hp hx2 hc2
 go_wp2_with fail
 refine (jf9 C a len cap w2 H2.out.2.2).mono ?_
 rintro e w3 ⟨f,sf,uf,Sf,rfl,hf,hx3,hc3⟩
 obtain ⟨p3,c3,e3⟩:=hf.own.at0.sets.shape
 obtain ⟨p4,c4,e4⟩:=hf.own.at0.xs.shape
 subst e3 e4
 have hpat:p.At 0 w3 (.slice p1 p.set.length c1) (.slice p2 p.len c2):=(XOwn.same p H2.out.1.own (fun k hk=>hx3.block k (H2.out.1.own.there _ k hk) (by have a1:=H2.out.1.lo k hk;have a2:=H1.out.2.2.1;omega))).at0
 have HM:Hid (Calls Tryz.prog 11 #[.agg #[.int .i64 p.op,.int .i64 p.at_,.int .i64 p.n,.string p.s,.slice p1 p.set.length c1,.slice p2 p.len c2],.agg #[.int .i64 f.op,.int .i64 f.at_,.int .i64 f.n,.string f.s,.slice p3 f.set.length c3,.slice p4 f.len c4]] w3 fun e w'=>jnx (ansM p f) w3 e w'):=jh0 p f w3 _ _ _ _ hpat hf.own.at0 (jcD H2.out.1) (jcD hf)
 have H3:Hid (Ext C w1 w3∧CurAt C a len cap w3):=⟨H2.out.2.1.rise hx3,hc3⟩
 have HANS:Hid ((∀ g∈(ansM p f).getD [],GW g)∧(∀ g∈(ansM p f).getD [],(g.name.toList==jb3)=false)∧((ansM p f).getD []).length≤900000):=by
  unfold ansM
  split
  ·rename_i hok
   rw [Bool.and_eq_true] at hok
   cases hm:jai p f with
   | none=>exact ⟨by simp,by simp,by simp⟩
   | some l =>
    have hfw:=jcD hf
    have hokp:okG p:=jev hok.1
    refine ⟨jn2 p f l hfw hm,jiM hokp hm,?_⟩
    rw [Option.getD_some,jcp p f l hokp hm]
    have h1:=jdk p 0
    have h2:=p.count_weight
    have h3:=X.weight_sets p H2.out.1.st
    have h4:=H2.out.1.wt
    omega
  ·exact ⟨by simp,by simp,by simp⟩
 clear hf hx3 hc3 hpat
 generalize ansM p f=ans at *
 go_wp2_with fail
 refine HM.out.mono ?_
 rintro e w4 ⟨hb4,v,S,rfl,hgs,hSn,hSl⟩
 obtain ⟨pl,cl,el⟩:=hgs.shape
 subst el
 have H4:Hid (Below w3.heap.size w3 w4∧CurAt C a len cap w4∧GN w4 w3.heap.size (.slice pl (ans.getD []).length cl) (ans.getD [])):=⟨hb4,H3.out.2.below' hb4,hgs.toN hSn hSl⟩
 clear hb4 hgs hSn hSl HM
 generalize ans.getD []=L0 at *
 go_wp2_with fail
 refine (jdT C a len cap w4 H4.out.2.1).mono ?_
 rintro e w5 ⟨t,st,ut,St,rfl,ht,hx5,hc5⟩
 obtain ⟨p5,c5,e5⟩:=ht.own.at0.sets.shape
 obtain ⟨p6,c6,e6⟩:=ht.own.at0.xs.shape
 subst e5 e6
 obtain ⟨GB,hG⟩:∃ GB,GB=w5.heap.size:=⟨_,rfl⟩
 obtain ⟨w6,hw6⟩:∃ w6,w6=w5.alloc (.cells #[.int .i64 t.op,.int .i64 t.at_,.int .i64 t.n,.string t.s,.slice p5 t.set.length c5,.slice p6 t.len c6] 27):=⟨_,rfl⟩
 have nb6:Below w5.heap.size w5 w6:=by rw [hw6];exact newx w5 _
 have hs6:w6.heap.size=GB+1:=by rw [hw6,hG];simp
 have HW6:Hid (w6=w5.alloc (.cells #[.int .i64 t.op,.int .i64 t.at_,.int .i64 t.n,.string t.s,.slice p5 t.set.length c5,.slice p6 t.len c6] 27)∧GB=w5.heap.size):=⟨hw6,hG⟩
 have h36:w1.heap.size≤w3.heap.size∧w3.heap.size≤w4.heap.size∧w4.heap.size≤w5.heap.size:=⟨H3.out.1.size,H4.out.1.size,hx5.size⟩
 have HZW:=jaC h36
 have H6:Hid (Ext C w4 w6∧CurAt C a len cap w6∧XOwn w6 t (.slice p5 t.set.length c5) (.slice p6 t.len c6) St∧(∀ k∈St,w4.heap.size≤k)∧w6.heap[GB]? = some (.cells #[.int .i64 t.op,.int .i64 t.at_,.int .i64 t.n,.string t.s,.slice p5 t.set.length c5,.slice p6 t.len c6] 27 (0,0))∧w6.heap.size=GB+1∧w4.heap.size≤GB∧t.weight≤1048576∧GN w6 w3.heap.size (.slice pl L0.length cl) L0) :=
  ⟨hx5.rise (Ext.new nb6),hc5.below' nb6,XOwn.same t ht.own (fun k hk=>nb6.block k (ht.own.there _ k hk)),ht.lo,by rw [hw6,hG];exact han w5 _,hs6,by rw [hG];exact hx5.size,jcD ht,
   (H4.out.2.2.same (fun k hk hk2=>hx5.block k hk2 (by have a1:=H1.out.2.2.1;omega))).below nb6⟩
 clear ht hx5 hc5 nb6 hw6 hG hs6 h36
 go_upto_region 4 with fail
 rw [←HW6.out.1,←HW6.out.2]
 go_wp2_with fail
 refine (jaK C a len cap 12 (by omega) w6 H6.out.2.1).mono ?_
 rintro e w7 ⟨⟨xi,hxi0,-,-,rfl⟩,hx7,hc7⟩
 have hCw:w.heap.size≤C:=by have a1:=H1.out.2.2.2;have a2:=H0.out.1.size;omega
 have HB7:Hid (Below w.heap.size w w7∧w7.heap[R]? = some (.cells #[.int .i64 0,.int .i64 0,.int .i64 0,.string ⟨#[]⟩,.slice none 0 0,.slice none 0 0] 27 (0,0))):=by
  have b1:Below w.heap.size w w1:=H0.out.1.trans (H1.out.1.mono H0.out.1.size)
  have b3:Below w.heap.size w w3:=Ext.belowX H3.out.1 b1 hCw
  have b4:Below w.heap.size w w4:=b3.trans (H4.out.1.mono b3.size)
  have b6:Below w.heap.size w w6:=Ext.belowX H6.out.1 b4 hCw
  have hRC:R≠C:=by have a1:=H0.out.2.2.2;have a2:=H1.out.2.2.2;omega
  have r1:=(H1.out.1.block R H0.out.2.2.2).trans H0.out.2.1
  have r3:=(H3.out.1.block R (aes.1 r1).1 hRC).trans r1
  have r4:=(H4.out.1.block R (aes.1 r3).1).trans r3
  have r6:=(H6.out.1.block R (aes.1 r4).1 hRC).trans r4
  exact ⟨Ext.belowX hx7 b6 hCw,(hx7.block R (aes.1 r6).1 hRC).trans r6⟩
 have HC4:Hid (C<w3.heap.size∧R<C∧w3.heap.size≤w4.heap.size):=⟨by have a1:=H1.out.2.2.1;have a2:=HZW.out.1;omega,by have a1:=H0.out.2.2.2;have a2:=H1.out.2.2.2;omega,HZW.out.2.1⟩
 have H7:Hid (CurAt C a len cap w7∧XOwn w7 t (.slice p5 t.set.length c5) (.slice p6 t.len c6) St∧w7.heap[GB]? = some (.cells #[.int .i64 t.op,.int .i64 t.at_,.int .i64 t.n,.string t.s,.slice p5 t.set.length c5,.slice p6 t.len c6] 27 (0,0))∧GN w7 w3.heap.size (.slice pl L0.length cl) L0∧(∀ g,(Value.slice pl L0.length cl).ownBlock=some g→g<w4.heap.size)):=by
  refine ⟨hc7,XOwn.same t H6.out.2.2.1 (fun k hk=>hx7.block k (H6.out.2.2.1.there _ k hk) (by have a1:=H6.out.2.2.2.1 k hk;have a2:=HC4.out;omega)),(hx7.block GB (aes.1 H6.out.2.2.2.2.1).1 (by have a1:=H6.out.2.2.2.2.2.2.1;have a2:=HC4.out;omega)).trans H6.out.2.2.2.2.1,H6.out.2.2.2.2.2.2.2.2.same (fun k hk hk2=>hx7.block k hk2 (by have a2:=HC4.out;omega)),fun g hg=>?_⟩
  obtain ⟨l,SS,h1,_⟩:=H4.out.2.2
  exact (h1.row.lt g hg).2
 clear hx7 hc7
 have HEND:Hid (∀ (wz:World) (L:List G) (r:Option Addr) (n5 n6:Nat),Below w.heap.size w wz→wz.heap[R]? = w7.heap[R]?→XOwn wz t (.slice p5 t.set.length c5) (.slice p6 t.len c6) St→(∃ S,GsOwn wz L.length (fun i=>L.getD i .no) (.slice r n5 n6) S∧∀ k∈S,w3.heap.size≤k)→(∀ g∈L,GW g)→L.length≤1000000→(∀ g∈L,(g.name.toList==jb3)=false)→DrawnF w (put6 wz R t.op t.at_ t.n t.s (.slice p5 t.set.length c5) (.slice p6 t.len c6)) t (.slice p5 t.set.length c5) (.slice p6 t.len c6) L (.slice r n5 n6)):=by
  intro wz L r n5 n6 hb hr ho hgs hgw hfew hpl
  obtain ⟨S,hS,hSl⟩:=hgs
  have hput:∀ k,k≠R→(put6 wz R t.op t.at_ t.n t.s (.slice p5 t.set.length c5) (.slice p6 t.len c6)).heap[k]? = wz.heap[k]? := fun k hk=>jdg wz R t _ _ hk
  refine ⟨(ho.put6 (fun x hx e=>by have a1:=H6.out.2.2.2.1 x hx;have a2:=HC4.out;omega) _ _ _ _ _ _).at0,?_,H6.out.2.2.2.2.2.2.2.1,hgw,hfew,hpl,jbs hb R H0.out.2.2.1 _ _ _ _ _ _⟩
  exact (hS.same (fun k hk=>hput k (by have a1:=hSl k hk;have a2:=HC4.out;omega))).read (fun i hi a b c T h=>GOwn.read _ h)
 by_cases h0:xi=0
 ·subst h0
  obtain ⟨l,SS,hrow,hbl⟩:=H7.out.2.2.2.1
  have HROW:=jaC (And.intro hrow hbl)
  obtain ⟨W9,hW9⟩:∃ W9,W9=(w7.alloc (.cells #[.string ⟨#[113]⟩,.int .i64 0,.int .i64 1,.int .i64 0,.int .i64 5,.string ⟨#[]⟩,.slice none 0 0,.slice none 0 0,.slice none 0 0] 42)).alloc (.cells #[.string ⟨#[122]⟩,.int .i64 1,.int .i64 0,.int .i64 0,.int .i64 0,.string ⟨#[]⟩,.slice none 0 0,.slice none 0 0,.slice (some ⟨w7.heap.size,0,none⟩) 1 1] 42):=⟨_,rfl⟩
  have nb9:Below w7.heap.size w7 W9:=by rw [hW9];exact (newx w7 _).trans ((newx _ _).mono (by simp))
  have hq:W9.heap[w7.heap.size]? = some (.cells #[.string ⟨#[113]⟩,.int .i64 0,.int .i64 1,.int .i64 0,.int .i64 5,.string ⟨#[]⟩,.slice none 0 0,.slice none 0 0,.slice none 0 0] 42 (0,0)):=by rw [hW9];exact (bha _ _ _ (by simp)).trans (han w7 _)
  have hz9:W9.heap[w7.heap.size+1]? = some (.cells #[.string ⟨#[122]⟩,.int .i64 1,.int .i64 0,.int .i64 0,.int .i64 0,.string ⟨#[]⟩,.slice none 0 0,.slice none 0 0,.slice (some ⟨w7.heap.size,0,none⟩) 1 1] 42 (0,0)):=by
   have:=han (w7.alloc (.cells #[.string ⟨#[113]⟩,.int .i64 0,.int .i64 1,.int .i64 0,.int .i64 5,.string ⟨#[]⟩,.slice none 0 0,.slice none 0 0,.slice none 0 0] 42)) (.cells #[.string ⟨#[122]⟩,.int .i64 1,.int .i64 0,.int .i64 0,.int .i64 0,.string ⟨#[]⟩,.slice none 0 0,.slice none 0 0,.slice (some ⟨w7.heap.size,0,none⟩) 1 1] 42)
   rw [World.size_alloc] at this
   rw [hW9];exact this
  have hs9:W9.heap.size=w7.heap.size+1+1:=by rw [hW9];simp
  have H9:=jaC (And.intro nb9 (And.intro hq (And.intro hz9 hs9)))
  have HRW:Hid (W9.ownsRow w3.heap.size 42 9 (.slice pl L0.length cl) L0.length (jak l)):=jaY hrow.row nb9
  have HSW:Hid (w3.heap.size≤W9.heap.size):=by have a1:=HZW.out;have a2:=(aes.1 H7.out.2.2.1).1;have a3:=H6.out.2.2.2.2.2.2.1;show _≤_;omega
  have hL9:=HANS.out.2.2
  obtain ⟨iG,hiG,hzG0,hzG1,hzG2⟩:=info_parts jdQ
  have HW9:Hid (W9=_):=hW9
  clear hrow hbl nb9 hq hz9 hs9 hW9
  generalize hln:L0.length=ln at *
  have HLN:=jaC hln
  clear hln
  go_upto_region 6 with fail
  go_wp2_with (at_builtin;rw [←HW9.out];refine jbg _ rfl (.tmp 24) (.tmp 29) 28 rfl w3.heap.size 42 iG (.agg #[.string ⟨#[]⟩,.int .i64 0,.int .i64 0,.int .i64 0,.int .i64 0,.string ⟨#[]⟩,.slice none 0 0,.slice none 0 0,.slice none 0 0]) 9 136 Tryz.underlying28 hiG hzG0 hzG1 hzG2 rfl (by decide) (.slice pl ln cl) ln (jak l) rfl HRW.out ⟨w7.heap.size+1,0,none⟩ 1 1 [.string ⟨#[122]⟩,.int .i64 1,.int .i64 0,.int .i64 0,.int .i64 0,.string ⟨#[]⟩,.slice none 0 0,.slice none 0 0,.slice (some ⟨w7.heap.size,0,none⟩) 1 1] rfl rfl ?c1 ?c2 ?c3 ?c4 HSW.out (by omega) ?_)
  case c1=>exact World.news_of_block (cs:=#[.string ⟨#[122]⟩,.int .i64 1,.int .i64 0,.int .i64 0,.int .i64 0,.string ⟨#[]⟩,.slice none 0 0,.slice none 0 0,.slice (some ⟨w7.heap.size,0,none⟩) 1 1]) (t:=42) (fr:=(0,0)) H9.out.2.2.1
  case c2=>intro u hu;simp at hu;rcases hu with rfl|rfl|rfl|rfl|rfl|rfl|rfl|rfl|rfl <;> rfl
  case c3=>unfold maxLen;omega
  case c4=>omega
  intro v' w10 hown hg10 hat10
  have hgB:∀ g,(Value.slice pl ln cl).ownBlock=some g→w3.heap.size≤g∧g<w4.heap.size:=fun g hg=>⟨(HROW.out.1.row.lt g hg).1,H7.out.2.2.2.2 g hg⟩
  have h47:w4.heap.size≤w7.heap.size∧w3.heap.size≤w4.heap.size:=⟨by have a2:=(aes.1 H7.out.2.2.1).1;have a3:=H6.out.2.2.2.2.2.2.1;omega,HZW.out.2.1⟩
  have hkeep:∀ k,k<w7.heap.size→(k<w3.heap.size∨w4.heap.size≤k)→w10.heap[k]? = w7.heap[k]? := fun k hk hk2 =>
   (hg10.out.block k (by have:=H9.out.2.2.2;omega) (fun e=>by have:=hgB k e.symm;omega)).trans (H9.out.1.block k hk)
  obtain ⟨hN10,-⟩:=GRow.pushed (g:=zG) (a:=.slice none 0 0) (b:=.slice none 0 0) (c:=.slice (some ⟨w7.heap.size,0,none⟩) 1 1) (T:=[w7.heap.size]) HROW.out.1 HROW.out.2 H9.out.1 (jpP H9.out.2.1) (by simp) (by simp) (by omega) (by rw [HLN.out];exact hown.out) hg10.out hat10.out
  obtain ⟨S,s1,s2,s3⟩:=hN10.gs
  obtain ⟨pr,cr,er⟩:=s1.shape
  have HFIN:=jaC (HEND.out w10 (L0++[zG]) pr (L0++[zG]).length cr ((HB7.out.1.trans (H9.out.1.mono HB7.out.1.size)).grown hg10.out (by have a1:=HB7.out.1.size;have a2:=H9.out.2.2.2;omega) (fun k hk=>by have a1:=hgB k hk;have a2:=H0.out.2.2.1;have a3:=HC4.out;omega)) (hkeep R (by have a3:=HC4.out;omega) (.inl (by have a3:=HC4.out;omega))) (XOwn.same t H7.out.2.1 (fun k hk=>hkeep k (H7.out.2.1.there _ k hk) (.inr (H6.out.2.2.2.1 k hk)))) ⟨S,by rw [←er];exact s1,s3⟩ (fun g hg=>by rcases List.mem_append.1 hg with h|h;exact HANS.out.1 g h;simp only [List.mem_singleton] at h;subst h;exact jpY) (by rw [List.length_append,HLN.out];simp;omega) (fun g hg=>by rcases List.mem_append.1 hg with h|h;exact HANS.out.2.1 g h;simp only [List.mem_singleton] at h;subst h;exact jpA))
  have HR10:Hid (w10.heap[R]? = some (.cells #[.int .i64 0,.int .i64 0,.int .i64 0,.string ⟨#[]⟩,.slice none 0 0,.slice none 0 0] 27 (0,0))):=(hkeep R (by have a3:=HC4.out;omega) (.inl (by have a3:=HC4.out;omega))).trans HB7.out.2
  have HG10:Hid (w10.heap[GB]? = some (.cells #[.int .i64 t.op,.int .i64 t.at_,.int .i64 t.n,.string t.s,.slice p5 t.set.length c5,.slice p6 t.len c6] 27 (0,0))):=(hkeep GB (aes.1 H7.out.2.2.1).1 (.inr H6.out.2.2.2.2.2.2.1)).trans H7.out.2.2.1
  clear hown hg10 hat10 hgB h47 hkeep hN10 s1 s2 s3
  subst er
  have z:=HR10.out
  have z0:=crw w10 _ 0 _ _ _ z
  have z1:=crw w10 _ 1 _ _ _ z
  have z2:=crw w10 _ 2 _ _ _ z
  have z3:=crw w10 _ 3 _ _ _ z
  have z4:=crw w10 _ 4 _ _ _ z
  have z5:=crw w10 _ 5 _ _ _ z
  have zf:∀ j,w10.frozen? ⟨R,j,none⟩=false:=fun j=>fzr w10 _ j _ _ z
  have gz:=HG10.out
  have g0:=crw w10 _ 0 _ _ _ gz
  have g1:=crw w10 _ 1 _ _ _ gz
  have g2:=crw w10 _ 2 _ _ _ gz
  have g3:=crw w10 _ 3 _ _ _ gz
  have g4:=crw w10 _ 4 _ _ _ gz
  have g5:=crw w10 _ 5 _ _ _ gz
  clear z gz
  go_wp2_with fail
  refine bpr (v:=.tuple #[.agg #[.int .i64 t.op,.int .i64 t.at_,.int .i64 t.n,.string t.s,.slice p5 t.set.length c5,.slice p6 t.len c6],.slice pr (L0++[zG]).length cr]) (by rw [jac (p:=2) (q:=3) (ty:=27) (by kernel_rfl)];simp [go_sem,z0,z1,z2,z3,z4,z5]) rfl ?_
  exact ⟨t,_,_,_,_,_,_,_,_,_,L0++[zG],rfl,HFIN.out⟩
 ·by_cases h1:xi=1
  ·subst h1
   have HY8:Hid (∀ w8,Ext C w7 w8→Below w.heap.size w w8∧w8.heap[R]? = w7.heap[R]?∧XOwn w8 t (.slice p5 t.set.length c5) (.slice p6 t.len c6) St∧w8.heap[GB]? = w7.heap[GB]?∧GN w8 w3.heap.size (.slice pl L0.length cl) L0):=fun w8 hx =>
    ⟨Ext.belowX hx HB7.out.1 hCw,hx.block R (aes.1 HB7.out.2).1 (by have a3:=HC4.out;omega),XOwn.same t H7.out.2.1 (fun k hk=>hx.block k (H7.out.2.1.there _ k hk) (by have a1:=H6.out.2.2.2.1 k hk;have a2:=HC4.out;omega)),hx.block GB (aes.1 H7.out.2.2.1).1 (by have a1:=H6.out.2.2.2.2.2.2.1;have a2:=HC4.out;omega),H7.out.2.2.2.1.same (fun k hk hk2=>hx.block k hk2 (by have a2:=HC4.out;omega))⟩
   go_upto_region 8 with fail
   go_wp2_with fail
   refine (jaK C a len cap 3 (by omega) w7 H7.out.1).mono ?_
   rintro e w8 ⟨⟨y,hy0,-,hy3,rfl⟩,hx8,hc8⟩
   have hy3':=hy3 (by omega)
   have HX8:=jaC (And.intro hx8 hc8)
   clear hx8 hc8 hy3
   go_wp2_with fail
   refine (jkG C a len cap w8 HX8.out.2).mono ?_
   rintro e w9 ⟨o,so,uo,So,rfl,⟨hx9,hc9⟩,ho,hon,hol,how,hos⟩
   obtain ⟨p8,c8,e8⟩:=ho.at0.sets.shape
   obtain ⟨p9,c9,e9⟩:=ho.at0.xs.shape
   subst e8 e9
   have HX9:=jaC (HY8.out w9 (HX8.out.1.rise hx9))
   have howt:o.weight≤1048576:=by have h1:=X.weight_sets o hos;omega
   obtain ⟨W10,hW10⟩:∃ W10,W10=w9.alloc (.cells #[.string ⟨#[120]⟩,.int .i64 (y-1),.int .i64 o.op,.int .i64 o.at_,.int .i64 o.n,.string o.s,.slice p8 o.set.length c8,.slice p9 o.len c9,.slice none 0 0] 42):=⟨_,rfl⟩
   have nb10:Below w9.heap.size w9 W10:=by rw [hW10];exact newx w9 _
   have hb10:W10.heap[w9.heap.size]? = some (.cells #[.string ⟨#[120]⟩,.int .i64 (y-1),.int .i64 o.op,.int .i64 o.at_,.int .i64 o.n,.string o.s,.slice p8 o.set.length c8,.slice p9 o.len c9,.slice none 0 0] 42 (0,0)):=by rw [hW10];exact han w9 _
   have hs10:W10.heap.size=w9.heap.size+1:=by rw [hW10];simp
   obtain ⟨l,SS,hrow,hbl⟩:=HX9.out.2.2.2.2
   have H10:=jaC (And.intro nb10 (And.intro hb10 (And.intro hs10 (And.intro ho (And.intro hol howt)))))
   have HROW:=jaC (And.intro hrow hbl)
   have HW10:Hid (W10=w9.alloc (.cells #[.string ⟨#[120]⟩,.int .i64 (y-1),.int .i64 o.op,.int .i64 o.at_,.int .i64 o.n,.string o.s,.slice p8 o.set.length c8,.slice p9 o.len c9,.slice none 0 0] 42)):=hW10
   have h39:w3.heap.size≤w8.heap.size∧w8.heap.size≤w9.heap.size∧w4.heap.size≤w8.heap.size:=by have a1:=HX8.out.1.size;have a2:=hx9.size;have a3:=HZW.out;have a4:=(aes.1 H7.out.2.2.1).1;have a5:=H6.out.2.2.2.2.2.2.1;omega
   have H39:=jaC h39
   have HRW:Hid (W10.ownsRow w9.heap.size 42 9 (.slice (some ⟨w9.heap.size,0,none⟩) 1 1) 1 [.string ⟨#[120]⟩,.int .i64 (y-1),.int .i64 o.op,.int .i64 o.at_,.int .i64 o.n,.string o.s,.slice p8 o.set.length c8,.slice p9 o.len c9,.slice none 0 0]):=⟨rfl,.inr ⟨w9.heap.size,1,_,rfl,nlr _,hb10,nlr _,(by unfold maxLen;omega),rfl,rfl⟩⟩
   obtain ⟨ao,cc,es,hnone,hsrc⟩:=jez (jaY hrow.row nb10)
   simp only [Value.slice.injEq,true_and] at es
   obtain ⟨rfl,rfl⟩:=es
   have HSRC:=jaC (And.intro hnone hsrc)
   have HONE:=jaC hrow.one
   have hL9:=HANS.out.2.2
   have HGL:Hid ((jak l).length=L0.length*9):=by show _=_;rw [jbq,hrow.len]
   obtain ⟨iG,hiG,hzG0,hzG1,hzG2⟩:=info_parts jdQ
   clear hx9 hc9 ho hon hol how hos nb10 hb10 hs10 hW10 hrow hbl h39 hnone hsrc howt
   generalize hln:L0.length=ln at *
   have HLN:=jaC hln
   clear hln
   go_wp2_with (at_builtin;rw [←HW10.out];refine jas _ rfl (.tmp 39) (.tmp 40) 28 rfl w9.heap.size 42 iG (.agg #[.string ⟨#[]⟩,.int .i64 0,.int .i64 0,.int .i64 0,.int .i64 0,.string ⟨#[]⟩,.slice none 0 0,.slice none 0 0,.slice none 0 0]) 9 136 Tryz.underlying28 hiG hzG0 hzG1 hzG2 rfl (by decide) (.slice (some ⟨w9.heap.size,0,none⟩) 1 1) 1 [.string ⟨#[120]⟩,.int .i64 (y-1),.int .i64 o.op,.int .i64 o.at_,.int .i64 o.n,.string o.s,.slice p8 o.set.length c8,.slice p9 o.len c9,.slice none 0 0] rfl HRW.out (by simp [Value.ownBlock]) pl ln cl (jak l) rfl HGL.out (fun h=>HSRC.out.1 h) (fun ad h=>HSRC.out.2 ad h) HONE.out (by unfold maxLen;omega) (by omega) (by have:=H10.out.2.2.1;omega) ?_)
   intro v' w11 hown hg11 hat11
   have hkeep:∀ k,k<w9.heap.size→w11.heap[k]? = w9.heap[k]? := fun k hk=>(hg11.out.block k (by have:=H10.out.2.2.1;omega) (fun e=>by have e2:k=w9.heap.size:=Option.some.inj e;omega)).trans (H10.out.1.block k hk)
   have hB9:=HX9.out.1.size
   have hr9:w9.heap[R]? = _:=HX9.out.2.1.trans HB7.out.2
   have hg9:w9.heap[GB]? = _:=HX9.out.2.2.2.1.trans H7.out.2.2.1
   have hgs:∃ (g cp:Nat) (S:List Nat),v'=.slice (some ⟨g,0,none⟩) (1+ln) cp∧GsOwn w11 (G.mk ⟨#[120]⟩ (y-1) o 0 (fun _=>.no)::L0).length (fun i=>(G.mk ⟨#[120]⟩ (y-1) o 0 (fun _=>.no)::L0).getD i .no) v' S∧∀ k∈S,w3.heap.size≤k:=by
    rcases hown.out.2 with ⟨_,hn⟩|⟨g,cp,cur,rfl,hbg,hgg,hc,hm,hs,ht⟩
    ·omega
    ·have e:(G.mk ⟨#[120]⟩ (y-1) o 0 (fun _=>.no)::L0).length=1+ln:=by rw [List.length_cons,HLN.out];omega
     refine ⟨g,cp,g::((So++[])::SS).flatten,rfl,.inr ⟨g,cp,⟨G.mk ⟨#[120]⟩ (y-1) o 0 (fun _=>.no),.slice p8 o.set.length c8,.slice p9 o.len c9,.slice none 0 0⟩::l,(So++[])::SS,by rw [e],?_,?_,?_,rfl,fun i hi=>?_⟩,fun k hk=>?_⟩
     ·rw [e]
      exact ⟨hown.out.1,.inr ⟨g,cp,cur,rfl,nzl _,hgg,hc,hm,hs,ht⟩⟩
     ·rw [List.length_cons,List.length_cons,HROW.out.1.len]
     ·rw [List.length_cons,List.length_cons,HROW.out.1.blocks]
     ·cases i with
      | zero=>exact ⟨_,_,_,So++[],rfl,rfl,GOwn.mk' (by decide) (XOwn.same o H10.out.2.2.2.1 (fun k hk=>hkeep k (H10.out.2.2.2.1.there _ k hk))) (.inl ⟨rfl,rfl,rfl⟩)⟩
      | succ i =>
       obtain ⟨a',b',c',T,h1,h2,h3⟩:=HROW.out.1.each i (by simp at hi;omega)
       exact ⟨a',b',c',T,by simpa using h1,by simpa using h2,GOwn.same _ h3 (fun k hk=>hkeep k (GOwn.there _ h3 k hk))⟩
     ·have h39:=H39.out
      simp only [List.flatten_cons,List.append_nil,List.mem_cons,List.mem_append] at hk
      rcases hk with rfl|hk|hk
      ·omega
      ·have:=H10.out.2.2.2.2.1 k hk;omega
      ·exact HROW.out.2 k (List.mem_append_right _ hk)
   obtain ⟨gg,cp,S,er,s1,s3⟩:=hgs
   have HFIN:=jaC (HEND.out w11 (G.mk ⟨#[120]⟩ (y-1) o 0 (fun _=>.no)::L0) (some ⟨gg,0,none⟩) (1+ln) cp ((HX9.out.1.trans (H10.out.1.mono hB9)).grown hg11.out (by have a2:=H10.out.2.2.1;omega) (fun k hk=>by have e2:w9.heap.size=k:=Option.some.inj hk;omega)) ((hkeep R (aes.1 hr9).1).trans HX9.out.2.1) (XOwn.same t HX9.out.2.2.1 (fun k hk=>hkeep k (HX9.out.2.2.1.there _ k hk))) ⟨S,by rw [←er];exact s1,s3⟩ (fun g hg=>by rcases List.mem_cons.1 hg with h|h;(subst h;exact ⟨H10.out.2.2.2.2.2,fun i hi=>absurd hi (Nat.not_lt_zero _)⟩);exact HANS.out.1 g h) (by rw [List.length_cons,HLN.out];omega) (fun g hg=>by rcases List.mem_cons.1 hg with h|h;(subst h;exact jpz);exact HANS.out.2.1 g h))
   have HR11:=jaC ((hkeep R (aes.1 hr9).1).trans hr9)
   have HG11:=jaC ((hkeep GB (aes.1 hg9).1).trans hg9)
   clear hown hg11 hat11 hkeep s1 s3 hr9 hg9
   subst er
   have z:=HR11.out
   have z0:=crw w11 _ 0 _ _ _ z
   have z1:=crw w11 _ 1 _ _ _ z
   have z2:=crw w11 _ 2 _ _ _ z
   have z3:=crw w11 _ 3 _ _ _ z
   have z4:=crw w11 _ 4 _ _ _ z
   have z5:=crw w11 _ 5 _ _ _ z
   have zf:∀ j,w11.frozen? ⟨R,j,none⟩=false:=fun j=>fzr w11 _ j _ _ z
   have gz:=HG11.out
   have g0:=crw w11 _ 0 _ _ _ gz
   have g1:=crw w11 _ 1 _ _ _ gz
   have g2:=crw w11 _ 2 _ _ _ gz
   have g3:=crw w11 _ 3 _ _ _ gz
   have g4:=crw w11 _ 4 _ _ _ gz
   have g5:=crw w11 _ 5 _ _ _ gz
   clear z gz
   go_wp2_with fail
   refine bpr (v:=.tuple #[.agg #[.int .i64 t.op,.int .i64 t.at_,.int .i64 t.n,.string t.s,.slice p5 t.set.length c5,.slice p6 t.len c6],.slice (some ⟨gg,0,none⟩) (1+ln) cp]) (by rw [jac (p:=2) (q:=3) (ty:=27) (by kernel_rfl)];simp [go_sem,z0,z1,z2,z3,z4,z5]) rfl ?_
   exact ⟨t,_,_,_,_,_,_,_,_,_,_,rfl,HFIN.out⟩
  ·have e0:(xi==0)=false:=by simpa using h0
   have e1:(xi==1)=false:=by simpa using h1
   have HFIN:=jaC (HEND.out w7 L0 pl L0.length cl HB7.out.1 rfl H7.out.2.1 (by obtain ⟨S,s1,_,s3⟩:=H7.out.2.2.2.1.gs;exact ⟨S,s1,s3⟩) HANS.out.1 (by have:=HANS.out.2.2;omega) HANS.out.2.1)
   have z:=HB7.out.2
   have z0:=crw w7 _ 0 _ _ _ z
   have z1:=crw w7 _ 1 _ _ _ z
   have z2:=crw w7 _ 2 _ _ _ z
   have z3:=crw w7 _ 3 _ _ _ z
   have z4:=crw w7 _ 4 _ _ _ z
   have z5:=crw w7 _ 5 _ _ _ z
   have zf:∀ j,w7.frozen? ⟨R,j,none⟩=false:=fun j=>fzr w7 _ j _ _ z
   have gz:=H7.out.2.2.1
   have g0:=crw w7 _ 0 _ _ _ gz
   have g1:=crw w7 _ 1 _ _ _ gz
   have g2:=crw w7 _ 2 _ _ _ gz
   have g3:=crw w7 _ 3 _ _ _ gz
   have g4:=crw w7 _ 4 _ _ _ gz
   have g5:=crw w7 _ 5 _ _ _ gz
   clear z gz
   go_wp2_with fail
   refine bpr (v:=.tuple #[.agg #[.int .i64 t.op,.int .i64 t.at_,.int .i64 t.n,.string t.s,.slice p5 t.set.length c5,.slice p6 t.len c6],.slice pl L0.length cl]) (by rw [jac (p:=2) (q:=3) (ty:=27) (by kernel_rfl)];simp [go_sem,z0,z1,z2,z3,z4,z5]) rfl ?_
   exact ⟨t,_,_,_,_,_,_,_,_,_,L0,rfl,HFIN.out⟩
def G.Nice:G→Prop
 | .no=>True
 | .mk _ _ one len sm=>(one.Nice∧one.count≤1048577)∧∀ i,i<len→(sm i).Nice
theorem G.Nice.one {g:G} (h:g.Nice):g.one.Nice∧g.one.count≤1048577:=by
 cases g with
 | no=>exact ⟨trivial,by show (1:Nat)≤1048577;omega⟩
 | mk a b c d e=>exact h.1
theorem G.Nice.sm {g:G} (h:g.Nice) {k:Nat} (hk:k<g.len):(g.sm k).Nice:=by
 cases g with
 | no=>exact trivial
 | mk a b c d e=>exact h.2 k hk
theorem G.Nice.named {g:G} (h:g.Nice) (nm:ByteArray):(g.named nm).Nice:=by
 cases g with
 | no=>exact trivial
 | mk a b c d e=>exact h
def NiceL (L:List G):Prop:=∀ nm g,jag L nm=some g→g.Nice
theorem NiceL.turn {L:List G} (h:NiceL L) (k:Nat) (ns:List ByteArray):NiceL (jaA L k ns++L):=by
 intro nm g hg
 rw [jb7] at hg
 cases ht:jag (jaA L k ns) nm with
 | none=>rw [ht] at hg;exact h nm g (by simpa using hg)
 | some g1 =>
  rw [ht] at hg
  have e:g1=g:=by simpa using hg
  subst e
  obtain ⟨hm,_⟩:=jb1 ht
  unfold jaA at hm
  rw [List.mem_filterMap] at hm
  obtain ⟨x,_,hx⟩:=hm
  obtain ⟨g0,h0,hx⟩:=bind_some hx
  split at hx
  ·rename_i hc
   injection hx with hx
   subst hx
   exact ((h x g0 h0).sm hc.2).named x
  ·cases hx
def okN (r:FX):Prop:=r.2.1≤4000→(∀ x∈r.1,x.Nice)∧jaR r.1≤r.2.1+r.2.2∧r.2.2≤r.2.1*1048577∧r.1.length≤r.2.1
theorem jmD:okN ([],0,0):=fun _=>⟨fun x hx=>(by cases hx),nlr _,nlr _,nlr _⟩
theorem jha {a b:FX} (ha:okN a) (hb:okN b):okN (a.join b):=by
 intro h
 have h':a.2.1+b.2.1≤4000:=h
 obtain ⟨a1,a2,a3,a4⟩:=ha (by omega)
 obtain ⟨b1,b2,b3,b4⟩:=hb (by omega)
 refine ⟨fun x hx=>?_,?_,?_,?_⟩
 ·rcases lma.1 hx with hx|hx
  ·exact a1 x hx
  ·exact b1 x hx
 ·show jaR (a.1++b.1)≤(a.2.1+b.2.1)+(a.2.2+b.2.2)
  rw [jcA];omega
 ·show a.2.2+b.2.2≤(a.2.1+b.2.1)*1048577
  omega
 ·show (a.1++b.1).length≤a.2.1+b.2.1
  rw [lla];omega
theorem jnl {f:Nat→Option FX} {n:Nat} (h:∀ t,t<n→∀ r,f t=some r→okN r):∀ r,jaV f n=some r→okN r:=by
 induction n with
 | zero=>intro r hr;simp only [jaV] at hr;injection hr with hr;subst hr;exact jmD
 | succ n ih =>
  intro r hr
  obtain ⟨a,ha,hr⟩:=bind_some hr
  obtain ⟨b,hb,rfl⟩:=jar hr
  exact jha (ih (fun t ht=>h t (by omega)) a ha) (h n (by omega) b hb)
theorem jpf {t:X} {L:List G} (hL:NiceL L) (h:∀ i,i<t.len→∀ L',NiceL L'→∀ r,jaI (t.kid i) L'=some r→okN r):∀ m i r,t.len-i=m→remF t L i=some r→okN r:=by
 intro m
 induction m using Nat.strongRecOn with
 | ind m ih =>
  intro i r hm hr
  by_cases hi:i<t.len
  ·cases hd:jan (t.kid i) with
   | true=>rw [jc9 hi hd] at hr;cases hr
   | false =>
    by_cases hn:i+1<t.len∧jan (t.kid (i+1))=true
    ·rw [jdo hd hn.1 hn.2] at hr
     obtain ⟨a,ha,hr⟩:=bind_some hr
     obtain ⟨b,hb,rfl⟩:=jar hr
     refine jha ?_ (ih (t.len-(i+2)) (by omega) (i+2) b rfl hb)
     unfold jcO at ha
     split at ha
     ·cases ha
     ·exact jnl (fun k _ r hr=>h i hi _ (hL.turn _ _) r hr) a ha
    ·rw [je4 hi hd hn] at hr
     obtain ⟨a,ha,hr⟩:=bind_some hr
     obtain ⟨b,hb,rfl⟩:=jar hr
     exact jha (h i hi L hL a ha) (ih (t.len-(i+1)) (by omega) (i+1) b rfl hb)
  ·rw [jdn t L (by omega)] at hr
   injection hr with hr
   subst hr
   exact jmD
theorem jmf {l:List X} {i:Nat} (hi:i<l.length):l.getD i .no∈l:=by
 rw [lgd,lgg hi,Option.getD_some]
 exact List.getElem_mem hi
theorem jl7 (t:X):PlainX t→t.Nice→∀ (L:List G),NiceL L→∀ r,jaI t L=some r→okN r:=by
 induction t with
 | no=>intro h;exact h.elim
 | mk op a n s set len kid ih =>
  intro hp hn L hL r hr
  have hone:∀ {len':Nat},(op=1∨op=2)→okN ([X.mk op a n s set len kid],1,0):=fun {len'} ho _=>by
   have hl:len=0:=by
    rcases hp.1 with ⟨_,h⟩|⟨h,_⟩
    ·exact h
    ·omega
   refine ⟨fun x hx=>by simp only [List.mem_singleton] at hx;subst hx;exact hn,?_,Nat.zero_le _,Nat.le_refl _⟩
   have:(X.mk op a n s set len kid).count=1:=by rw [X.count_eq];simp only [X.len,hl,sumX]
   simp [jaR,this]
  simp only [jaI] at hr
  split at hr
  ·rename_i ho
   split at hr
   ·split at hr
    ·cases hr
    ·injection hr with hr;subst hr;exact hone (len':=0) (.inr ho)
   ·rename_i g hg
    split at hr
    ·injection hr with hr
     subst hr
     obtain ⟨h1,h2⟩:=(hL _ g hg).one
     intro _
     refine ⟨fun x hx=>by simp only [List.mem_singleton] at hx;subst hx;exact h1,?_,?_,Nat.le_refl _⟩
     ·simp [jaR]
     ·show g.one.count≤1*1048577
      rw [Nat.one_mul];exact h2
    ·cases hr
  ·split at hr
   ·rename_i ho
    injection hr with hr;subst hr;exact hone (len':=0) (.inl ho)
   ·obtain ⟨ks,hks,rfl⟩:=jar hr
    have hrem:remF (.mk op a n s set len kid) L 0=some ks:=hks
    have hok:=jpf (t:=.mk op a n s set len kid) hL (fun i hi L' hL' r hr=>ih i (hp.2 i hi) (hn.2.2 i hi) L' hL' r hr) _ 0 ks rfl hrem
    intro h
    have h':ks.2.1+1≤4000:=h
    obtain ⟨k1,k2,k3,k4⟩:=hok (by omega)
    refine ⟨fun x hx=>?_,?_,?_,?_⟩
    ·simp only [List.mem_singleton] at hx
     subst hx
     exact ⟨⟨nzl _,nzl _⟩,Nat.le_trans k4 (by omega),fun i hi=>k1 _ (jmf hi)⟩
    ·have hc:(X.mk op a 0 ⟨#[]⟩ [] ks.1.length (fun i=>ks.1.getD i .no)).count=1+jaR ks.1:=by rw [X.count_eq];simp only [X.len,X.kid];rw [jgi]
     show jaR [X.mk op a 0 ⟨#[]⟩ [] ks.1.length (fun i=>ks.1.getD i .no)]≤(ks.2.1+1)+ks.2.2
     simp only [jaR,List.map_cons,List.map_nil,List.sum_cons,List.sum_nil,hc]
     have:(List.map X.count ks.1).sum=jaR ks.1:=rfl
     omega
    ·exact Nat.le_trans k3 (Nat.mul_le_mul_right _ (Nat.le_succ _))
    ·show 1≤ks.2.1+1
     omega
theorem jgl {t:X} (hp:PlainX t) (hn:t.Nice) {L:List G} (hL:NiceL L) {r:FX} (hr:jaX t L=some r) (h:r.2.1≤4000):(∀ x∈r.1,x.Nice)∧jaR r.1≤4194312000:=by
 have h2:jaI t L=some r:=by
  unfold jaX at hr
  split at hr
  ·cases hr
  ·exact hr
 obtain ⟨h3,h4,h5,_⟩:=jl7 t hp hn L hL r h2 h
 exact ⟨h3,by omega⟩
theorem jkV (W:World):Calls Tryz.prog 35 #[] W fun e w'=>e=.returned (jcX W.heap.size (W.heap.size+1))∧CountAt W.heap.size w' 0∧w'.heap[W.heap.size+1]? = some (.cells #[jcX W.heap.size (W.heap.size+1)] 75 (0,0))∧Below W.heap.size W w':=by
 obtain ⟨A,hA⟩:∃ A,A=W.heap.size:=⟨_,rfl⟩
 obtain ⟨W2,hW2⟩:∃ W2,W2=(W.alloc (.cells #[.int .i64 0] 3)).alloc (.cells #[.nilFunc] 75):=⟨_,rfl⟩
 have r0:W2.heap[A]? = some (.cells #[.int .i64 0] 3 (0,0)):=by rw [hW2,hA,bha _ _ _ (by simp)];exact han W _
 have r1:W2.heap[A+1]? = some (.cells #[.nilFunc] 75 (0,0)):=by
  have:=han (W.alloc (.cells #[.int .i64 0] 3)) (.cells #[.nilFunc] 75)
  rw [World.size_alloc] at this
  rw [hW2,hA];exact this
 have hb:Below W.heap.size W W2:=by rw [hW2];exact (newx W _).trans ((newx _ _).mono (by simp))
 have H:Hid (W2.heap[A]? = some (.cells #[.int .i64 0] 3 (0,0))∧W2.heap[A+1]? = some (.cells #[.nilFunc] 75 (0,0))∧Below W.heap.size W W2∧A=W.heap.size):=⟨r0,r1,hb,hA⟩
 have c1:W2.cell? ⟨A+1,0,none⟩=some .nilFunc:=crw W2 _ 0 _ _ _ r1
 have c1f:W2.frozen? ⟨A+1,0,none⟩=false:=fzr W2 _ 0 _ _ r1
 have hst:(store ⟨A+1,0,none⟩ (.func (.func 63) #[] #[.pointer (some ⟨A,0,none⟩),.pointer (some ⟨A+1,0,none⟩)])).run Tryz.prog W2=.ok () (W2.setCell ⟨A+1,0,none⟩ (.func (.func 63) #[] #[.pointer (some ⟨A,0,none⟩),.pointer (some ⟨A+1,0,none⟩)])):=by
  rw [run_store _ _ _ _ _ rfl]
  simp [c1,c1f]
 have W2E:=jaf hW2
 have AE:=jaf hA
 clear hA hW2 r0 r1 hb
 go_enter Tryz.func35,Tryz.ntmps35
 go_upto_region 3 with fail
 rw [←W2E.out,←AE.out]
 clear W2E AE
 go_wp2_with fail
 go_ret
 obtain ⟨h0,h1,h2,h3⟩:=H.out
 rw [←h3] at h2 ⊢
 refine ⟨rfl,?_,?_,?_⟩
 ·exact (bhs _ _ _ _ (by simp)).trans h0
 ·exact heap_setCell_same W2 (A+1) 0 _ _ _ h1
 ·exact h2.setCell (p:=⟨A+1,0,none⟩) (by simp) _
end Go.Proofs.YtjmlfacbcfbhdaaGreatDoor
namespace Go.Proofs.YtjmlfacbcfbhdaaGreatDoor
open Go.RowKit Go.Shelf
attribute [local go_sem] Oper.semAt_some
theorem jlP (p:Option Addr) (len cap:Nat) (w:World):Calls Tryz.prog 67 #[.slice p len cap] w fun e w'=>e=.returned (.func (.func 91) #[] #[.pointer (some ⟨w.heap.size,0,none⟩)])∧w'=w.alloc (.cells #[.slice p len cap] 28):=by
 go_enter Tryz.func67,Tryz.ntmps67
 go_wp2_with fail
 go_ret
 exact ⟨rfl,rfl⟩
theorem jj2 (l Bs cap len:Nat) (p:Option Addr) (kid:Nat→G) (U V Z:Nat→Value) (J:Nat→World→Prop) (hl:len≤maxLen)
  (hJ:∀ k W,J k W→W.cell? ⟨Bs,0,none⟩=some (.slice p len cap)∧∀ i,i<len→∃ b o,p=some ⟨b,o,none⟩∧Head9 W b (o+i*9) (kid i) (U i) (V i) (Z i))
  (hY:∀ k i W,J k W→k+i+1=len→YieldAt Fence.wide 0 Tryz.prog l #[.int .i64 i,aggG (kid i) (U i) (V i) (Z i)] W fun e W'=>e=.returned (.bool true)∧J (k+1) W')
  (W:World) (h0:J 0 W) :
  Calls Tryz.prog 91 #[.func (.yield l) #[] #[],.pointer (some ⟨Bs,0,none⟩)] W fun e W'=>(∃ v,e=.returned v)∧J len W':=by
 have HJ:Hid (∀ k W,J k W→W.cell? ⟨Bs,0,none⟩=some (.slice p len cap)∧∀ i,i<len→∃ b o,p=some ⟨b,o,none⟩∧Head9 W b (o+i*9) (kid i) (U i) (V i) (Z i)):=hJ
 have HY:Hid (∀ k i W,J k W→k+i+1=len→YieldAt Fence.wide 0 Tryz.prog l #[.int .i64 i,aggG (kid i) (U i) (V i) (Z i)] W fun e W'=>e=.returned (.bool true)∧J (k+1) W'):=hY
 clear hJ hY
 unfold maxLen at hl
 have hbx:=(HJ.out 0 W h0).1
 refine callsIn_wide (n:=0).1 ?_
 refine callsIn_of_wp Tryz.func91 rfl trivial ?_ rfl
 simp only [Tryz.ntmps91,List.size_toArray,List.length_cons,List.length_nil,Nat.reduceAdd,Nat.reduceSub,Array.replicate_succ,Array.replicate_zero,List.push_toArray,List.append_toArray,List.nil_append,List.cons_append]
 gi_wp2
 clear hbx
 gi_loopw [3] (fun i wr=>∃ (k:Nat),i=.int .i64 ((len:Int)-k-1)∧k≤len∧J k wr) (fun i _=>(intOf i+1).toNat)
 case atStart=>exact ⟨0,by go_num,nzl _,h0⟩
 case round =>
  obtain ⟨k,rfl,hk,hj⟩:=hrel
  by_cases hlt:k=len
  ·subst hlt
   gi_wp2
   go_end0
   exact ⟨⟨_,rfl⟩,hj⟩
  ·obtain ⟨i,hi⟩:∃ i,k+i+1=len:=⟨len-k-1,by omega⟩
   have hii:(len:Int)-k-1=i:=by omega
   rw [hii]
   obtain ⟨hbx,hd⟩:=HJ.out k wr hj
   obtain ⟨b,o,hp,hd6⟩:=hd i (by omega)
   subst hp
   obtain ⟨c0,c1,c2,c3,c4,c5,c6,c7,c8⟩:=hd6
   obtain ⟨fn,tmps,assign,body,hy,hR⟩:=HY.out k i wr hj hi
   gi_wp2
   refine ⟨rfl,hR.mono ?_⟩
   rintro e W3 ⟨rfl,hj3⟩
   gi_wp2
   go_roundw
   case rel=>exact ⟨k+1,by go_num,by omega,hj3⟩
   case measure=>simp [intOf]
end Go.Proofs.YtjmlfacbcfbhdaaGreatDoor
namespace Go.Proofs.YtjmlfacbcfbhdaaGreatDoor
open Go.ChangeShapes Go.WideShapes Go.ChangeAt Go.RowKit Go.Shelf
attribute [local go_sem] Oper.semAt_some
theorem GsAt.uv {w:World} {len:Nat} {sm:Nat→G} {v:Value} (h:GsAt w len sm v):∃ (p:Option Addr) (cap:Nat) (U V Z:Nat→Value),v=.slice p len cap∧len≤maxLen ∧
  ∀ i,i<len→(∃ b o,p=some ⟨b,o,none⟩∧Head9 w b (o+i*9) (sm i) (U i) (V i) (Z i))∧GAt w (sm i) (U i) (V i) (Z i):=by
 obtain ⟨p,cap,rfl,h0,h1,h2,h3⟩:=h
 have each:∀ i,i<len→∃ q:Value×Value×Value,(∃ b o,p=some ⟨b,o,none⟩∧Head9 w b (o+i*9) (sm i) q.1 q.2.1 q.2.2)∧GAt w (sm i) q.1 q.2.1 q.2.2:=fun i hi=>by
  obtain ⟨b,o,a,b',c,e,hd,hg⟩:=h3 i hi
  exact ⟨(a,b',c),⟨b,o,e,hd⟩,hg⟩
 obtain ⟨F,hF⟩:=Go.Deep.choose_lt each
 exact ⟨p,cap,fun i=>(F i).1,fun i=>(F i).2.1,fun i=>(F i).2.2,rfl,Nat.le_trans h1 h2,hF⟩
theorem jgW (L:List G) (w:World) (v:Value) (hgs:GsAt w L.length (fun i=>L.getD i .no) v) :
  Calls Tryz.prog 36 #[v] w fun e w'=>∃ P B M,e=.returned (.func (.func 68) #[] #[.pointer (some ⟨P,0,none⟩),.pointer (some ⟨B,0,none⟩)])∧FirstAt w w' L P B M v∧w.heap.size≤P∧w.heap.size≤B∧w.heap.size≤M∧Below w.heap.size w w':=by
 obtain ⟨p,cap,U,V,Z,ev,hl,hat⟩:=hgs.uv
 have HGS:=jaf hgs
 have HAT:Hid (∀ i,i<L.length→(∃ b o,p=some ⟨b,o,none⟩∧Head9 w b (o+i*9) (L.getD i .no) (U i) (V i) (Z i))∧GAt w (L.getD i .no) (U i) (V i) (Z i)):=hat
 clear hgs hat
 subst ev
 have hmm:=fun (w:World) (n:Int)=>jeS (P:=Tryz.prog) w Tryz.underlying116 n
 refine callsIn_wide (n:=0).1 ?_
 refine callsIn_of_wp_marks Tryz.func36 rfl trivial ?_ rfl
 simp only [Tryz.ntmps36,List.size_toArray,List.length_cons,List.length_nil,Nat.reduceAdd,Nat.reduceSub,Array.replicate_succ,Array.replicate_zero,List.push_toArray,List.append_toArray,List.nil_append,List.cons_append]
 gi_wp2
 refine ⟨trivial,rfl,(callsIn_wide.2 (jlP p L.length cap _)).mono ?_⟩
 rintro e w2 ⟨rfl,rfl⟩
 gi_wp2
 obtain ⟨A0,hA0⟩:∃ x,x=w.heap.size:=⟨_,rfl⟩
 obtain ⟨W2,hW2⟩:∃ W2,(((w.alloc (.cells #[.slice p L.length cap] 28)).alloc (.map #[] 0)).alloc (.cells #[.map (some (w.heap.size+1))] 116)).alloc (.cells #[.slice p L.length cap] 28)=W2:=⟨_,rfl⟩
 rw [hW2]
 have S2:Hid (W2.heap[A0]? = some (.cells #[.slice p L.length cap] 28 (0,0))∧W2.heap[A0+1]? = some (.map #[] 0)∧W2.heap[A0+2]? = some (.cells #[.map (some (A0+1))] 116 (0,0))∧W2.heap[A0+3]? = some (.cells #[.slice p L.length cap] 28 (0,0))∧W2.heap.size=A0+4∧Below w.heap.size w W2):=by
  rw [hA0,←hW2]
  refine ⟨?_,?_,?_,?_,by simp,?_⟩
  ·rw [bha _ _ _ (by simp;omega),bha _ _ _ (by simp;omega),bha _ _ _ (by simp)];exact han w _
  ·rw [bha _ _ _ (by simp),bha _ _ _ (by simp)]
   have:=han (w.alloc (.cells #[.slice p L.length cap] 28)) (.map #[] 0)
   rwa [World.size_alloc] at this
  ·rw [bha _ _ _ (by simp)]
   have:=han ((w.alloc (.cells #[.slice p L.length cap] 28)).alloc (.map #[] 0)) (.cells #[.map (some (w.heap.size+1))] 116)
   rwa [World.size_alloc,World.size_alloc] at this
  ·have:=han (((w.alloc (.cells #[.slice p L.length cap] 28)).alloc (.map #[] 0)).alloc (.cells #[.map (some (w.heap.size+1))] 116)) (.cells #[.slice p L.length cap] 28)
   rwa [World.size_alloc,World.size_alloc,World.size_alloc] at this
  ·exact ((((newx w _).trans ((newx _ _).mono (by simp))).trans ((newx _ _).mono (by simp;omega))).trans ((newx _ _).mono (by simp;omega)))
 have HA0:=jaf hA0
 rw [←hA0]
 clear hA0 hW2 hmm
 refine jjl (gf:=91) (lb:=#[.pointer (some ⟨A0+3,0,none⟩)]) rfl (enters_of Tryz.func91 (by kernel_rfl) rfl) ?_
 intro fn rec hrec
 obtain ⟨M,hM⟩:∃ x,x=W2.heap.size:=⟨_,rfl⟩
 rw [←hM] at hrec ⊢
 obtain ⟨W3,hW3⟩:∃ W3,(W2.alloc (.deferred (some []))).alloc (.loop (rec .ready none))=W3:=⟨_,rfl⟩
 have b3:Below W2.heap.size W2 W3:=by rw [←hW3];exact (newx _ _).trans ((newx _ _).mono (by simp))
 have d3:W3.heap[M]? = some (.deferred (some [])):=by rw [←hW3,hM,bha _ _ _ (by simp)];exact han _ _
 have l3:W3.heap[M+1]? = some (.loop (rec .ready none)):=by rw [←hW3,hM];have:=han (W2.alloc (.deferred (some []))) (.loop (rec .ready none));rwa [World.size_alloc] at this
 have s3:W3.heap.size=M+2:=by rw [←hW3,hM];simp
 rw [hW3]
 obtain ⟨z0,z1,z2,z3,z4,z5⟩:=S2.out
 have e0:=(b3.block A0 (by omega)).trans z0
 have e1:=(b3.block (A0+1) (by omega)).trans z1
 have e2:=(b3.block (A0+2) (by omega)).trans z2
 have e3:=(b3.block (A0+3) (by omega)).trans z3
 have hMA:M=A0+4:=by omega
 have hAw:=HA0.out
 have b03:Below w.heap.size w W3:=z5.trans (b3.mono z5.size)
 obtain ⟨J,hJd⟩:∃ J:Nat→World→Prop,J=fun k W=>SMap W (A0+1) (jbm L (L.length-k) k)∧W.heap[M+1]? = some (.loop (rec .ready none))∧But (fun j=>j=A0+1∨j=M+1) W3 W∧k≤L.length:=⟨_,rfl⟩
 have hbx:∀ k W,J k W→W.heap[A0]? = some (.cells #[.slice p L.length cap] 28 (0,0))∧W.heap[A0+2]? = some (.cells #[.map (some (A0+1))] 116 (0,0))∧W.heap[A0+3]? = some (.cells #[.slice p L.length cap] 28 (0,0))∧W.heap[M]? = some (.deferred (some []))∧Below w.heap.size w W:=by
  intro k W hk
  rw [hJd] at hk
  obtain ⟨-,-,hbut,-⟩:=hk
  exact ⟨hbut.at e0 (by omega),hbut.at e2 (by omega),hbut.at e3 (by omega),hbut.at d3 (by omega),b03.trans (hbut.below (by have:=b03.size;omega) (fun j hj=>by omega))⟩
 refine (jj2 (M+1) (A0+3) cap L.length p (fun i=>L.getD i .no) U V Z J hl ?hJ ?hY W3 ?h0).mono ?_
 case hJ =>
  intro k W hk
  obtain ⟨-,-,h3,-,h5⟩:=hbx k W hk
  refine ⟨crw W _ 0 _ _ _ h3,fun i hi=>?_⟩
  obtain ⟨⟨b,o,hp,h9⟩,-⟩:=HAT.out i hi
  exact ⟨b,o,hp,h9.below h5⟩
 case h0 =>
  rw [hJd]
  exact ⟨⟨#[],0,e1,fun x hx=>by simp at hx,by simp,fun s v=>by simp [jbm,jeQ]⟩,l3,But.refl _ _,Nat.zero_le _⟩
 case hY =>
  intro k i W hk hki
  obtain ⟨q0,q2,q3,q4,q5⟩:=hbx k W hk
  obtain ⟨-,hAi⟩:=HAT.out i (by omega)
  obtain ⟨⟨pa,ca,ea⟩,⟨pb,cb,eb⟩,⟨pc,cc,ec⟩⟩:=hAi.shape
  rw [hJd] at hk ⊢
  obtain ⟨hmap,hrl,hbut,hkl⟩:=hk
  have HST:Hid (∀ s,(if s=(L.getD i .no).name then some (Value.int .i64 (i:Int)) else jbm L (L.length-k) k s)=jbm L (L.length-(k+1)) (k+1) s):=by
   intro s
   rw [show L.length-(k+1)=i from by omega,show L.length-k=i+1 from by omega]
   exact jhR L i k s
  rw [ea,eb,ec]
  simp only at ea eb ec ⊢
  have HW:Hid (SMap W (A0+1) (jbm L (L.length-k) k)∧W.heap[M+1]? = some (.loop (rec .ready none))∧But (fun j=>j=A0+1∨j=M+1) W3 W∧W.heap[A0+2]? = some (.cells #[.map (some (A0+1))] 116 (0,0))):=⟨hmap,hrl,hbut,q2⟩
  have HS:Hid (W3.heap.size=M+2∧M=A0+4∧k+1≤L.length):=⟨s3,hMA,by omega⟩
  generalize L.getD i .no=g at *
  refine jeH hrec hrl rfl ?_
  clear hrec hM hW3 b3 d3 l3 s3 z0 z1 z2 z3 z4 z5 e0 e1 e2 e3 hJd hbx q0 q2 q3 q4 q5 hmap hrl hbut hAi ea eb ec S2 HAT HGS J b03 hMA hAw
  gi_wp2
  obtain ⟨o9,ho9⟩:∃ o9:Obj,.cells #[.string g.name,.int .i64 g.deep,.int .i64 g.one.op,.int .i64 g.one.at_,.int .i64 g.one.n,.string g.one.s,.slice pa g.one.set.length ca,.slice pb g.one.len cb,.slice pc g.len cc] 42=o9:=⟨_,rfl⟩
  rw [ho9]
  have hlW:=(aes.1 HW.out.2.1).1
  have hrA:(W.alloc o9).heap[M+1]? = some (.loop (rec .ready none)):=(bha _ _ _ hlW).trans HW.out.2.1
  refine ⟨hrA,?_⟩
  obtain ⟨Wb,hWb⟩:∃ Wb,(W.alloc o9).putObj (M+1) (.loop (rec .busy none))=Wb:=⟨_,rfl⟩
  rw [hWb]
  have hMl:M+1<(W.alloc o9).heap.size:=(aes.1 hrA).1
  have oth:∀ j,j<W.heap.size→j≠M+1→Wb.heap[j]? = W.heap[j]? := fun j hj hne=>by
   rw [←hWb,World.putObj_heap_other hne];exact bha _ _ _ hj
  have c9:Wb.heap[W.heap.size]? = some o9:=by
   rw [←hWb,World.putObj_heap_other (by omega)];exact han _ _
  have hs2:=HS.out.2.1
  have HB:Hid (SMap Wb (A0+1) (jbm L (L.length-k) k)∧Wb.heap[M+1]? = some (.loop (rec .busy none))∧But (fun j=>j=A0+1∨j=M+1) W3 Wb) :=
   ⟨HW.out.1.same (oth (A0+1) HW.out.1.lt (by omega)),by rw [←hWb];exact World.putObj_heap_same hMl,by rw [←hWb];exact (HW.out.2.2.1.alloc _).putObj (.inr (.inr rfl)) _⟩
  have x0:Wb.cell? ⟨A0+1+1,0,none⟩=some (.map (some (A0+1))):=crw Wb _ 0 _ _ _ ((oth (A0+2) (by omega) (by omega)).trans HW.out.2.2.2)
  have y0:Wb.cell? ⟨W.heap.size,0,none⟩=some (.string g.name):=crw Wb _ 0 _ _ _ (by rw [c9,←ho9])
  clear hrA hWb hMl oth c9 ho9
  generalize W.heap.size=K0 at *
  gi_wp2_with (gi_at_mapUpdate;refine jeG _ rfl _ _ _ rfl HB.out.1 Tryz.underlying116 Tryz.underlying9 g.name (.int .i64 i) rfl rfl rfl ?_;intro w6 hm6 hg6 hs6)
  have hrb:w6.heap[M+1]? = some (.loop (rec .busy none)):=(hg6.block (M+1) (aes.1 HB.out.2.1).1 (by intro e;injection e with e;omega)).trans HB.out.2.1
  refine ⟨hrb,rfl,?_,?_,?_,HS.out.2.2⟩
  ·exact (hm6.ext HST.out).same (World.putObj_heap_other (by omega))
  ·exact World.putObj_heap_same (aes.1 hrb).1
  ·exact (HB.out.2.2.grown hg6 (fun q hq=>by injection hq with hq;exact .inr (.inl hq.symm))).putObj (.inr (.inr rfl)) _
 rintro e W4 ⟨he,hj4⟩
 obtain ⟨q0,q2,q3,q4,q5⟩:=hbx _ _ hj4
 rw [hJd] at hj4
 obtain ⟨hmap,hrl,hbut,-⟩:=hj4
 refine ⟨he,.inl ⟨hrl,?_⟩⟩
 obtain ⟨W5,hW5⟩:∃ W5,W4.putObj (M+1) (.loop (rec .exhausted none))=W5:=⟨_,rfl⟩
 rw [hW5]
 rw [Nat.sub_self] at hmap
 have HF:Hid (SMap W5 (A0+1) (jbm L 0 L.length)∧W5.heap[A0]? = some (.cells #[.slice p L.length cap] 28 (0,0))∧W5.heap[A0+2]? = some (.cells #[.map (some (A0+1))] 116 (0,0))∧W5.heap[M]? = some (.deferred (some []))∧Below w.heap.size w W5∧M=A0+4):=by
  rw [←hW5]
  refine ⟨hmap.same (World.putObj_heap_other (by omega)),(World.putObj_heap_other (by omega)).trans q0,(World.putObj_heap_other (by omega)).trans q2,(World.putObj_heap_other (by omega)).trans q4,?_,hMA⟩
  exact q5.trans (((But.refl (fun j=>j=M+1) W4).putObj (.inr rfl) _).below (by have:=q5.size;omega) (fun j hj=>by omega))
 clear hrec hM hW3 b3 d3 l3 s3 z0 z1 z2 z3 z4 z5 e0 e1 e2 e3 hJd hbx hmap hrl hbut S2 HAT he q0 q2 q3 q4 q5 hW5 J b03 hMA hAw
 gi_wp2
 obtain ⟨f1,f2,f3,f4,f5,f6⟩:=HF.out
 have fa:=HA0.out
 refine ⟨by simp,.inl ⟨_,_,rfl,run_takeDeferred f4,?_⟩⟩
 have hput:∀ j,j≠M→(W5.putObj M (.deferred none)).heap[j]? = W5.heap[j]? := fun j hj=>World.putObj_heap_other hj
 have hbel:Below w.heap.size w (W5.putObj M (.deferred none)):=f5.trans (((But.refl (fun j=>j=M) W5).putObj (.inr rfl) _).below (by have:=f5.size;omega) (fun j hj=>by omega))
 refine ⟨_,results_tmp rfl _ _ _,A0+2,A0,A0+1,rfl,⟨(hput _ (by omega)).trans f3,(hput _ (by omega)).trans f2,f1.same (hput _ (by omega)),HGS.out,hbel⟩,by omega,by omega,by omega,hbel⟩
end Go.Proofs.YtjmlfacbcfbhdaaGreatDoor
