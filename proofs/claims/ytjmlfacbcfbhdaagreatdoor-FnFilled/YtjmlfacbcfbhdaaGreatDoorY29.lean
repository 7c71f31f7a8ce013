/- spec.l7Match, out of itself for the kids and spec.l7Each. Condition: at most 2^20 of it. Written by wip/tools/mkspecmatch.py. -/
import Derived.Test.YtjmlfacbcfbhdaaGreatDoorYA
import Derived.Test.YtjmlfacbcfbhdaaGreatDoorY28
import Derived.Test.YtjmlfacbcfbhdaaGreatDoorY25
import Derived.Test.YtjmlfacbcfbhdaaGreatDoorY27
import Derived.Deep.RegionHeld3
set_option maxRecDepth 100000
set_option maxHeartbeats 8000000
namespace Go.Proofs.YtjmlfacbcfbhdaaGreatDoor
open Go.ChangeShapes Go.WideShapes Go.ChangeAt Go.RowKit
theorem jdD (vs:Array Value) (w:World):(callFunc 27 vs).run Tryz.prog w=.ok (.enter 27 vs) w:=by kernel_rfl
theorem jkg (vs:Array Value) (w:World):(callFunc 57 vs).run Tryz.prog w=.ok (.enter 57 vs) w:=by kernel_rfl
def jjY (w:World) (m:Option (List G)) (e:Ending) (w':World):Prop:=Below w.heap.size w w'∧∃ v ok,e=.returned (.tuple #[v,.bool ok])∧((∃ l,m=some l∧ok=true∧GN w' w.heap.size v l∧v.ownBlock≠none)∨(m=none∧ok=false))
def jny (w:World) (m:Option (List G)) (e:Ending) (w':World):Prop:=Below w.heap.size w w'∧∃ v ok,e=.returned (.tuple #[v,.bool ok])∧(∃ k xs,w'.ownsRow w.heap.size 42 9 v k xs∧k≤1048577∧∀ u∈xs,u.oneCell'=true)∧((∃ l,m=some l∧ok=true∧GN w' w.heap.size v l)∨(m=none∧ok=false))
def jdd (p:X):Prop:=∀ (x:X) (w:World) (su u sx ux:Value),p.At 0 w su u→x.At 0 w sx ux→p.weight≤1048576→x.weight≤1048576→okG p→(ja3 (jab p 0)).Nodup →
 Calls Tryz.prog 27 #[.agg #[.int .i64 p.op,.int .i64 p.at_,.int .i64 p.n,.string p.s,su,u],.agg #[.int .i64 x.op,.int .i64 x.at_,.int .i64 x.n,.string x.s,sx,ux]] w fun e w'=>jjY w (jai p x) e w'
def jii (p:X):Prop:=∀ (n:Nat) (kid:Nat→X) (w:World) (su u v:Value),p.At 0 w su u→XsAt 0 w n kid v→p.weight≤1048576→(∀ i,i<n→(kid i).weight≤1048576)→n≤1048576→okG p→(ja3 (jab p 0)).Nodup →
 Calls Tryz.prog 57 #[.agg #[.int .i64 p.op,.int .i64 p.at_,.int .i64 p.n,.string p.s,su,u],v] w fun e w'=>jny w (jcW (jab p 0) (fun j=>jai p (kid j)) n) e w'
theorem jpK {p:X} (h:okG p):(p.op=1∨p.op=2∨p.op=3):=by
 cases p with
 | no=>exact h.elim
 | mk op a n s set len kid=>exact h.1
theorem jiT {p:X} (h:(ja3 (jab p 0)).Nodup) {i:Nat} (hi:i<p.len):(ja3 (jab (p.kid i) 0)).Nodup:=by
 cases p with
 | no=>exact absurd hi (Nat.not_lt_zero _)
 | mk op a n s set len kid=>exact jjK h hi
theorem ja7 {p:X} {i:Nat} (hi:i<p.len):(p.kid i).weight+p.len≤p.weight:=by
 cases p with
 | no=>exact absurd hi (Nat.not_lt_zero _)
 | mk op a n s set len kid =>
  have h1:=jbo (fun i=>(kid i).weight) i len hi
  have hwe:(X.mk op a n s set len kid).weight=s.size+(set.length+(len+sumX (fun i=>(kid i).weight) len)):=rfl
  simp only [X.len,X.kid]
  omega
theorem len_weight (p:X):p.len≤p.weight:=by
 cases p with
 | no=>exact nzl _
 | mk op a n s set len kid =>
  have hwe:(X.mk op a n s set len kid).weight=s.size+(set.length+(len+sumX (fun i=>(kid i).weight) len)):=rfl
  simp only [X.len]
  omega
theorem jgt {f:Nat→Option (List G)} {k n:Nat} (hk:k<n) (h:f k=none):jaw f n=none:=by
 induction n with
 | zero=>omega
 | succ n ih =>
  simp only [jaw]
  rcases Nat.lt_or_ge k n with h1|h1
  ·rw [ih h1];rfl
  ·have:k=n:=by omega
   subst this
   rw [h]
   cases jaw f k <;> rfl
theorem jlZ {ns:List (ByteArray×Int)} {f:Nat→Option (List G)} {n:Nat} {l:List G} (h:jcW ns f n=some l):l.length=ns.length:=by
 unfold jcW at h
 split at h
 ·injection h with h
  rw [←h,jdf]
 ·cases h
theorem jer (p:X) (hp:p.weight≤1048576) {k:Nat} (hk:k≤p.len):jbO p.kid k≤1048577:=by
 have h1:=jkQ p hk
 have h2:=jdk p 0
 have h3:=p.count_weight
 omega
theorem jms {p x:X} (h2:p.op=2):jai p x=some (if (p.s.toList==jkJ)=true then [] else [oneG p.s x]):=by
 cases p with
 | no=>simp [X.op] at h2
 | mk op a n s set len kid=>have h2':op=2:=h2;rw [jai,if_pos h2'];rfl
theorem jmr {p x:X} (h1:p.op=1):jai p x=if x.op=1∧x.n=p.n then some [] else none:=by
 cases p with
 | no=>simp [X.op] at h1
 | mk op a n s set len kid=>have h1':op=1:=h1;rw [jai,if_neg (by omega),if_pos h1'];rfl
theorem jfF {p x:X} (h3:p.op=3) (hx:x.op≠3):jai p x=none:=by
 cases p with
 | no=>rfl
 | mk op a n s set len kid=>have h3':op=3:=h3;rw [jai,if_neg (by omega),if_neg (by omega),if_neg (fun h=>hx h.2)]
theorem jd1 (p:X) (hk:∀ i,i<p.len→jdd (p.kid i)) (he:∀ i,i<p.len→jii (p.kid i)):jdd p:=by
 intro x w su u sx ux hp hx hpw hxw hok hnd
 have HPX:Hid (p.At 0 w su u∧x.At 0 w sx ux):=⟨hp,hx⟩
 obtain ⟨pu,cu,e1,_,hat⟩:=hp.xs.at
 obtain ⟨ps,cs,e2⟩:=hp.sets.shape
 obtain ⟨px,cx,e3,_,hax⟩:=hx.xs.at
 obtain ⟨pz,cz,e4⟩:=hx.sets.shape
 subst e1 e2 e3 e4
 have HAT:Hid (∀ i,i<p.len→∃ b o sv u,pu=some ⟨b,o,none⟩∧Head6 w b (o+i*6) (p.kid i) sv u∧(p.kid i).At 0 w sv u):=hat
 have HAX:Hid (∀ i,i<x.len→∃ b o sv u,px=some ⟨b,o,none⟩∧Head6 w b (o+i*6) (x.kid i) sv u∧(x.kid i).At 0 w sv u):=hax
 have HK:Hid (∀ i,i<p.len→jdd (p.kid i)):=hk
 have HE:Hid (∀ i,i<p.len→jii (p.kid i)):=he
 have HW:Hid (p.weight≤1048576∧x.weight≤1048576∧okG p∧(ja3 (jab p 0)).Nodup):=⟨hpw,hxw,hok,hnd⟩
 have hpl:=len_weight p
 have hxl:=len_weight x
 have hop:=jpK hok
 have hp1:p.len≤1048576:=by omega
 have hx1:x.len≤1048576:=by omega
 obtain ⟨m,hm⟩:∃ m,m=jai p x:=⟨_,rfl⟩
 have HM:Hid (m=jai p x):=hm
 rw [←hm]
 clear hm hat hax hk he hok hnd hp hx hpl hxl hpw hxw
 obtain ⟨W,hW,a0,a1,a2,asz,ab⟩:=jnf w (.cells #[.int .i64 p.op,.int .i64 p.at_,.int .i64 p.n,.string p.s,.slice ps p.set.length cs,.slice pu p.len cu] 27) (.cells #[.int .i64 x.op,.int .i64 x.at_,.int .i64 x.n,.string x.s,.slice pz x.set.length cz,.slice px x.len cx] 27) (.cells #[] 42)
 obtain ⟨N,hN⟩:∃ N,N=w.heap.size:=⟨_,rfl⟩
 have HN:Hid (N=w.heap.size):=hN
 rw [←hN] at a0 a1 a2 asz ab
 have KW:Hid (∀ wx,Below (N+2) W wx→Below w.heap.size w wx∧Six wx N p.op p.at_ p.n p.s (.slice ps p.set.length cs) (.slice pu p.len cu) 27∧Six wx (N+1) x.op x.at_ x.n x.s (.slice pz x.set.length cz) (.slice px x.len cx) 27):=fun wx hx=>⟨by rw [←hN];exact ab.trans (hx.mono (by omega)),(hx.block N (by omega)).trans a0,(hx.block (N+1) (by omega)).trans a1⟩
 have HG0:Hid (GN W (N+2) (.slice (some ⟨N+2,0,none⟩) 0 0) []∧W.heap.size=N+3):=⟨GN.empty a2 (nlr _),asz⟩
 have HHD:Hid (∀ wx,Below (N+2) W wx→∀ t su u b q,Head6 w b q t su u→Head6 wx b q t su u):=fun wx hx t su u b q h=>h.below (KW.out wx hx).1
 clear a0 a1 a2 asz ab
 obtain ⟨x0,x1,x2,x3,x4,x5⟩:=(KW.out W (brf _ _)).2.1.cells
 obtain ⟨y0,y1,y2,y3,y4,y5⟩:=(KW.out W (brf _ _)).2.2.cells
 obtain ⟨i0,hi0,hz0,hz1,hz2⟩:=info_parts jdQ
 have HEND:Hid (∀ wx v A,Below (N+2) W wx→GN wx (N+2) v A→v.ownBlock≠none→m=some A→jjY w m (.returned (.tuple #[v,.bool true])) wx):=fun wx v A h1 h2 h4 h3=>⟨(KW.out wx h1).1,v,true,rfl,.inl ⟨A,h3,rfl,h2.mono (by rw [←hN];omega),h4⟩⟩
 have HBAD:Hid (∀ wx v,Below (N+2) W wx→m=none→jjY w m (.returned (.tuple #[v,.bool false])) wx):=fun wx v h1 h3=>⟨(KW.out wx h1).1,v,false,rfl,.inr ⟨h3,rfl⟩⟩
 have HWW:=jaa hW
 clear hW hN
 go_enter Tryz.func27,Tryz.ntmps27
 rcases hop with ho|ho|ho
 ·
  have t2:(p.op==2)=false:=by rw [ho];rfl
  have t1:(p.op==1)=true:=by rw [ho];rfl
  have HMN:Hid (m=if x.op=1∧x.n=p.n then some [] else none):=by show _=_;rw [HM.out,jmr ho]
  clear ho
  cases h1:(x.op==1)
  ·have HB:Hid (m=none):=by show _=_;rw [HMN.out,if_neg (fun h=>by rw [h.1] at h1;cases h1)]
   go_wp2_with fail
   go_quiet (fail)
   go_wp2_with fail
   go_ret2
   rw [HWW.out]
   exact HBAD.out _ _ ⟨rfl,rfl,rfl,nlr _,fun _ _=>rfl⟩ HB.out
  ·cases h2:(x.n==p.n)
   ·have HB:Hid (m=none):=by show _=_;rw [HMN.out,if_neg (fun h=>by rw [h.2] at h2;simp at h2)]
    go_wp2_with fail
    go_quiet (fail)
    go_wp2_with fail
    go_ret2
    rw [HWW.out]
    exact HBAD.out _ _ ⟨rfl,rfl,rfl,nlr _,fun _ _=>rfl⟩ HB.out
   ·have HB:Hid (m=some []):=by show _=_;rw [HMN.out,if_pos ⟨by simpa using h1,by simpa using h2⟩]
    go_wp2_with fail
    go_quiet (fail)
    go_wp2_with fail
    go_ret2
    rw [HWW.out,←HN.out]
    exact HEND.out _ (.slice (some ⟨N+2,0,none⟩) 0 0) _ ⟨rfl,rfl,rfl,nlr _,fun _ _=>rfl⟩ (HG0.out.1.same (fun _ _ _=>rfl)) (by simp [Value.ownBlock]) HB.out
 ·
  have t2:(p.op==2)=true:=by rw [ho];rfl
  have HMS:=HM.out
  rw [jms ho] at HMS
  clear ho
  cases hl:(p.s.toList == [95])
  ·have HMT:Hid (m=some [oneG p.s x]):=by rw [HMS,show (p.s.toList==jkJ)=false from hl];rfl
   clear HMS
   go_wp2_with fail
   rw [HWW.out,←HN.out]
   simp only [show N+1+1=N+2 from rfl]
   have HS0:Below (N+2) W W.drew:=(brf _ W).drew
   refine wp_region_held_drew (S:=fun wq=>Below (N+2) W wq) (by kernel_rfl) HS0 (fun _=>?_)
   refine wpAnyH_take (i:=0) (oi:={dst:=some 22,op:=Op.move (Operand.tmp 6),type:=28,pos := "l07_match.go:89",after:=#[],guard:=none}) (v:=.slice (some ⟨N+2,0,none⟩) 0 0) rfl (by kernel_rfl) (by kernel_rfl) (by kernel_rfl) (fun _ _ _ h=>h) (Or.inl ⟨by rfl,?_⟩) HS0 ?_
   ·intro wq hSq
    clear hSq
    go_simp
   try simp only [pLq]
   refine wpAnyH_take (i:=1) (oi:={dst:=some 23,op:=Op.fieldAddr 27 (Operand.tmp 2) 3,type:=0,pos := "l07_match.go:89",after:=#[],guard:=none}) (v:=.pointer (some ⟨N,3,none⟩)) rfl (by kernel_rfl) (by kernel_rfl) (by kernel_rfl) (fun _ _ _ h=>h) (Or.inl ⟨by rfl,?_⟩) HS0 ?_
   ·intro wq hSq
    clear hSq
    go_simp
   try simp only [pLq]
   refine wpAnyH_take (i:=2) (oi:={dst:=some 24,op:=Op.load 9 (Operand.tmp 23),type:=9,pos := "l07_match.go:89",after:=#[{on:=1,ground:=Ground.data}],guard:=none}) (v:=.string p.s) rfl (by kernel_rfl) (by kernel_rfl) (by kernel_rfl) (fun _ _ _ h=>h) (Or.inl ⟨by rfl,?_⟩) HS0 ?_
   ·intro wq hSq
    obtain ⟨f00,f01,f02,f03,f04,f05⟩:=(KW.out wq hSq).2.1.cells
    clear hSq
    go_simp
   try simp only [pLq]
   refine wpAnyH_take (i:=3) (oi:={dst:=some 25,op:=Op.load 27 (Operand.tmp 3),type:=27,pos := "l07_match.go:89",after:=#[],guard:=none}) (v:=.agg #[.int .i64 x.op,.int .i64 x.at_,.int .i64 x.n,.string x.s,.slice pz x.set.length cz,.slice px x.len cx]) rfl (by kernel_rfl) (by kernel_rfl) (by kernel_rfl) (fun _ _ _ h=>h) (Or.inl ⟨by rfl,?_⟩) HS0 ?_
   ·intro wq hSq
    obtain ⟨f00,f01,f02,f03,f04,f05⟩:=(KW.out wq hSq).2.2.cells
    clear hSq
    go_simp
   try simp only [pLq]
   refine wpAnyH_ready (rs:=[4]) (by kernel_rfl) (by simp) ?_
   refine AllReadyH.cons (o:={dst:=some 26,op:=Op.call {callee:=Callee.value (Operand.func 46),args:=#[Operand.tmp 25],argTypes:=#[27]},type:=27,pos := "l07_match.go:89",after:=#[{on:=3,ground:=Ground.data}],guard:=none}) rfl (fun KK hK=>?_) AllReadyH.nil
   refine jcx rfl 46 (.tmp 25) 27 rfl jfg (.agg #[.int .i64 x.op,.int .i64 x.at_,.int .i64 x.n,.string x.s,.slice pz x.set.length cz,.slice px x.len cx]) rfl _ (jcV x W.drew _ _ (HPX.out.2.below (KW.out _ (brf _ W).drew).1) HW.out.2.1) ?_
   rintro e w1 ⟨su',u',T,rfl,hb1,hown,hnT,hgT⟩
   obtain ⟨pd,cd,hd⟩:=hown.at0.sets.shape
   obtain ⟨pe,ce,hee⟩:=hown.at0.xs.shape
   subst hd hee
   have HS1:Below W.heap.size W w1:=⟨hb1.os,hb1.tape,hb1.output,hb1.size,hb1.block⟩
   have HS2:Below (N+2) W w1:=HS1.mono (by have:=HG0.out.2;omega)
   have HG1:Hid (GOwn w1 (oneG p.s x) (.slice pd x.set.length cd) (.slice pe x.len ce) (.slice none 0 0) T∧T.Nodup∧∀ k∈T,W.heap.size≤k):=by
    have h1:=GOwn.mk' (name:=p.s) (deep:=0) (one:=x) (len:=0) (sm:=fun _=>.no) HPX.out.1.size hown (jn9 w1 _)
    rw [lan] at h1
    exact ⟨h1,hnT,hgT⟩
   clear hown hnT hgT hb1
   refine ⟨_,rfl,?_⟩
   refine hK.out _ _ HS2 (fun _=>?_)
   clear hK KK
   try simp only [pLq]
   refine wpAnyH_take (i:=5) (oi:={dst:=some 27,op:=Op.build 42 #[(0,Operand.tmp 24),(2,Operand.tmp 26)],type:=42,pos := "l07_match.go:89",after:=#[{on:=2,ground:=Ground.data},{on:=4,ground:=Ground.data}],guard:=none}) (v:=.agg #[.string p.s,.int .i64 0,.int .i64 x.op,.int .i64 x.at_,.int .i64 x.n,.string x.s,.slice pd x.set.length cd,.slice pe x.len ce,.slice none 0 0]) rfl (by kernel_rfl) (by kernel_rfl) (by kernel_rfl) (fun _ _ _ h=>h) (Or.inl ⟨by rfl,?_⟩) HS2 ?_
   ·intro wq hSq
    clear hSq
    go_simp
   try simp only [pLq]
   refine wpAnyH_ready (rs:=[6]) (by kernel_rfl) (by simp) ?_
   refine AllReadyH.cons (o:={dst:=some 28,op:=Op.buildSlice 28 1 #[(0,Operand.tmp 27)],type:=28,pos := "l07_match.go:89",after:=#[{on:=5,ground:=Ground.data}],guard:=none}) rfl (fun KK hK=>?_) AllReadyH.nil
   go_simp
   refine hK.out _ _ (HS2.trans ((newx w1 _).mono (by have h1:=HS1.size;have h2:=HG0.out.2;omega))) (fun _=>?_)
   clear hK KK
   try simp only [pLq]
   refine wpAnyH_ready (rs:=[7]) (by kernel_rfl) (by simp) ?_
   refine AllReadyH.cons (o:={dst:=some 29,op:=Op.call {callee:=Callee.builtin Builtin.append,args:=#[Operand.tmp 22,Operand.tmp 28],argTypes:=#[28,28]},type:=28,pos := "l07_match.go:89",after:=#[{on:=0,ground:=Ground.data},{on:=6,ground:=Ground.data},{on:=4,ground:=Ground.chain}],guard:=none}) rfl (fun KK hK=>?_) AllReadyH.nil
   obtain ⟨l,SS,hgr,hgB⟩:=HG0.out.1
   refine jch (by rfl) (.tmp 22) (.tmp 28) 28 (by rfl) (N+2) 42 i0 (.agg #[.string ⟨#[]⟩,.int .i64 0,.int .i64 0,.int .i64 0,.int .i64 0,.string ⟨#[]⟩,.slice none 0 0,.slice none 0 0,.slice none 0 0]) 9 136 Tryz.underlying28 hi0 hz0 hz1 hz2 rfl (by decide) (.slice (some ⟨N+2,0,none⟩) 0 0) 0 (jak l) (by rfl) ((jaM hgr.row (fun k hk=>((HS1.trans ((newx w1 _).mono HS1.size)).block k (hgr.row.lt k hk).2))) ) ⟨w1.heap.size,0,none⟩ 1 1 [.string p.s,.int .i64 0,.int .i64 x.op,.int .i64 x.at_,.int .i64 x.n,.string x.s,.slice pd x.set.length cd,.slice pe x.len ce,.slice none 0 0] (by rfl) (by rfl) (World.news_of_block (cs:=#[.string p.s,.int .i64 0,.int .i64 x.op,.int .i64 x.at_,.int .i64 x.n,.string x.s,.slice pd x.set.length cd,.slice pe x.len ce,.slice none 0 0]) (t:=42) (fr:=(0,0)) (han w1 _)) (by simp [Value.oneCell']) (by unfold maxLen;omega) (by omega) (by have h1:=HS1.size;have h2:=HG0.out.2;simp;omega) (by decide) ?_
   intro v' w3 hown3 hg3 hwh3
   have hfin:=hgr.pushed (w1:=w1.alloc (.cells #[.string p.s,.int .i64 0,.int .i64 x.op,.int .i64 x.at_,.int .i64 x.n,.string x.s,.slice pd x.set.length cd,.slice pe x.len ce,.slice none 0 0] 42)) hgB (HS1.trans ((newx w1 _).mono HS1.size)) (HG1.out.1.same _ (fun k hk=>bha _ _ _ (HG1.out.1.there _ k hk))) HG1.out.2.1 HG1.out.2.2 (by have:=HG0.out.2;omega) hown3.out hg3.out hwh3.out
   have HFIN:Hid (GN w3 (N+2) v' [oneG p.s x]∧Below (N+2) W w3∧v'.ownBlock≠none):=by
    obtain ⟨g',c',hv'⟩:=ownsRow_succ hown3.out
    exact ⟨hfin.1,hfin.2,by rw [hv'];simp [Value.ownBlock]⟩
   clear hown3 hg3 hwh3 hfin hgr hgB
   refine hK.out _ _ HFIN.out.2.1 (fun _=>?_)
   clear hK KK
   try simp only [pLq]
   refine wpAnyH_take (i:=8) (oi:={dst:=some 6,op:=Op.assign (Operand.tmp 29),type:=28,pos := "l07_match.go:89",after:=#[{on:=7,ground:=Ground.data},{on:=7,ground:=Ground.chain},{on:=0,ground:=Ground.phase},{on:=1,ground:=Ground.phase},{on:=2,ground:=Ground.phase},{on:=3,ground:=Ground.phase},{on:=4,ground:=Ground.phase},{on:=5,ground:=Ground.phase},{on:=6,ground:=Ground.phase},{on:=7,ground:=Ground.phase}],guard:=none}) (v:=v') rfl (by kernel_rfl) (by kernel_rfl) (by kernel_rfl) (fun _ _ _ h=>h) (Or.inl ⟨by rfl,?_⟩) HFIN.out.2.1 ?_
   ·intro wq hSq
    clear hSq
    go_simp
   try simp only [pLq]
   refine wpAnyH_done (by kernel_rfl) ?_ _
   go_wp2_with fail
   go_ret2
   exact HEND.out _ _ _ HFIN.out.2.1 HFIN.out.1 HFIN.out.2.2 HMT.out
  ·have HMT:Hid (m=some []):=by rw [HMS,show (p.s.toList==jkJ)=true from hl];rfl
   clear HMS
   go_wp2_with fail
   go_ret2
   rw [HWW.out,←HN.out]
   exact HEND.out _ (.slice (some ⟨N+2,0,none⟩) 0 0) _ (brf _ _) HG0.out.1 (by simp [Value.ownBlock]) HMT.out
 ·
  have t2:(p.op==2)=false:=by rw [ho];rfl
  have t1:(p.op==1)=false:=by rw [ho];rfl
  have HO3:Hid (p.op=3):=ho
  clear ho
  go_upto_region 11 with fail
  rw [HWW.out,←HN.out]
  simp only [show N+1+1=N+2 from rfl]
  clear HWW t1 t2
  generalize hL:p.len=len at *
  have HL:Hid (p.len=len):=hL
  clear hL
  have hpath:(¬ (1:Int)<len∧jaJ len p.kid = -1)∨((1:Int)<len∧jan (p.kid (len-1))=false∧jaJ len p.kid = -1)∨((1:Int)<len∧jan (p.kid (len-1))=true∧jaJ len p.kid≠-1):=by
   by_cases h1:(1:Int)<len
   ·cases hd:jan (p.kid (len-1))
    ·exact .inr (.inl ⟨h1,rfl,by unfold jaJ;rw [if_neg (by rw [hd];simp)]⟩)
    ·exact .inr (.inr ⟨h1,rfl,by unfold jaJ;rw [if_pos ⟨by omega,hd⟩];omega⟩)
   ·exact .inl ⟨h1,by unfold jaJ;rw [if_neg (by omega)]⟩
  rcases hpath with ⟨h1,hof⟩|⟨h1,hd,hof⟩|⟨h1,hd,hof⟩
  case' inl =>
   have HOF:Hid (jaJ len p.kid = -1):=hof
   clear hof
   go_upto_region 13 with fail
   obtain ⟨wa,hwa⟩:∃ wa,wa=W:=⟨_,rfl⟩
   have HA:Hid (Below (N+2) W wa∧GN wa (N+2) (.slice (some ⟨N+2,0,none⟩) 0 0) []):=by rw [hwa];exact ⟨brf _ _,HG0.out.1⟩
   rw [←hwa]
   clear hwa h1 x0 x1 x2 x3 x4 x5 y0 y1 y2 y3 y4 y5
  case' inr.inl =>
   have HOF:Hid (jaJ len p.kid = -1):=hof
   obtain ⟨j,rfl⟩:∃ j,len=j+1:=⟨len-1,by omega⟩
   obtain ⟨b,o,sk,uk,hpk,hdk,hink⟩:=HAT.out j (by omega)
   subst hpk
   have HDT:Hid (jan (p.kid j)=false):=hd
   obtain ⟨d0,d1,d2,d3,d4,d5⟩:=HHD.out W (brf _ _) _ _ _ _ _ hdk
   clear hof hd hink hdk
   go_wp2_with fail
   refine (jbz (p.kid j) sk uk W).mono ?_
   rintro e wa ⟨rfl,hb1⟩
   have HA:Hid (Below (N+2) W wa∧GN wa (N+2) (.slice (some ⟨N+2,0,none⟩) 0 0) []):=⟨hb1.mono (by have:=HG0.out.2;omega),HG0.out.1.below hb1⟩
   rw [HDT.out]
   clear hb1 h1 d0 d1 d2 d3 d4 d5 x0 x1 x2 x3 x4 x5 y0 y1 y2 y3 y4 y5 HDT
   go_upto_region 13 with fail
   generalize hpu:some (⟨b,o,none⟩:Addr)=pu at *
   clear hpu
   generalize hL:j+1=len at *
   have hL2:((j:Int)+1)=(len:Int):=by omega
   rw [hL2]
   clear hL hL2
  case' inr.inr =>
   have HOF:Hid (jaJ len p.kid≠-1):=hof
   obtain ⟨F,rfl⟩:∃ F,len=F+2:=⟨len-2,by omega⟩
   obtain ⟨b,o,sk,uk,hpk,hdk,hink⟩:=HAT.out (F+1) (by omega)
   subst hpk
   have HDT:Hid (jan (p.kid (F+1))=true):=hd
   obtain ⟨d0,d1,d2,d3,d4,d5⟩:=HHD.out W (brf _ _) _ _ _ _ _ hdk
   clear hof hd hink hdk
   go_wp2_with fail
   refine (jbz (p.kid (F+1)) sk uk W).mono ?_
   rintro e wa ⟨rfl,hb1⟩
   have HA:Hid (Below (N+2) W wa∧GN wa (N+2) (.slice (some ⟨N+2,0,none⟩) 0 0) []):=⟨hb1.mono (by have:=HG0.out.2;omega),HG0.out.1.below hb1⟩
   rw [HDT.out]
   clear hb1 h1 d0 d1 d2 d3 d4 d5 x0 x1 x2 x3 x4 x5 y0 y1 y2 y3 y4 y5 HDT
   go_upto_region 13 with fail
   generalize hpu:some (⟨b,o,none⟩:Addr)=pu at *
   clear hpu
  case' inr.inr =>
   obtain ⟨x0,x1,x2,x3,x4,x5⟩:=(KW.out wa HA.out.1).2.1.cells
   obtain ⟨y0,y1,y2,y3,y4,y5⟩:=(KW.out wa HA.out.1).2.2.cells
   by_cases hx3:x.op=3
   case neg =>
    have t5:(x.op==3)=false:=by simpa using hx3
    have t5':(x.op != 3)=true:=by simp only [bne,t5];rfl
    have HB:Hid (m=none):=by show _=_;rw [HM.out];exact jfF HO3.out hx3
    clear hx3
    go_wp2_with fail
    go_ret2
    exact HBAD.out _ _ HA.out.1 HB.out
   case pos =>
   have t5:(x.op==3)=true:=by simpa using hx3
   have t5':(x.op != 3)=false:=by simp only [bne,t5];rfl
   have HX3:Hid (x.op=3):=hx3
   clear hx3
   by_cases hlt:(x.len:Int)<F
   case pos =>
    have HB:Hid (m=none):=by show _=_;rw [HM.out];exact jnZ HO3.out HX3.out (by rw [HL.out];exact HOF.out) (by rw [HL.out];omega)
    go_wp2_with fail
    go_ret2
    exact HBAD.out _ _ HA.out.1 HB.out
   case neg =>
   have t6:((F:Int)==(F:Int)+2)=false:=by rw [beq_eq_false_iff_ne];omega
   go_wp2_with fail
   clear x0 x1 x2 x3 x4 x5 y0 y1 y2 y3 y4 y5
   go_loopw [6,9] (fun r i wr=>∃ (k:Nat) (v:Value) (A:List G),v=r∧i=.int .i64 k∧k≤F∧jaw (fun i=>jai (p.kid i) (x.kid i)) k=some A∧GN wr (N+2) v A∧v.ownBlock≠none∧Below (N+2) W wr) (fun _ i _=>F-(intOf i).toNat)
   case atStart=>exact ⟨0,_,[],rfl,rfl,nzl _,rfl,HA.out.2,by simp [Value.ownBlock],HA.out.1⟩
   case round =>
    obtain ⟨k,v,A,rfl,rfl,hk,hA,hgn,hvb,hbel⟩:=hrel
    have HR:Hid (jaw (fun i=>jai (p.kid i) (x.kid i)) k=some A∧GN wr (N+2) v A∧v.ownBlock≠none∧Below (N+2) W wr):=⟨hA,hgn,hvb,hbel⟩
    clear hA hgn hvb hbel
    obtain ⟨x0,x1,x2,x3,x4,x5⟩:=(KW.out wr HR.out.2.2.2).2.1.cells
    obtain ⟨y0,y1,y2,y3,y4,y5⟩:=(KW.out wr HR.out.2.2.2).2.2.cells
    by_cases hkf:(k:Int)<F
    case pos =>
     have hkp:k<(F+2):=by omega
     have hkx:k<x.len:=by omega
     have HOKK:Hid (∀ i,i≤k→okG (p.kid i)):=fun i hi=>jg1 HW.out.2.2.1 (by rw [HL.out];omega) (.inr (by rw [HL.out];omega))
     obtain ⟨b1,o1,sk1,uk1,hpk,hdk,hink⟩:=HAT.out k hkp
     obtain ⟨b2,o2,sx2,ux2,hpx,hdx,hinx⟩:=HAX.out k hkx
     subst hpk hpx
     obtain ⟨q1,r1,e1⟩:=hink.xs.shape
     obtain ⟨q2,r2,e2⟩:=hink.sets.shape
     obtain ⟨q3,r3,e3⟩:=hinx.xs.shape
     obtain ⟨q4,r4,e4⟩:=hinx.sets.shape
     subst e1 e2 e3 e4
     have HDP:=jaa hdk
     have HDX:=jaa hdx
     have HCALL:Hid (∀ wx,Below (N+2) W wx→Calls Tryz.prog 27 #[.agg #[.int .i64 (p.kid k).op,.int .i64 (p.kid k).at_,.int .i64 (p.kid k).n,.string (p.kid k).s,.slice q2 (p.kid k).set.length r2,.slice q1 (p.kid k).len r1],.agg #[.int .i64 (x.kid k).op,.int .i64 (x.kid k).at_,.int .i64 (x.kid k).n,.string (x.kid k).s,.slice q4 (x.kid k).set.length r4,.slice q3 (x.kid k).len r3]] wx fun e w'=>jjY wx (jai (p.kid k) (x.kid k)) e w'):=fun wx hx=>HK.out k hkp (x.kid k) wx _ _ _ _ (hink.below (KW.out wx hx).1) (hinx.below (KW.out wx hx).1) (by have:=ja7 (p:=p) (i:=k) (by rw [HL.out];exact hkp);have:=HW.out.1;omega) (by have:=ja7 (p:=x) (i:=k) hkx;have:=HW.out.2.1;omega) (HOKK.out k (nlr _)) (jiT HW.out.2.2.2 (by rw [HL.out];exact hkp))
     clear hdk hdx hink hinx
     go_wp2_with fail
     have HS0:Below (N+2) W wr.drew:=HR.out.2.2.2.drew
     refine wp_region_held_drew (S:=fun wq=>Below (N+2) W wq) (by kernel_rfl) HS0 (fun _=>?_)
     refine wpAnyH_take (i:=0) (oi:={dst:=some 90,op:=Op.fieldAddr 27 (Operand.tmp 2) 5,type:=0,pos := "l07_match.go:104",after:=#[],guard:=none}) (v:=.pointer (some ⟨N,5,none⟩)) rfl (by kernel_rfl) (by kernel_rfl) (by kernel_rfl) (fun _ _ _ h=>h) (Or.inl ⟨by rfl,?_⟩) HS0 ?_
     ·intro wq hSq
      clear hSq
      go_simp
     try simp only [pLq]
     refine wpAnyH_take (i:=1) (oi:={dst:=some 91,op:=Op.load 25 (Operand.tmp 90),type:=25,pos := "l07_match.go:104",after:=#[{on:=0,ground:=Ground.data}],guard:=none}) (v:=.slice (some ⟨b1,o1,none⟩) (F+2) cu) rfl (by kernel_rfl) (by kernel_rfl) (by kernel_rfl) (fun _ _ _ h=>h) (Or.inl ⟨by rfl,?_⟩) HS0 ?_
     ·intro wq hSq
      obtain ⟨f00,f01,f02,f03,f04,f05⟩:=(KW.out wq hSq).2.1.cells
      clear hSq
      go_simp
     try simp only [pLq]
     refine wpAnyH_take (i:=2) (oi:={dst:=some 92,op:=Op.move (Operand.tmp 9),type:=3,pos := "l07_match.go:104",after:=#[],guard:=none}) (v:=.int .i64 k) rfl (by kernel_rfl) (by kernel_rfl) (by kernel_rfl) (fun _ _ _ h=>h) (Or.inl ⟨by rfl,?_⟩) HS0 ?_
     ·intro wq hSq
      clear hSq
      go_simp
     try simp only [pLq]
     refine wpAnyH_take (i:=3) (oi:={dst:=some 93,op:=Op.indexAddr 25 (Operand.tmp 91) (Operand.tmp 92),type:=0,pos := "l07_match.go:104",after:=#[{on:=1,ground:=Ground.data},{on:=2,ground:=Ground.data}],guard:=none}) (v:=.pointer (some ⟨b1,o1+k*6,none⟩)) rfl (by kernel_rfl) (by kernel_rfl) (by kernel_rfl) (fun _ _ _ h=>h) (Or.inl ⟨by rfl,?_⟩) HS0 ?_
     ·intro wq hSq
      clear hSq
      go_simp;intro hh;omega
     try simp only [pLq]
     refine wpAnyH_take (i:=4) (oi:={dst:=some 94,op:=Op.load 27 (Operand.tmp 93),type:=27,pos := "l07_match.go:104",after:=#[{on:=3,ground:=Ground.data}],guard:=none}) (v:=.agg #[.int .i64 (p.kid k).op,.int .i64 (p.kid k).at_,.int .i64 (p.kid k).n,.string (p.kid k).s,.slice q2 (p.kid k).set.length r2,.slice q1 (p.kid k).len r1]) rfl (by kernel_rfl) (by kernel_rfl) (by kernel_rfl) (fun _ _ _ h=>h) (Or.inl ⟨by rfl,?_⟩) HS0 ?_
     ·intro wq hSq
      obtain ⟨f00,f01,f02,f03,f04,f05⟩:=HHD.out wq hSq _ _ _ _ _ HDP.out
      clear hSq
      go_simp
     try simp only [pLq]
     refine wpAnyH_take (i:=5) (oi:={dst:=some 95,op:=Op.fieldAddr 27 (Operand.tmp 3) 5,type:=0,pos := "l07_match.go:104",after:=#[],guard:=none}) (v:=.pointer (some ⟨N+1,5,none⟩)) rfl (by kernel_rfl) (by kernel_rfl) (by kernel_rfl) (fun _ _ _ h=>h) (Or.inl ⟨by rfl,?_⟩) HS0 ?_
     ·intro wq hSq
      clear hSq
      go_simp
     try simp only [pLq]
     refine wpAnyH_take (i:=6) (oi:={dst:=some 96,op:=Op.load 25 (Operand.tmp 95),type:=25,pos := "l07_match.go:104",after:=#[{on:=5,ground:=Ground.data}],guard:=none}) (v:=.slice (some ⟨b2,o2,none⟩) x.len cx) rfl (by kernel_rfl) (by kernel_rfl) (by kernel_rfl) (fun _ _ _ h=>h) (Or.inl ⟨by rfl,?_⟩) HS0 ?_
     ·intro wq hSq
      obtain ⟨f00,f01,f02,f03,f04,f05⟩:=(KW.out wq hSq).2.2.cells
      clear hSq
      go_simp
     try simp only [pLq]
     refine wpAnyH_take (i:=7) (oi:={dst:=some 97,op:=Op.move (Operand.tmp 9),type:=3,pos := "l07_match.go:104",after:=#[],guard:=none}) (v:=.int .i64 k) rfl (by kernel_rfl) (by kernel_rfl) (by kernel_rfl) (fun _ _ _ h=>h) (Or.inl ⟨by rfl,?_⟩) HS0 ?_
     ·intro wq hSq
      clear hSq
      go_simp
     try simp only [pLq]
     refine wpAnyH_take (i:=8) (oi:={dst:=some 98,op:=Op.indexAddr 25 (Operand.tmp 96) (Operand.tmp 97),type:=0,pos := "l07_match.go:104",after:=#[{on:=6,ground:=Ground.data},{on:=7,ground:=Ground.data}],guard:=none}) (v:=.pointer (some ⟨b2,o2+k*6,none⟩)) rfl (by kernel_rfl) (by kernel_rfl) (by kernel_rfl) (fun _ _ _ h=>h) (Or.inl ⟨by rfl,?_⟩) HS0 ?_
     ·intro wq hSq
      clear hSq
      go_simp
     try simp only [pLq]
     refine wpAnyH_take (i:=9) (oi:={dst:=some 99,op:=Op.load 27 (Operand.tmp 98),type:=27,pos := "l07_match.go:104",after:=#[{on:=8,ground:=Ground.data}],guard:=none}) (v:=.agg #[.int .i64 (x.kid k).op,.int .i64 (x.kid k).at_,.int .i64 (x.kid k).n,.string (x.kid k).s,.slice q4 (x.kid k).set.length r4,.slice q3 (x.kid k).len r3]) rfl (by kernel_rfl) (by kernel_rfl) (by kernel_rfl) (fun _ _ _ h=>h) (Or.inl ⟨by rfl,?_⟩) HS0 ?_
     ·intro wq hSq
      obtain ⟨f00,f01,f02,f03,f04,f05⟩:=HHD.out wq hSq _ _ _ _ _ HDX.out
      clear hSq
      go_simp
     try simp only [pLq]
     refine wpAnyH_ready (rs:=[10]) (by kernel_rfl) (by simp) ?_
     refine AllReadyH.cons (o:={dst:=some 100,op:=Op.call {callee:=Callee.value (Operand.func 27),args:=#[Operand.tmp 94,Operand.tmp 99],argTypes:=#[27,27]},type:=37,pos := "l07_match.go:104",after:=#[{on:=4,ground:=Ground.data},{on:=9,ground:=Ground.data}],guard:=none}) rfl (fun KK hK=>?_) AllReadyH.nil
     refine ja8 rfl 27 (.tmp 94) (.tmp 99) 27 27 rfl jdD (.agg #[.int .i64 (p.kid k).op,.int .i64 (p.kid k).at_,.int .i64 (p.kid k).n,.string (p.kid k).s,.slice q2 (p.kid k).set.length r2,.slice q1 (p.kid k).len r1]) (.agg #[.int .i64 (x.kid k).op,.int .i64 (x.kid k).at_,.int .i64 (x.kid k).n,.string (x.kid k).s,.slice q4 (x.kid k).set.length r4,.slice q3 (x.kid k).len r3]) rfl rfl _ (HCALL.out wr.drew HS0) ?_
     rintro e w1 ⟨hb1,v1,ok1,rfl,hcase⟩
     refine ⟨_,rfl,?_⟩
     have HBW:Hid (Below wr.heap.size wr w1):=⟨hb1.os,hb1.tape,hb1.output,hb1.size,hb1.block⟩
     have HSZ:Hid (N+2≤wr.heap.size):=by have h1:=HR.out.2.2.2.size;have h2:=HG0.out.2;show _≤_;omega
     have HS1:Below (N+2) W w1:=HR.out.2.2.2.trans (HBW.out.mono HSZ.out)
     have HCS:Hid ((∃ l,jai (p.kid k) (x.kid k)=some l∧ok1=true∧GN w1 wr.heap.size v1 l∧v1.ownBlock≠none)∨(jai (p.kid k) (x.kid k)=none∧ok1=false)):=hcase
     clear hb1 hcase HCALL HDP HDX
     refine hK.out _ _ HS1 (fun _=>?_)
     clear hK KK
     try simp only [pLq]
     refine wpAnyH_take (i:=11) (oi:={dst:=some 89,op:=Op.move (Operand.tmp 100),type:=37,pos := "l07_match.go:104",after:=#[{on:=10,ground:=Ground.data}],guard:=none}) (v:=.tuple #[v1,.bool ok1]) rfl (by kernel_rfl) (by kernel_rfl) (by kernel_rfl) (fun _ _ _ h=>h) (Or.inl ⟨by rfl,?_⟩) HS1 ?_
     ·intro wq hSq
      clear hSq
      go_simp
     try simp only [pLq]
     refine wpAnyH_take (i:=12) (oi:={dst:=some 101,op:=Op.extract (Operand.tmp 89) 0,type:=28,pos := "l07_match.go:104",after:=#[{on:=11,ground:=Ground.data}],guard:=none}) (v:=v1) rfl (by kernel_rfl) (by kernel_rfl) (by kernel_rfl) (fun _ _ _ h=>h) (Or.inl ⟨by rfl,?_⟩) HS1 ?_
     ·intro wq hSq
      clear hSq
      go_simp
     try simp only [pLq]
     refine wpAnyH_take (i:=13) (oi:={dst:=some 102,op:=Op.extract (Operand.tmp 89) 1,type:=4,pos := "l07_match.go:104",after:=#[{on:=11,ground:=Ground.data},{on:=14,ground:=Ground.gcOnly Departure.lateStores}],guard:=none}) (v:=.bool ok1) rfl (by kernel_rfl) (by kernel_rfl) (by kernel_rfl) (fun _ _ _ h=>h) (Or.inl ⟨by rfl,?_⟩) HS1 ?_
     ·intro wq hSq
      clear hSq
      go_simp
     try simp only [pLq]
     refine wpAnyH_take (i:=14) (oi:={dst:=some 10,op:=Op.assign (Operand.tmp 101),type:=28,pos := "l07_match.go:104",after:=#[{on:=12,ground:=Ground.data},{on:=10,ground:=Ground.chain},{on:=0,ground:=Ground.phase},{on:=1,ground:=Ground.phase},{on:=2,ground:=Ground.phase},{on:=3,ground:=Ground.phase},{on:=4,ground:=Ground.phase},{on:=5,ground:=Ground.phase},{on:=6,ground:=Ground.phase},{on:=7,ground:=Ground.phase},{on:=8,ground:=Ground.phase},{on:=9,ground:=Ground.phase},{on:=10,ground:=Ground.phase},{on:=11,ground:=Ground.phase},{on:=12,ground:=Ground.phase},{on:=13,ground:=Ground.textOnly Departure.lateStores}],guard:=none}) (v:=v1) rfl (by kernel_rfl) (by kernel_rfl) (by kernel_rfl) (fun _ _ _ h=>h) (Or.inl ⟨by rfl,?_⟩) HS1 ?_
     ·intro wq hSq
      clear hSq
      go_simp
     try simp only [pLq]
     refine wpAnyH_take (i:=15) (oi:={dst:=some 11,op:=Op.assign (Operand.tmp 102),type:=4,pos := "l07_match.go:104",after:=#[{on:=13,ground:=Ground.data},{on:=14,ground:=Ground.chain},{on:=0,ground:=Ground.phase},{on:=1,ground:=Ground.phase},{on:=2,ground:=Ground.phase},{on:=3,ground:=Ground.phase},{on:=4,ground:=Ground.phase},{on:=5,ground:=Ground.phase},{on:=6,ground:=Ground.phase},{on:=7,ground:=Ground.phase},{on:=8,ground:=Ground.phase},{on:=9,ground:=Ground.phase},{on:=10,ground:=Ground.phase},{on:=11,ground:=Ground.phase},{on:=12,ground:=Ground.phase},{on:=13,ground:=Ground.phase},{on:=14,ground:=Ground.phase}],guard:=none}) (v:=.bool ok1) rfl (by kernel_rfl) (by kernel_rfl) (by kernel_rfl) (fun _ _ _ h=>h) (Or.inl ⟨by rfl,?_⟩) HS1 ?_
     ·intro wq hSq
      clear hSq
      go_simp
     try simp only [pLq]
     refine wpAnyH_done (by kernel_rfl) ?_ _
     clear x0 x1 x2 x3 x4 x5 y0 y1 y2 y3 y4 y5
     rcases HCS.out with ⟨l,hml,rfl,hgl,hvl⟩|⟨hml,rfl⟩
     ·obtain ⟨lr,SS,hgr,hgB⟩:=HR.out.2.1
      obtain ⟨l1,SS1,hg1,hgB1⟩:=hgl
      obtain ⟨ao,cc,hv1,hn1,hs1⟩:=jez hg1.row
      subst hv1
      have hAl:A.length=jbO p.kid k:=jdC k A (fun i hi=>HOKK.out i (by omega)) HR.out.1
      have hll:l.length=(jab (p.kid k) 0).length:=jcp _ _ _ (HOKK.out k (nlr _)) hml
      have hmost:=jer p HW.out.1 (k:=k+1) (by rw [HL.out];omega)
      rw [jbL] at hmost
      have hsum:A.length+l.length≤1048577:=by omega
      have HGR:Hid (GRow wr (N+2) v A lr SS∧(∀ k∈blG v SS,N+2≤k)∧GRow w1 wr.heap.size (.slice ao l.length cc) l l1 SS1∧(∀ k∈blG (.slice ao l.length cc) SS1,wr.heap.size≤k)∧jai (p.kid k) (x.kid k)=some l):=⟨hgr,hgB,hg1,hgB1,hml⟩
      have HRW:Hid (w1.ownsRow (N+2) 42 9 v A.length (jak lr)):=jaM hgr.row (fun k hk=>HBW.out.block k (hgr.row.lt k hk).2)
      have HN1:Hid ((ao=none→l.length=0∧cc=0)∧∀ ad,ao=some ad→∀ j u,(jak l1)[j]? = some u→w1.cell? (ad.add j)=some u):=⟨hn1,hs1⟩
      clear hgr hgB hg1 hgB1 hml hn1 hs1 hvl hAl hll hmost HCS
      go_wp2_with (at_builtin;refine jas _ rfl (.tmp 106) (.tmp 107) 28 rfl (N+2) 42 i0 (.agg #[.string ⟨#[]⟩,.int .i64 0,.int .i64 0,.int .i64 0,.int .i64 0,.string ⟨#[]⟩,.slice none 0 0,.slice none 0 0,.slice none 0 0]) 9 136 Tryz.underlying28 hi0 hz0 hz1 hz2 rfl (by decide) v A.length (jak lr) rfl HRW.out HR.out.2.2.1 ao l.length cc (jak l1) rfl HGR.out.2.2.1.row.1 HN1.out.1 HN1.out.2 HGR.out.2.2.1.one (by unfold maxLen;omega) (by omega) (by have h1:=HBW.out.size;have h2:=HSZ.out;omega) ?_;intro v' w2 hown2 hg2 hwh2)
      have HN2:Hid (jaw (fun i=>jai (p.kid i) (x.kid i)) (k+1)=some (A++l)∧GN w2 (N+2) v' (A++l)∧v'.ownBlock≠none∧Below (N+2) W w2):=by
       have h9:=HGR.out.1.joined HGR.out.2.1 HBW.out HGR.out.2.2.1 HGR.out.2.2.2.1 HSZ.out hown2.out hg2.out hwh2.out
       refine ⟨?_,h9.1,?_,HR.out.2.2.2.trans h9.2⟩
       ·simp only [jaw]
        rw [HR.out.1,HGR.out.2.2.2.2]
        rfl
       ·rcases hwh2.out with h|h
        ·rw [h];exact HR.out.2.2.1
        ·rw [h];simp
      clear hown2 hg2 hwh2 HRW HGR HN1 HBW HS0 HS1
      go_wp2_with fail
      go_roundw
      case rel=>exact ⟨k+1,_,A++l,rfl,by go_num,by omega,HN2.out⟩
      case measure=>simp [intOf];omega
     ·have HB:Hid (m=none):=by
       show _=_
       rw [HM.out,jhK HO3.out HX3.out (by rw [HL.out];exact HOF.out) (by rw [HL.out];omega),HL.out,show F+2-2=F from rfl,jgt (k:=k) (by omega) hml];rfl
      clear hml
      go_wp2_with fail
      go_ret2
      exact HBAD.out _ _ HS1 HB.out
    case neg =>
     have hke:k=F:=by omega
     have hFx:F≤x.len:=by omega
     obtain ⟨b1,o1,sk1,uk1,hpk,hdk,hink⟩:=HAT.out F (by omega)
     subst hpk
     obtain ⟨q1,r1,e1⟩:=hink.xs.shape
     obtain ⟨q2,r2,e2⟩:=hink.sets.shape
     subst e1 e2
     have HDP:=jaa hdk
     have hxs:XsAt 0 w x.len x.kid (.slice px x.len cx):=HPX.out.2.xs
     have hcx:=hxs.cap
     obtain ⟨rx,hrx⟩:∃ rx,rx=(if cx=F then px else px.map (·.add (F*6))):=⟨_,rfl⟩
     have HRX:Hid ((if cx=F then px else px.map (·.add (F*6)))=rx):=hrx.symm
     have s3:=hxs.rest F hFx
     simp only [sliced] at s3
     rw [←hrx] at s3
     have HCALL:Hid (∀ wx,Below (N+2) W wx→Calls Tryz.prog 57 #[.agg #[.int .i64 (p.kid F).op,.int .i64 (p.kid F).at_,.int .i64 (p.kid F).n,.string (p.kid F).s,.slice q2 (p.kid F).set.length r2,.slice q1 (p.kid F).len r1],.slice rx (x.len-F) (cx-F)] wx fun e w'=>jny wx (jcW (jab (p.kid F) 0) (fun j=>jai (p.kid F) (x.kid (F+j))) (x.len-F)) e w'):=fun wx hx=>HE.out F (by omega) (x.len-F) (fun i=>x.kid (F+i)) wx _ _ _ (hink.below (KW.out wx hx).1) (s3.below (KW.out wx hx).1) (by have:=ja7 (p:=p) (i:=F) (by rw [HL.out];omega);have:=HW.out.1;omega) (fun i hi=>by have:=ja7 (p:=x) (i:=F+i) (by omega);have:=HW.out.2.1;omega) (by omega) (jg1 HW.out.2.2.1 (by rw [HL.out];omega) (.inr (by rw [HL.out];omega))) (jiT HW.out.2.2.2 (by rw [HL.out];omega))
     have HMM:Hid (m=(jaw (fun i=>jai (p.kid i) (x.kid i)) F).bind fun a=>(jcW (jab (p.kid F) 0) (fun j=>jai (p.kid F) (x.kid (F+j))) (x.len-F)).map fun b=>a++b):=by
      have h9:=jhK (p:=p) (x:=x) HO3.out HX3.out (by rw [HL.out];exact HOF.out) (by rw [HL.out];omega)
      rw [HL.out] at h9
      show _=_
      rw [HM.out,h9]
      rfl
     have HRK:Hid (jaw (fun i=>jai (p.kid i) (x.kid i)) F=some A):=by show _=_;rw [←hke];exact HR.out.1
     clear hdk hink hrx s3 hxs
     go_wp2_with fail
     have HS0:Below (N+2) W wr.drew:=HR.out.2.2.2.drew
     refine wp_region_held_drew (S:=fun wq=>Below (N+2) W wq) (by kernel_rfl) HS0 (fun _=>?_)
     refine wpAnyH_take (i:=0) (oi:={dst:=some 113,op:=Op.fieldAddr 27 (Operand.tmp 2) 5,type:=0,pos := "l07_match.go:111",after:=#[],guard:=none}) (v:=.pointer (some ⟨N,5,none⟩)) rfl (by kernel_rfl) (by kernel_rfl) (by kernel_rfl) (fun _ _ _ h=>h) (Or.inl ⟨by rfl,?_⟩) HS0 ?_
     ·intro wq hSq
      clear hSq
      go_simp
     try simp only [pLq]
     refine wpAnyH_take (i:=1) (oi:={dst:=some 114,op:=Op.load 25 (Operand.tmp 113),type:=25,pos := "l07_match.go:111",after:=#[{on:=0,ground:=Ground.data}],guard:=none}) (v:=.slice (some ⟨b1,o1,none⟩) (F+2) cu) rfl (by kernel_rfl) (by kernel_rfl) (by kernel_rfl) (fun _ _ _ h=>h) (Or.inl ⟨by rfl,?_⟩) HS0 ?_
     ·intro wq hSq
      obtain ⟨f00,f01,f02,f03,f04,f05⟩:=(KW.out wq hSq).2.1.cells
      clear hSq
      go_simp
     try simp only [pLq]
     refine wpAnyH_take (i:=2) (oi:={dst:=some 115,op:=Op.move (Operand.tmp 8),type:=3,pos := "l07_match.go:111",after:=#[],guard:=none}) (v:=.int .i64 F) rfl (by kernel_rfl) (by kernel_rfl) (by kernel_rfl) (fun _ _ _ h=>h) (Or.inl ⟨by rfl,?_⟩) HS0 ?_
     ·intro wq hSq
      clear hSq
      go_simp
     try simp only [pLq]
     refine wpAnyH_take (i:=3) (oi:={dst:=some 116,op:=Op.indexAddr 25 (Operand.tmp 114) (Operand.tmp 115),type:=0,pos := "l07_match.go:111",after:=#[{on:=1,ground:=Ground.data},{on:=2,ground:=Ground.data}],guard:=none}) (v:=.pointer (some ⟨b1,o1+F*6,none⟩)) rfl (by kernel_rfl) (by kernel_rfl) (by kernel_rfl) (fun _ _ _ h=>h) (Or.inl ⟨by rfl,?_⟩) HS0 ?_
     ·intro wq hSq
      clear hSq
      first|(go_simp;done)|(go_simp;intro hh;omega)
     try simp only [pLq]
     refine wpAnyH_take (i:=4) (oi:={dst:=some 117,op:=Op.load 27 (Operand.tmp 116),type:=27,pos := "l07_match.go:111",after:=#[{on:=3,ground:=Ground.data}],guard:=none}) (v:=.agg #[.int .i64 (p.kid F).op,.int .i64 (p.kid F).at_,.int .i64 (p.kid F).n,.string (p.kid F).s,.slice q2 (p.kid F).set.length r2,.slice q1 (p.kid F).len r1]) rfl (by kernel_rfl) (by kernel_rfl) (by kernel_rfl) (fun _ _ _ h=>h) (Or.inl ⟨by rfl,?_⟩) HS0 ?_
     ·intro wq hSq
      obtain ⟨f00,f01,f02,f03,f04,f05⟩:=HHD.out wq hSq _ _ _ _ _ HDP.out
      clear hSq
      go_simp
     try simp only [pLq]
     refine wpAnyH_take (i:=5) (oi:={dst:=some 118,op:=Op.fieldAddr 27 (Operand.tmp 3) 5,type:=0,pos := "l07_match.go:111",after:=#[],guard:=none}) (v:=.pointer (some ⟨N+1,5,none⟩)) rfl (by kernel_rfl) (by kernel_rfl) (by kernel_rfl) (fun _ _ _ h=>h) (Or.inl ⟨by rfl,?_⟩) HS0 ?_
     ·intro wq hSq
      clear hSq
      go_simp
     try simp only [pLq]
     refine wpAnyH_take (i:=6) (oi:={dst:=some 119,op:=Op.load 25 (Operand.tmp 118),type:=25,pos := "l07_match.go:111",after:=#[{on:=5,ground:=Ground.data}],guard:=none}) (v:=.slice px x.len cx) rfl (by kernel_rfl) (by kernel_rfl) (by kernel_rfl) (fun _ _ _ h=>h) (Or.inl ⟨by rfl,?_⟩) HS0 ?_
     ·intro wq hSq
      obtain ⟨f00,f01,f02,f03,f04,f05⟩:=(KW.out wq hSq).2.2.cells
      clear hSq
      go_simp
     try simp only [pLq]
     refine wpAnyH_take (i:=7) (oi:={dst:=some 120,op:=Op.move (Operand.tmp 8),type:=3,pos := "l07_match.go:111",after:=#[],guard:=none}) (v:=.int .i64 F) rfl (by kernel_rfl) (by kernel_rfl) (by kernel_rfl) (fun _ _ _ h=>h) (Or.inl ⟨by rfl,?_⟩) HS0 ?_
     ·intro wq hSq
      clear hSq
      go_simp
     try simp only [pLq]
     refine wpAnyH_take (i:=8) (oi:={dst:=some 121,op:=Op.slice 25 (Operand.tmp 119) (some (Operand.tmp 120)) none none,type:=25,pos := "l07_match.go:111",after:=#[{on:=6,ground:=Ground.data},{on:=7,ground:=Ground.data}],guard:=none}) (v:=.slice rx (x.len-F) (cx-F)) rfl (by kernel_rfl) (by kernel_rfl) (by kernel_rfl) (fun _ _ _ h=>h) (Or.inl ⟨by rfl,?_⟩) HS0 ?_
     ·intro wq hSq
      clear hSq
      go_simp;exact HRX.out
     try simp only [pLq]
     refine wpAnyH_ready (rs:=[9]) (by kernel_rfl) (by simp) ?_
     refine AllReadyH.cons (o:={dst:=some 122,op:=Op.call {callee:=Callee.value (Operand.func 57),args:=#[Operand.tmp 117,Operand.tmp 121],argTypes:=#[27,25]},type:=37,pos := "l07_match.go:111",after:=#[{on:=4,ground:=Ground.data},{on:=8,ground:=Ground.data}],guard:=none}) rfl (fun KK hK=>?_) AllReadyH.nil
     refine ja8 rfl 57 (.tmp 117) (.tmp 121) 27 25 rfl jkg (.agg #[.int .i64 (p.kid F).op,.int .i64 (p.kid F).at_,.int .i64 (p.kid F).n,.string (p.kid F).s,.slice q2 (p.kid F).set.length r2,.slice q1 (p.kid F).len r1]) (.slice rx (x.len-F) (cx-F)) rfl rfl _ (HCALL.out wr.drew HS0) ?_
     rintro e w1 ⟨hb1,v1,ok1,rfl,hrow,hcase⟩
     refine ⟨_,rfl,?_⟩
     have HBW:Hid (Below wr.heap.size wr w1):=⟨hb1.os,hb1.tape,hb1.output,hb1.size,hb1.block⟩
     have HSZ:Hid (N+2≤wr.heap.size):=by have h1:=HR.out.2.2.2.size;have h2:=HG0.out.2;show _≤_;omega
     have HS1:Below (N+2) W w1:=HR.out.2.2.2.trans (HBW.out.mono HSZ.out)
     have HCS:Hid ((∃ k xs,w1.ownsRow wr.heap.size 42 9 v1 k xs∧k≤1048577∧∀ u∈xs,u.oneCell'=true)∧((∃ l,jcW (jab (p.kid F) 0) (fun j=>jai (p.kid F) (x.kid (F+j))) (x.len-F)=some l∧ok1=true∧GN w1 wr.heap.size v1 l)∨(jcW (jab (p.kid F) 0) (fun j=>jai (p.kid F) (x.kid (F+j))) (x.len-F)=none∧ok1=false))):=⟨hrow,hcase⟩
     clear hb1 hrow hcase HCALL HDP
     refine hK.out _ _ HS1 (fun _=>?_)
     clear hK KK
     try simp only [pLq]
     refine wpAnyH_take (i:=10) (oi:={dst:=some 112,op:=Op.move (Operand.tmp 122),type:=37,pos := "l07_match.go:111",after:=#[{on:=9,ground:=Ground.data}],guard:=none}) (v:=.tuple #[v1,.bool ok1]) rfl (by kernel_rfl) (by kernel_rfl) (by kernel_rfl) (fun _ _ _ h=>h) (Or.inl ⟨by rfl,?_⟩) HS1 ?_
     ·intro wq hSq
      clear hSq
      go_simp
     try simp only [pLq]
     refine wpAnyH_take (i:=11) (oi:={dst:=some 123,op:=Op.extract (Operand.tmp 112) 0,type:=28,pos := "l07_match.go:111",after:=#[{on:=10,ground:=Ground.data}],guard:=none}) (v:=v1) rfl (by kernel_rfl) (by kernel_rfl) (by kernel_rfl) (fun _ _ _ h=>h) (Or.inl ⟨by rfl,?_⟩) HS1 ?_
     ·intro wq hSq
      clear hSq
      go_simp
     try simp only [pLq]
     refine wpAnyH_take (i:=12) (oi:={dst:=some 124,op:=Op.extract (Operand.tmp 112) 1,type:=4,pos := "l07_match.go:111",after:=#[{on:=10,ground:=Ground.data},{on:=13,ground:=Ground.gcOnly Departure.lateStores}],guard:=none}) (v:=.bool ok1) rfl (by kernel_rfl) (by kernel_rfl) (by kernel_rfl) (fun _ _ _ h=>h) (Or.inl ⟨by rfl,?_⟩) HS1 ?_
     ·intro wq hSq
      clear hSq
      go_simp
     try simp only [pLq]
     refine wpAnyH_take (i:=13) (oi:={dst:=some 12,op:=Op.assign (Operand.tmp 123),type:=28,pos := "l07_match.go:111",after:=#[{on:=11,ground:=Ground.data},{on:=9,ground:=Ground.chain},{on:=0,ground:=Ground.phase},{on:=1,ground:=Ground.phase},{on:=2,ground:=Ground.phase},{on:=3,ground:=Ground.phase},{on:=4,ground:=Ground.phase},{on:=5,ground:=Ground.phase},{on:=6,ground:=Ground.phase},{on:=7,ground:=Ground.phase},{on:=8,ground:=Ground.phase},{on:=9,ground:=Ground.phase},{on:=10,ground:=Ground.phase},{on:=11,ground:=Ground.phase},{on:=12,ground:=Ground.textOnly Departure.lateStores}],guard:=none}) (v:=v1) rfl (by kernel_rfl) (by kernel_rfl) (by kernel_rfl) (fun _ _ _ h=>h) (Or.inl ⟨by rfl,?_⟩) HS1 ?_
     ·intro wq hSq
      clear hSq
      go_simp
     try simp only [pLq]
     refine wpAnyH_take (i:=14) (oi:={dst:=some 13,op:=Op.assign (Operand.tmp 124),type:=4,pos := "l07_match.go:111",after:=#[{on:=12,ground:=Ground.data},{on:=13,ground:=Ground.chain},{on:=0,ground:=Ground.phase},{on:=1,ground:=Ground.phase},{on:=2,ground:=Ground.phase},{on:=3,ground:=Ground.phase},{on:=4,ground:=Ground.phase},{on:=5,ground:=Ground.phase},{on:=6,ground:=Ground.phase},{on:=7,ground:=Ground.phase},{on:=8,ground:=Ground.phase},{on:=9,ground:=Ground.phase},{on:=10,ground:=Ground.phase},{on:=11,ground:=Ground.phase},{on:=12,ground:=Ground.phase},{on:=13,ground:=Ground.phase}],guard:=none}) (v:=.bool ok1) rfl (by kernel_rfl) (by kernel_rfl) (by kernel_rfl) (fun _ _ _ h=>h) (Or.inl ⟨by rfl,?_⟩) HS1 ?_
     ·intro wq hSq
      clear hSq
      go_simp
     try simp only [pLq]
     refine wpAnyH_done (by kernel_rfl) ?_ _
     clear x0 x1 x2 x3 x4 x5 y0 y1 y2 y3 y4 y5
     obtain ⟨lr,SS,hgr,hgB⟩:=HR.out.2.1
     have hAl:A.length=jbO p.kid k:=jdC k A (fun i hi=>jg1 HW.out.2.2.1 (by rw [HL.out];omega) (.inr (by rw [HL.out];omega))) HR.out.1
     have hmost:=jer p HW.out.1 (k:=k) (by rw [HL.out];omega)
     have hsum:A.length≤1048577:=by omega
     have HGR:Hid (GRow wr (N+2) v A lr SS∧(∀ k∈blG v SS,N+2≤k)):=⟨hgr,hgB⟩
     have HRW:Hid (w1.ownsRow (N+2) 42 9 v A.length (jak lr)):=jaM hgr.row (fun k hk=>HBW.out.block k (hgr.row.lt k hk).2)
     clear hgr hgB hAl hmost
     rcases HCS.out with ⟨⟨kr,xr,hxr,hkr,hor⟩,(⟨l,hml,rfl,hgl⟩|⟨hml,rfl⟩)⟩
     ·obtain ⟨l1,SS1,hg1,hgB1⟩:=hgl
      obtain ⟨ao,cc,hv1,hn1,hs1⟩:=jez hg1.row
      subst hv1
      have hll:l.length≤1048577:=by
       have h1:=jlZ hml
       have h2:=jdk (p.kid F) 0
       have h3:=(p.kid F).count_weight
       have h4:=ja7 (p:=p) (i:=F) (by rw [HL.out];omega)
       have h5:=HW.out.1
       omega
      have HG1:Hid (GRow w1 wr.heap.size (.slice ao l.length cc) l l1 SS1∧(∀ k∈blG (.slice ao l.length cc) SS1,wr.heap.size≤k)):=⟨hg1,hgB1⟩
      have HN1:Hid ((ao=none→l.length=0∧cc=0)∧(∀ ad,ao=some ad→∀ j u,(jak l1)[j]? = some u→w1.cell? (ad.add j)=some u)∧(jak l1).length=l.length*9∧∀ u∈jak l1,u.oneCell'=true):=⟨hn1,hs1,hg1.row.1,hg1.one⟩
      have HB:Hid (m=some (A++l)):=by show _=_;rw [HMM.out,HRK.out,hml];rfl
      clear hg1 hgB1 hml hn1 hs1 HCS hxr hkr hor
      go_wp2_with (at_builtin;refine jas _ rfl (.tmp 125) (.tmp 126) 28 rfl (N+2) 42 i0 (.agg #[.string ⟨#[]⟩,.int .i64 0,.int .i64 0,.int .i64 0,.int .i64 0,.string ⟨#[]⟩,.slice none 0 0,.slice none 0 0,.slice none 0 0]) 9 136 Tryz.underlying28 hi0 hz0 hz1 hz2 rfl (by decide) v A.length (jak lr) rfl HRW.out HR.out.2.2.1 ao l.length cc (jak l1) rfl HN1.out.2.2.1 HN1.out.1 HN1.out.2.1 HN1.out.2.2.2 (by unfold maxLen;omega) (by omega) (by have h1:=HBW.out.size;have h2:=HSZ.out;omega) ?_;intro v' w2 hown2 hg2 hwh2)
      have HN2:Hid (GN w2 (N+2) v' (A++l)∧v'.ownBlock≠none∧Below (N+2) W w2):=by
       have h9:=HGR.out.1.joined HGR.out.2 HBW.out HG1.out.1 HG1.out.2 HSZ.out hown2.out hg2.out hwh2.out
       refine ⟨h9.1,?_,HR.out.2.2.2.trans h9.2⟩
       rcases hwh2.out with h|h
       ·rw [h];exact HR.out.2.2.1
       ·rw [h];simp
      clear hown2 hg2 hwh2 HRW HGR HN1 HBW HS0 HS1
      go_wp2_with fail
      go_ret2
      exact HEND.out _ _ _ HN2.out.2.2 HN2.out.1 HN2.out.2.1 HB.out
     ·obtain ⟨ao,cc,hv1,hn1,hs1⟩:=jez hxr
      subst hv1
      have HN1:Hid ((ao=none→kr=0∧cc=0)∧(∀ ad,ao=some ad→∀ j u,xr[j]? = some u→w1.cell? (ad.add j)=some u)∧xr.length=kr*9∧∀ u∈xr,u.oneCell'=true):=⟨hn1,hs1,hxr.1,hor⟩
      have HB:Hid (m=none):=by show _=_;rw [HMM.out,HRK.out,hml];rfl
      clear hml hn1 hs1 HCS hxr hor
      go_wp2_with (at_builtin;refine jas _ rfl (.tmp 125) (.tmp 126) 28 rfl (N+2) 42 i0 (.agg #[.string ⟨#[]⟩,.int .i64 0,.int .i64 0,.int .i64 0,.int .i64 0,.string ⟨#[]⟩,.slice none 0 0,.slice none 0 0,.slice none 0 0]) 9 136 Tryz.underlying28 hi0 hz0 hz1 hz2 rfl (by decide) v A.length (jak lr) rfl HRW.out HR.out.2.2.1 ao kr cc xr rfl HN1.out.2.2.1 HN1.out.1 HN1.out.2.1 HN1.out.2.2.2 (by unfold maxLen;omega) (by omega) (by have h1:=HBW.out.size;have h2:=HSZ.out;omega) ?_;intro v' w2 hown2 hg2 hwh2)
      have HN2:Hid (Below (N+2) W w2):=by
       refine ⟨hg2.out.os.trans HS1.os,hg2.out.tape.trans HS1.tape,hg2.out.output.trans HS1.output,Nat.le_trans HS1.size hg2.out.size,fun j hj=>(hg2.out.block j (by have h1:=HBW.out.size;have h2:=HSZ.out;omega) (fun e=>?_)).trans (HS1.block j hj)⟩
       have:=HGR.out.2 j (List.mem_append_left _ (jbh e.symm))
       omega
      clear hown2 hg2 hwh2 HRW HGR HN1 HBW HS0 HS1
      go_wp2_with fail
      go_ret2
      exact HBAD.out _ _ HN2.out HB.out
  all_goals
   obtain ⟨x0,x1,x2,x3,x4,x5⟩:=(KW.out wa HA.out.1).2.1.cells
   obtain ⟨y0,y1,y2,y3,y4,y5⟩:=(KW.out wa HA.out.1).2.2.cells
   by_cases hx3:x.op=3
   case neg =>
    have t5:(x.op==3)=false:=by simpa using hx3
    have t5':(x.op != 3)=true:=by simp only [bne,t5];rfl
    have HB:Hid (m=none):=by show _=_;rw [HM.out];exact jfF HO3.out hx3
    clear hx3
    go_wp2_with fail
    go_ret2
    exact HBAD.out _ _ HA.out.1 HB.out
   case pos =>
   have t5:(x.op==3)=true:=by simpa using hx3
   have t5':(x.op != 3)=false:=by simp only [bne,t5];rfl
   have HX3:Hid (x.op=3):=hx3
   clear hx3
   by_cases hxl:x.len=len
   case neg =>
    have HB:Hid (m=none):=by show _=_;rw [HM.out];exact jo9 HO3.out HX3.out (by rw [HL.out];exact HOF.out) (by rw [HL.out];exact hxl)
    have t7:((x.len:Int)==(len:Int))=false:=by rw [beq_eq_false_iff_ne];omega
    have t7':((x.len:Int) != (len:Int))=true:=by simp only [bne,t7];rfl
    clear hxl
    by_cases hlt:(x.len:Int)<len
    all_goals
     go_wp2_with fail
     go_ret2
     exact HBAD.out _ _ HA.out.1 HB.out
   case pos =>
   have t7:((x.len:Int)==(len:Int))=true:=by rw [beq_iff_eq];omega
   have t7':((x.len:Int) != (len:Int))=false:=by simp only [bne,t7];rfl
   have t6:¬ (x.len:Int)<len:=by omega
   have HXL:Hid (x.len=len):=hxl
   clear hxl
   go_wp2_with fail
   clear x0 x1 x2 x3 x4 x5 y0 y1 y2 y3 y4 y5
   go_loopw [6,9] (fun r i wr=>∃ (k:Nat) (v:Value) (A:List G),v=r∧i=.int .i64 k∧k≤len∧jaw (fun i=>jai (p.kid i) (x.kid i)) k=some A∧GN wr (N+2) v A∧v.ownBlock≠none∧Below (N+2) W wr) (fun _ i _=>len-(intOf i).toNat)
   case atStart=>exact ⟨0,_,[],rfl,rfl,nzl _,rfl,HA.out.2,by simp [Value.ownBlock],HA.out.1⟩
   case round =>
    obtain ⟨k,v,A,rfl,rfl,hk,hA,hgn,hvb,hbel⟩:=hrel
    have HR:Hid (jaw (fun i=>jai (p.kid i) (x.kid i)) k=some A∧GN wr (N+2) v A∧v.ownBlock≠none∧Below (N+2) W wr):=⟨hA,hgn,hvb,hbel⟩
    clear hA hgn hvb hbel
    obtain ⟨x0,x1,x2,x3,x4,x5⟩:=(KW.out wr HR.out.2.2.2).2.1.cells
    obtain ⟨y0,y1,y2,y3,y4,y5⟩:=(KW.out wr HR.out.2.2.2).2.2.cells
    by_cases hkf:(k:Int)<len
    case pos =>
     have hkp:k<len:=by omega
     have hkx:k<x.len:=by (have:=HXL.out;omega)
     have HOKK:Hid (∀ i,i≤k→okG (p.kid i)):=fun i hi=>jg1 HW.out.2.2.1 (by rw [HL.out];omega) (.inl (by rw [HL.out];exact HOF.out))
     obtain ⟨b1,o1,sk1,uk1,hpk,hdk,hink⟩:=HAT.out k hkp
     obtain ⟨b2,o2,sx2,ux2,hpx,hdx,hinx⟩:=HAX.out k hkx
     subst hpk hpx
     obtain ⟨q1,r1,e1⟩:=hink.xs.shape
     obtain ⟨q2,r2,e2⟩:=hink.sets.shape
     obtain ⟨q3,r3,e3⟩:=hinx.xs.shape
     obtain ⟨q4,r4,e4⟩:=hinx.sets.shape
     subst e1 e2 e3 e4
     have HDP:=jaa hdk
     have HDX:=jaa hdx
     have HCALL:Hid (∀ wx,Below (N+2) W wx→Calls Tryz.prog 27 #[.agg #[.int .i64 (p.kid k).op,.int .i64 (p.kid k).at_,.int .i64 (p.kid k).n,.string (p.kid k).s,.slice q2 (p.kid k).set.length r2,.slice q1 (p.kid k).len r1],.agg #[.int .i64 (x.kid k).op,.int .i64 (x.kid k).at_,.int .i64 (x.kid k).n,.string (x.kid k).s,.slice q4 (x.kid k).set.length r4,.slice q3 (x.kid k).len r3]] wx fun e w'=>jjY wx (jai (p.kid k) (x.kid k)) e w'):=fun wx hx=>HK.out k hkp (x.kid k) wx _ _ _ _ (hink.below (KW.out wx hx).1) (hinx.below (KW.out wx hx).1) (by have:=ja7 (p:=p) (i:=k) (by rw [HL.out];exact hkp);have:=HW.out.1;omega) (by have:=ja7 (p:=x) (i:=k) hkx;have:=HW.out.2.1;omega) (HOKK.out k (nlr _)) (jiT HW.out.2.2.2 (by rw [HL.out];exact hkp))
     clear hdk hdx hink hinx
     go_wp2_with fail
     have HS0:Below (N+2) W wr.drew:=HR.out.2.2.2.drew
     refine wp_region_held_drew (S:=fun wq=>Below (N+2) W wq) (by kernel_rfl) HS0 (fun _=>?_)
     refine wpAnyH_take (i:=0) (oi:={dst:=some 90,op:=Op.fieldAddr 27 (Operand.tmp 2) 5,type:=0,pos := "l07_match.go:104",after:=#[],guard:=none}) (v:=.pointer (some ⟨N,5,none⟩)) rfl (by kernel_rfl) (by kernel_rfl) (by kernel_rfl) (fun _ _ _ h=>h) (Or.inl ⟨by rfl,?_⟩) HS0 ?_
     ·intro wq hSq
      clear hSq
      go_simp
     try simp only [pLq]
     refine wpAnyH_take (i:=1) (oi:={dst:=some 91,op:=Op.load 25 (Operand.tmp 90),type:=25,pos := "l07_match.go:104",after:=#[{on:=0,ground:=Ground.data}],guard:=none}) (v:=.slice (some ⟨b1,o1,none⟩) len cu) rfl (by kernel_rfl) (by kernel_rfl) (by kernel_rfl) (fun _ _ _ h=>h) (Or.inl ⟨by rfl,?_⟩) HS0 ?_
     ·intro wq hSq
      obtain ⟨f00,f01,f02,f03,f04,f05⟩:=(KW.out wq hSq).2.1.cells
      clear hSq
      go_simp
     try simp only [pLq]
     refine wpAnyH_take (i:=2) (oi:={dst:=some 92,op:=Op.move (Operand.tmp 9),type:=3,pos := "l07_match.go:104",after:=#[],guard:=none}) (v:=.int .i64 k) rfl (by kernel_rfl) (by kernel_rfl) (by kernel_rfl) (fun _ _ _ h=>h) (Or.inl ⟨by rfl,?_⟩) HS0 ?_
     ·intro wq hSq
      clear hSq
      go_simp
     try simp only [pLq]
     refine wpAnyH_take (i:=3) (oi:={dst:=some 93,op:=Op.indexAddr 25 (Operand.tmp 91) (Operand.tmp 92),type:=0,pos := "l07_match.go:104",after:=#[{on:=1,ground:=Ground.data},{on:=2,ground:=Ground.data}],guard:=none}) (v:=.pointer (some ⟨b1,o1+k*6,none⟩)) rfl (by kernel_rfl) (by kernel_rfl) (by kernel_rfl) (fun _ _ _ h=>h) (Or.inl ⟨by rfl,?_⟩) HS0 ?_
     ·intro wq hSq
      clear hSq
      go_simp
     try simp only [pLq]
     refine wpAnyH_take (i:=4) (oi:={dst:=some 94,op:=Op.load 27 (Operand.tmp 93),type:=27,pos := "l07_match.go:104",after:=#[{on:=3,ground:=Ground.data}],guard:=none}) (v:=.agg #[.int .i64 (p.kid k).op,.int .i64 (p.kid k).at_,.int .i64 (p.kid k).n,.string (p.kid k).s,.slice q2 (p.kid k).set.length r2,.slice q1 (p.kid k).len r1]) rfl (by kernel_rfl) (by kernel_rfl) (by kernel_rfl) (fun _ _ _ h=>h) (Or.inl ⟨by rfl,?_⟩) HS0 ?_
     ·intro wq hSq
      obtain ⟨f00,f01,f02,f03,f04,f05⟩:=HHD.out wq hSq _ _ _ _ _ HDP.out
      clear hSq
      go_simp
     try simp only [pLq]
     refine wpAnyH_take (i:=5) (oi:={dst:=some 95,op:=Op.fieldAddr 27 (Operand.tmp 3) 5,type:=0,pos := "l07_match.go:104",after:=#[],guard:=none}) (v:=.pointer (some ⟨N+1,5,none⟩)) rfl (by kernel_rfl) (by kernel_rfl) (by kernel_rfl) (fun _ _ _ h=>h) (Or.inl ⟨by rfl,?_⟩) HS0 ?_
     ·intro wq hSq
      clear hSq
      go_simp
     try simp only [pLq]
     refine wpAnyH_take (i:=6) (oi:={dst:=some 96,op:=Op.load 25 (Operand.tmp 95),type:=25,pos := "l07_match.go:104",after:=#[{on:=5,ground:=Ground.data}],guard:=none}) (v:=.slice (some ⟨b2,o2,none⟩) x.len cx) rfl (by kernel_rfl) (by kernel_rfl) (by kernel_rfl) (fun _ _ _ h=>h) (Or.inl ⟨by rfl,?_⟩) HS0 ?_
     ·intro wq hSq
      obtain ⟨f00,f01,f02,f03,f04,f05⟩:=(KW.out wq hSq).2.2.cells
      clear hSq
      go_simp
     try simp only [pLq]
     refine wpAnyH_take (i:=7) (oi:={dst:=some 97,op:=Op.move (Operand.tmp 9),type:=3,pos := "l07_match.go:104",after:=#[],guard:=none}) (v:=.int .i64 k) rfl (by kernel_rfl) (by kernel_rfl) (by kernel_rfl) (fun _ _ _ h=>h) (Or.inl ⟨by rfl,?_⟩) HS0 ?_
     ·intro wq hSq
      clear hSq
      go_simp
     try simp only [pLq]
     refine wpAnyH_take (i:=8) (oi:={dst:=some 98,op:=Op.indexAddr 25 (Operand.tmp 96) (Operand.tmp 97),type:=0,pos := "l07_match.go:104",after:=#[{on:=6,ground:=Ground.data},{on:=7,ground:=Ground.data}],guard:=none}) (v:=.pointer (some ⟨b2,o2+k*6,none⟩)) rfl (by kernel_rfl) (by kernel_rfl) (by kernel_rfl) (fun _ _ _ h=>h) (Or.inl ⟨by rfl,?_⟩) HS0 ?_
     ·intro wq hSq
      clear hSq
      go_simp
     try simp only [pLq]
     refine wpAnyH_take (i:=9) (oi:={dst:=some 99,op:=Op.load 27 (Operand.tmp 98),type:=27,pos := "l07_match.go:104",after:=#[{on:=8,ground:=Ground.data}],guard:=none}) (v:=.agg #[.int .i64 (x.kid k).op,.int .i64 (x.kid k).at_,.int .i64 (x.kid k).n,.string (x.kid k).s,.slice q4 (x.kid k).set.length r4,.slice q3 (x.kid k).len r3]) rfl (by kernel_rfl) (by kernel_rfl) (by kernel_rfl) (fun _ _ _ h=>h) (Or.inl ⟨by rfl,?_⟩) HS0 ?_
     ·intro wq hSq
      obtain ⟨f00,f01,f02,f03,f04,f05⟩:=HHD.out wq hSq _ _ _ _ _ HDX.out
      clear hSq
      go_simp
     try simp only [pLq]
     refine wpAnyH_ready (rs:=[10]) (by kernel_rfl) (by simp) ?_
     refine AllReadyH.cons (o:={dst:=some 100,op:=Op.call {callee:=Callee.value (Operand.func 27),args:=#[Operand.tmp 94,Operand.tmp 99],argTypes:=#[27,27]},type:=37,pos := "l07_match.go:104",after:=#[{on:=4,ground:=Ground.data},{on:=9,ground:=Ground.data}],guard:=none}) rfl (fun KK hK=>?_) AllReadyH.nil
     refine ja8 rfl 27 (.tmp 94) (.tmp 99) 27 27 rfl jdD (.agg #[.int .i64 (p.kid k).op,.int .i64 (p.kid k).at_,.int .i64 (p.kid k).n,.string (p.kid k).s,.slice q2 (p.kid k).set.length r2,.slice q1 (p.kid k).len r1]) (.agg #[.int .i64 (x.kid k).op,.int .i64 (x.kid k).at_,.int .i64 (x.kid k).n,.string (x.kid k).s,.slice q4 (x.kid k).set.length r4,.slice q3 (x.kid k).len r3]) rfl rfl _ (HCALL.out wr.drew HS0) ?_
     rintro e w1 ⟨hb1,v1,ok1,rfl,hcase⟩
     refine ⟨_,rfl,?_⟩
     have HBW:Hid (Below wr.heap.size wr w1):=⟨hb1.os,hb1.tape,hb1.output,hb1.size,hb1.block⟩
     have HSZ:Hid (N+2≤wr.heap.size):=by have h1:=HR.out.2.2.2.size;have h2:=HG0.out.2;show _≤_;omega
     have HS1:Below (N+2) W w1:=HR.out.2.2.2.trans (HBW.out.mono HSZ.out)
     have HCS:Hid ((∃ l,jai (p.kid k) (x.kid k)=some l∧ok1=true∧GN w1 wr.heap.size v1 l∧v1.ownBlock≠none)∨(jai (p.kid k) (x.kid k)=none∧ok1=false)):=hcase
     clear hb1 hcase HCALL HDP HDX
     refine hK.out _ _ HS1 (fun _=>?_)
     clear hK KK
     try simp only [pLq]
     refine wpAnyH_take (i:=11) (oi:={dst:=some 89,op:=Op.move (Operand.tmp 100),type:=37,pos := "l07_match.go:104",after:=#[{on:=10,ground:=Ground.data}],guard:=none}) (v:=.tuple #[v1,.bool ok1]) rfl (by kernel_rfl) (by kernel_rfl) (by kernel_rfl) (fun _ _ _ h=>h) (Or.inl ⟨by rfl,?_⟩) HS1 ?_
     ·intro wq hSq
      clear hSq
      go_simp
     try simp only [pLq]
     refine wpAnyH_take (i:=12) (oi:={dst:=some 101,op:=Op.extract (Operand.tmp 89) 0,type:=28,pos := "l07_match.go:104",after:=#[{on:=11,ground:=Ground.data}],guard:=none}) (v:=v1) rfl (by kernel_rfl) (by kernel_rfl) (by kernel_rfl) (fun _ _ _ h=>h) (Or.inl ⟨by rfl,?_⟩) HS1 ?_
     ·intro wq hSq
      clear hSq
      go_simp
     try simp only [pLq]
     refine wpAnyH_take (i:=13) (oi:={dst:=some 102,op:=Op.extract (Operand.tmp 89) 1,type:=4,pos := "l07_match.go:104",after:=#[{on:=11,ground:=Ground.data},{on:=14,ground:=Ground.gcOnly Departure.lateStores}],guard:=none}) (v:=.bool ok1) rfl (by kernel_rfl) (by kernel_rfl) (by kernel_rfl) (fun _ _ _ h=>h) (Or.inl ⟨by rfl,?_⟩) HS1 ?_
     ·intro wq hSq
      clear hSq
      go_simp
     try simp only [pLq]
     refine wpAnyH_take (i:=14) (oi:={dst:=some 10,op:=Op.assign (Operand.tmp 101),type:=28,pos := "l07_match.go:104",after:=#[{on:=12,ground:=Ground.data},{on:=10,ground:=Ground.chain},{on:=0,ground:=Ground.phase},{on:=1,ground:=Ground.phase},{on:=2,ground:=Ground.phase},{on:=3,ground:=Ground.phase},{on:=4,ground:=Ground.phase},{on:=5,ground:=Ground.phase},{on:=6,ground:=Ground.phase},{on:=7,ground:=Ground.phase},{on:=8,ground:=Ground.phase},{on:=9,ground:=Ground.phase},{on:=10,ground:=Ground.phase},{on:=11,ground:=Ground.phase},{on:=12,ground:=Ground.phase},{on:=13,ground:=Ground.textOnly Departure.lateStores}],guard:=none}) (v:=v1) rfl (by kernel_rfl) (by kernel_rfl) (by kernel_rfl) (fun _ _ _ h=>h) (Or.inl ⟨by rfl,?_⟩) HS1 ?_
     ·intro wq hSq
      clear hSq
      go_simp
     try simp only [pLq]
     refine wpAnyH_take (i:=15) (oi:={dst:=some 11,op:=Op.assign (Operand.tmp 102),type:=4,pos := "l07_match.go:104",after:=#[{on:=13,ground:=Ground.data},{on:=14,ground:=Ground.chain},{on:=0,ground:=Ground.phase},{on:=1,ground:=Ground.phase},{on:=2,ground:=Ground.phase},{on:=3,ground:=Ground.phase},{on:=4,ground:=Ground.phase},{on:=5,ground:=Ground.phase},{on:=6,ground:=Ground.phase},{on:=7,ground:=Ground.phase},{on:=8,ground:=Ground.phase},{on:=9,ground:=Ground.phase},{on:=10,ground:=Ground.phase},{on:=11,ground:=Ground.phase},{on:=12,ground:=Ground.phase},{on:=13,ground:=Ground.phase},{on:=14,ground:=Ground.phase}],guard:=none}) (v:=.bool ok1) rfl (by kernel_rfl) (by kernel_rfl) (by kernel_rfl) (fun _ _ _ h=>h) (Or.inl ⟨by rfl,?_⟩) HS1 ?_
     ·intro wq hSq
      clear hSq
      go_simp
     try simp only [pLq]
     refine wpAnyH_done (by kernel_rfl) ?_ _
     clear x0 x1 x2 x3 x4 x5 y0 y1 y2 y3 y4 y5
     rcases HCS.out with ⟨l,hml,rfl,hgl,hvl⟩|⟨hml,rfl⟩
     ·obtain ⟨lr,SS,hgr,hgB⟩:=HR.out.2.1
      obtain ⟨l1,SS1,hg1,hgB1⟩:=hgl
      obtain ⟨ao,cc,hv1,hn1,hs1⟩:=jez hg1.row
      subst hv1
      have hAl:A.length=jbO p.kid k:=jdC k A (fun i hi=>HOKK.out i (by omega)) HR.out.1
      have hll:l.length=(jab (p.kid k) 0).length:=jcp _ _ _ (HOKK.out k (nlr _)) hml
      have hmost:=jer p HW.out.1 (k:=k+1) (by rw [HL.out];omega)
      rw [jbL] at hmost
      have hsum:A.length+l.length≤1048577:=by omega
      have HGR:Hid (GRow wr (N+2) v A lr SS∧(∀ k∈blG v SS,N+2≤k)∧GRow w1 wr.heap.size (.slice ao l.length cc) l l1 SS1∧(∀ k∈blG (.slice ao l.length cc) SS1,wr.heap.size≤k)∧jai (p.kid k) (x.kid k)=some l):=⟨hgr,hgB,hg1,hgB1,hml⟩
      have HRW:Hid (w1.ownsRow (N+2) 42 9 v A.length (jak lr)):=jaM hgr.row (fun k hk=>HBW.out.block k (hgr.row.lt k hk).2)
      have HN1:Hid ((ao=none→l.length=0∧cc=0)∧∀ ad,ao=some ad→∀ j u,(jak l1)[j]? = some u→w1.cell? (ad.add j)=some u):=⟨hn1,hs1⟩
      clear hgr hgB hg1 hgB1 hml hn1 hs1 hvl hAl hll hmost HCS
      go_wp2_with (at_builtin;refine jas _ rfl (.tmp 106) (.tmp 107) 28 rfl (N+2) 42 i0 (.agg #[.string ⟨#[]⟩,.int .i64 0,.int .i64 0,.int .i64 0,.int .i64 0,.string ⟨#[]⟩,.slice none 0 0,.slice none 0 0,.slice none 0 0]) 9 136 Tryz.underlying28 hi0 hz0 hz1 hz2 rfl (by decide) v A.length (jak lr) rfl HRW.out HR.out.2.2.1 ao l.length cc (jak l1) rfl HGR.out.2.2.1.row.1 HN1.out.1 HN1.out.2 HGR.out.2.2.1.one (by unfold maxLen;omega) (by omega) (by have h1:=HBW.out.size;have h2:=HSZ.out;omega) ?_;intro v' w2 hown2 hg2 hwh2)
      have HN2:Hid (jaw (fun i=>jai (p.kid i) (x.kid i)) (k+1)=some (A++l)∧GN w2 (N+2) v' (A++l)∧v'.ownBlock≠none∧Below (N+2) W w2):=by
       have h9:=HGR.out.1.joined HGR.out.2.1 HBW.out HGR.out.2.2.1 HGR.out.2.2.2.1 HSZ.out hown2.out hg2.out hwh2.out
       refine ⟨?_,h9.1,?_,HR.out.2.2.2.trans h9.2⟩
       ·simp only [jaw]
        rw [HR.out.1,HGR.out.2.2.2.2]
        rfl
       ·rcases hwh2.out with h|h
        ·rw [h];exact HR.out.2.2.1
        ·rw [h];simp
      clear hown2 hg2 hwh2 HRW HGR HN1 HBW HS0 HS1
      go_wp2_with fail
      go_roundw
      case rel=>exact ⟨k+1,_,A++l,rfl,by go_num,by omega,HN2.out⟩
      case measure=>simp [intOf];omega
     ·have HB:Hid (m=none):=by
       show _=_
       rw [HM.out,jjB HO3.out HX3.out (by rw [HL.out];exact HOF.out) (by rw [HL.out];exact HXL.out),HL.out];exact jgt hkp hml
      clear hml
      go_wp2_with fail
      go_ret2
      exact HBAD.out _ _ HS1 HB.out
    case neg =>
     have hke:k=len:=by omega
     have HB:Hid (m=some A):=by
      show _=_
      rw [HM.out,jjB HO3.out HX3.out (by rw [HL.out];exact HOF.out) (by rw [HL.out];exact HXL.out),HL.out,←hke]
      exact HR.out.1
     go_wp2_with fail
     go_ret2
     exact HEND.out _ _ _ HR.out.2.2.2 HR.out.2.1 HR.out.2.2.1 HB.out
end Go.Proofs.YtjmlfacbcfbhdaaGreatDoor
