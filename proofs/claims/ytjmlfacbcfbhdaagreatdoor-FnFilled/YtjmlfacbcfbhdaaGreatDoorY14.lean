/- A node of drawn data with one kid more. No conditions. -/
import Derived.Test.YtjmlfacbcfbhdaaGreatDoorYA
import Derived.Test.YtjmlfacbcfbhdaaGreatDoorY12
set_option maxRecDepth 100000
set_option maxHeartbeats 8000000
namespace Go.Proofs.YtjmlfacbcfbhdaaGreatDoor
open Go.ChangeShapes Go.WideShapes Go.ChangeAt Go.RowKit
abbrev jcq:D:=.mk 1 0 3 ⟨#[]⟩ 0 (fun _=>.no)
abbrev jnu:D:=.mk 0 0 0 ⟨#[]⟩ 0 (fun _=>.no)
theorem Acc.sown' {B:Nat} {w:World} {acc:List D} {g n cap:Nat} {la:List (D×Value)} {SS:List (List Nat)} (h:Acc B w acc (.slice (some ⟨g,0,none⟩) n cap) la SS):SOwn w acc.length (jav acc) (.slice (some ⟨g,0,none⟩) n cap) (g::SS.flatten)∧(g::SS.flatten).Nodup∧∀ x∈g::SS.flatten,B≤x:=by
 have hn:n=acc.length:=by
  rcases h.own.2 with ⟨h1,_⟩|⟨g',cap',cur,h1,_⟩
  ·simp at h1
  ·simp only [Value.slice.injEq] at h1;exact h1.2.1
 subst hn
 refine ⟨.inr ⟨g,cap,la,SS,rfl,h.own,h.len,h.sl,fun i q hq=>?_,rfl,h.each⟩,List.nodup_cons.2 ⟨(h.out g rfl).1,h.nd⟩,fun x hx=>?_⟩
 ·have hi:i<acc.length:=by have:=(List.getElem?_eq_some_iff.1 hq).1;have:=h.len;omega
  obtain ⟨u,T,k1,_,_⟩:=h.each i hi
  rw [hq] at k1
  injection k1 with k1
  rw [k1]
 ·rcases List.mem_cons.1 hx with rfl|hx
  ·exact (h.out x rfl).2
  ·exact h.up x hx
theorem jnY {w w2 wr:World} {c n:Nat} {kid:Nat→D} {v:Value} {S:List Nat} (hb:Base3 w w2 c n kid v S) {g j:Nat} {x:D} {u:Value} {T:List Nat} (hN:NodeAt w2 (jcG n kid) v S g j x u T) (he:Ext c w2 wr) :
  ∃ la SS,Acc w.heap.size wr (jbw x.len x.kid) u la SS∧(∀ b∈SS.flatten,b∈T)∧(∀ b,u.ownBlock=some b→b∈T):=by
 obtain ⟨h1,h2,h3,-⟩:=hN.facts
 have hs:SOwn wr x.len x.kid u T:=h1.sown.same (fun b hb'=>he.block b (DOwn.there _ h1 b hb') (by have:=hb.up b (h3 b hb');have:=hb.cw;omega))
 exact hs.acc (hN.apart hb.nd).1 (fun b hb'=>hb.up b (h3 b hb'))
theorem jj1 {w w2 wr w3:World} {c n:Nat} {kid:Nat→D} {v:Value} {S:List Nat} {a:Option Addr} {len cap:Nat} (hb:Base3 w w2 c n kid v S) {g j:Nat} {x:D} {u:Value} {T:List Nat} (hN:NodeAt w2 (jcG n kid) v S g j x u T) (he:Ext c w2 wr) (hc:CurAt c a len cap wr)
  {la:List (D×Value)} {SS:List (List Nat)} (hA:Acc w.heap.size wr (jbw x.len x.kid) u la SS) (hsub:∀ b∈SS.flatten,b∈T) (hub:∀ b,u.ownBlock=some b→b∈T) {o:Obj} {g' cap3:Nat}
  (hown:w3.ownsRow 0 72 5 (.slice (some ⟨g',0,none⟩) (x.len+1) cap3) (x.len+1) (jaF la++jaW (jnu,.slice none 0 0))) (hg:(wr.alloc o).drew.grownBy w3 u.ownBlock) (hat:u.ownBlock=some g'∨g'=wr.heap.size+1) :
  g≠g'∧w3.heap[g]? = w2.heap[g]?∧Drawn3 w ((st5 w3 g' (x.len*5) jcq (.slice none 0 0)).setCell ⟨g,j*5+4,none⟩ (.slice (some ⟨g',0,none⟩) (x.len+1) cap3)) c a len cap v:=by
 obtain ⟨f1,f2,f3,-⟩:=hN.facts
 obtain ⟨hTn,hgT⟩:=hN.apart hb.nd
 have hSlt:=jey hN
 have hsz:=he.size
 have hg':g'∈T∨g'=wr.heap.size+1:=hat.imp (hub g') id
 have hgB:w.heap.size≤g:=hb.up g f2
 have hw2:w.heap.size≤w2.heap.size:=hb.ext.size
 have hg'B:w.heap.size≤g':=by
  rcases hg' with h|h
  ·exact hb.up g' (f3 g' h)
  ·omega
 have hgl:g<w2.heap.size:=hSlt g f2
 have hne:g≠g':=by
  rcases hg' with h|h
  ·intro e;exact hgT (e ▸ h)
  ·omega
 have hll:la.length=x.len:=by rw [hA.len,jaO]
 have hown':w3.ownsRow 0 72 5 (.slice (some ⟨g',0,none⟩) (x.len+1) cap3) (x.len+1) (jaF la++jaW (jnu,.slice none 0 0)):=hown
 have h5:=jpo hown' (by simp [jaW]) jcq (.slice none 0 0)
 rw [hll] at h5
 obtain ⟨o4,g4⟩:=h5
 have w3k:∀ k,k<wr.heap.size→u.ownBlock≠some k→w3.heap[k]? = wr.heap[k]? := fun k hk hne' =>
  (hg.block k (by show k<(wr.alloc o).heap.size;simp;omega) (fun e=>hne' e.symm)).trans (bha wr o k hk)
 have w4k:∀ k,k<wr.heap.size+1→u.ownBlock≠some k→(st5 w3 g' (x.len*5) jcq (.slice none 0 0)).heap[k]? = w3.heap[k]? := fun k hk hne' =>
  g4.block k (by have:=hg.size;have h1:(wr.alloc o).drew.heap.size=wr.heap.size+1:=(by show (wr.alloc o).heap.size=_;simp);omega) (fun e=>by
   injection e with e
   rcases hat with h|h
   ·exact hne' (by rw [e];exact h)
   ·omega)
 have hgu:u.ownBlock≠some g:=fun e=>hgT (hub g e)
 have hg3:w3.heap[g]? = w2.heap[g]? := (w3k g (by omega) hgu).trans (he.block g hgl (by have:=hb.cw;omega))
 refine ⟨hne,hg3,?_⟩
 have grown:(wr.alloc o).grownBy (st5 w3 g' (x.len*5) jcq (.slice none 0 0)) u.ownBlock :=
  ⟨g4.os.trans hg.os,g4.tape.trans hg.tape,g4.output.trans hg.output,Nat.le_trans hg.size g4.size,fun k hk hr=>by
   have hk1:k<wr.heap.size+1:=by simpa using hk
   exact (w4k k hk1 (fun e=>hr e.symm)).trans (hg.block k hk hr)⟩
 have hd1:DOwn wr jcq (.slice none 0 0) []:=⟨⟨by unfold maxLen;exact nzl _,by omega,by omega⟩,.inl ⟨rfl,rfl,rfl⟩⟩
 have hA2:=hA.app (d:=jcq) (v:=.slice none 0 0) (T:=[]) (o:=o) (w3:=st5 w3 g' (x.len*5) jcq (.slice none 0 0)) (g:=g') (cap:=cap3) hd1 (by simp) (by simp) (by simp) (by simp) (by omega)
  (by rw [jaO];have:=o4;rw [jb6] at this;simpa [jaW,jaF] using this) grown hat
 rw [jaO] at hA2
 obtain ⟨s1,s2,s3⟩:=hA2.sown'
 have hflat:∀ b∈g'::(SS++[[]]).flatten,b=g'∨b∈T:=by
  intro b hb'
  rcases List.mem_cons.1 hb' with h|h
  ·exact .inl h
  ·rw [List.flatten_append,lma] at h
   rcases h with h|h
   ·exact .inr (hsub b h)
   ·simp at h
 generalize hS2:g'::(SS++[[]]).flatten=S2 at s1 s2 s3 hflat
 have hgS2:g ∉ S2:=fun h=>by
  rcases hflat g h with h1|h1
  ·exact hne h1
  ·exact hgT h1
 generalize hw4:st5 w3 g' (x.len*5) jcq (.slice none 0 0)=w4 at *
 have hset:∀ k,k≠g→(w4.setCell ⟨g,j*5+4,none⟩ (.slice (some ⟨g',0,none⟩) (x.len+1) cap3)).heap[k]? = w4.heap[k]? := fun k hk=>bhs w4 ⟨g,j*5+4,none⟩ _ k hk
 have hs':=s1.same (w':=w4.setCell ⟨g,j*5+4,none⟩ (.slice (some ⟨g',0,none⟩) (x.len+1) cap3)) (fun b hb'=>hset b (fun e=>hgS2 (e ▸ hb')))
 rw [lla,jaO,List.length_singleton] at hs'
 have hg4:w4.heap[g]? = w2.heap[g]? := (w4k g (by omega) hgu).trans hg3
 obtain ⟨kid',S',k1,k2,k3,k4,k5⟩:=hN.swap hb.nd (w':=w4.setCell ⟨g,j*5+4,none⟩ (.slice (some ⟨g',0,none⟩) (x.len+1) cap3)) (x':=.mk x.op x.at_ x.n x.s (x.len+1) (jav (jbw x.len x.kid++[jcq]))) (u':=.slice (some ⟨g',0,none⟩) (x.len+1) cap3) (T':=S2)
  (fun len cap l ho hl hj=>jmT (x:=x) (u:=u) (.mk x.op x.at_ x.n x.s (x.len+1) (jav (jbw x.len x.kid++[jcq])),.slice (some ⟨g',0,none⟩) (x.len+1) cap3) _ hg4 (by omega) rfl ho hj)
  ⟨f1.plain,hs'⟩ s2 (fun b hb'=>by
   rcases hflat b hb' with h|h
   ·rcases hg' with h1|h1
    ·exact .inl (h ▸ h1)
    ·exact .inr (fun h2=>by have:=hSlt b h2;omega)
   ·exact .inl h) (fun b hb' hbg hbT=>by
   have hbu:u.ownBlock≠some b:=fun e=>hbT (hub b e)
   have hbl:=hSlt b hb'
   have hbB:=hb.up b hb'
   have hcw:=hb.cw
   exact (hset b hbg).trans ((w4k b (by omega) hbu).trans ((w3k b (by omega) hbu).trans (he.block b hbl (by omega)))))
 have hbel:Below w.heap.size wr (w4.setCell ⟨g,j*5+4,none⟩ (.slice (some ⟨g',0,none⟩) (x.len+1) cap3)):=by
  have hb4:Below w.heap.size wr w4:=((newb wr o).mono (by omega)).grown grown (by simp;omega) (fun k hk=>hb.up k (f3 k (hub k hk)))
  exact hb4.setCell (by exact hgB) _
 refine ⟨⟨n,kid',k1.sown.slB (fun b hb'=>?_),jfV k5 hb.wt (q:=1) ?_ (by omega)⟩,(hb.ext.trans he).transB hbel,hc.keepC fun k hk=>hbel.block k (by have:=hb.cw;omega)⟩
 ·rcases k3 b hb' with h|h
  ·exact hb.up b h
  ·exact s3 b h
 ·rw [D.weight_eq x]
  show x.s.size+((x.len+1)+jao (fun i=>(jav (jbw x.len x.kid++[jcq]) i).weight) (x.len+1))≤_
  rw [jjf D.weight x.len x.kid jcq]
  unfold jah
  have:(jcq).weight=0:=rfl
  omega
theorem jdZ (w:World) (b1 o1 b2 o2:Nat) (x y:Value) (h:b1≠b2):(w.setCell ⟨b1,o1,none⟩ x).setCell ⟨b2,o2,none⟩ y=(w.setCell ⟨b2,o2,none⟩ y).setCell ⟨b1,o1,none⟩ x:=by
 unfold World.setCell
 simp only
 congr 1
 apply Array.ext_getElem?
 intro i
 simp only [Array.getElem?_modify]
 by_cases h1:b1=i
 ·have h2:¬ b2=i:=by omega
  simp only [h1,h2,if_true,if_false]
 ·by_cases h2:b2=i
  ·simp only [h1,h2,if_true,if_false]
  ·simp only [h1,h2,if_false]
theorem jmd (w:World) (g o G p:Nat) (x v0 v1 v2 v3 v4:Value) (h:g≠G) :
  (((((w.setCell ⟨g,o,none⟩ x).setCell ⟨G,p,none⟩ v0).setCell ⟨G,p+1,none⟩ v1).setCell ⟨G,p+2,none⟩ v2).setCell ⟨G,p+3,none⟩ v3).setCell ⟨G,p+4,none⟩ v4 =
  (((((w.setCell ⟨G,p,none⟩ v0).setCell ⟨G,p+1,none⟩ v1).setCell ⟨G,p+2,none⟩ v2).setCell ⟨G,p+3,none⟩ v3).setCell ⟨G,p+4,none⟩ v4).setCell ⟨g,o,none⟩ x:=by
 rw [jdZ w g o G p x v0 h,jdZ _ g o G (p+1) x v1 h,jdZ _ g o G (p+2) x v2 h,jdZ _ g o G (p+3) x v3 h,jdZ _ g o G (p+4) x v4 h]
end Go.Proofs.YtjmlfacbcfbhdaaGreatDoor
