/- impl.filledOften, out of the filler of the part. Conditions: the part is written plainly; at most 2^21 of it. Written by wip/tools/mkoften.py. -/
import Derived.Test.YtjmlfacbcfbhdaaGreatDoorYA
import Derived.Test.YtjmlfacbcfbhdaaGreatDoorY38
import Derived.Test.YtjmlfacbcfbhdaaGreatDoorY37
import Derived.Test.YtjmlfacbcfbhdaaGreatDoorY20
import Derived.Test.YtjmlfacbcfbhdaaGreatDoorY28
import Derived.Laws.AppendOwnNone
import Derived.Deep.Cut
import Derived.Deep.RegionHeld3
import Derived.Deep.CutRange
set_option maxRecDepth 100000
set_option maxHeartbeats 8000000
namespace Go.Proofs.YtjmlfacbcfbhdaaGreatDoor
open Go.ChangeShapes Go.WideShapes Go.ChangeAt Go.RowKit
theorem jo3 (l:List ByteArray) (s:ByteArray):inS l s=true↔s∈l:=by
 unfold inS
 rw [List.any_eq_true]
 constructor
 ·rintro ⟨x,hx,h⟩
  have h1:(x.toList==s.toList)=true:=by
   have h':=eq_of_beq h
   simp [h']
  rw [jbW] at h1
  subst h1
  exact hx
 ·intro h
  exact ⟨s,h,by simp⟩
theorem jn3 (s x:ByteArray) (a:List ByteArray×Bool):x∈(addN s a).1↔x∈a.1∨x=s:=by
 unfold addN
 split
 ·rename_i h
  rw [jo3] at h
  constructor
  ·exact .inl
  ·rintro (h1|rfl)
   ·exact h1
   ·exact h
 ·simp
theorem jkP (l:List (ByteArray×Int)) (x:ByteArray):∀ a:List ByteArray×Bool,x∈(jbv l a).1↔x∈a.1∨x∈nmsD l:=by
 induction l with
 | nil=>intro a;simp [jbv,nmsD]
 | cons y l ih =>
  intro a
  have e:jbv (y::l) a=jbv l (addN y.1 a):=rfl
  rw [e,ih,jn3]
  simp only [nmsD,List.map_cons,List.mem_cons]
  constructor
  ·rintro ((h|h)|h)
   ·exact .inl h
   ·exact .inr (.inl h)
   ·exact .inr (.inr h)
  ·rintro (h|h|h)
   ·exact .inl (.inl h)
   ·exact .inl (.inr h)
   ·exact .inr h
theorem jes {t:X} (hl:jdU t) (x:ByteArray):x∈jam t↔x∈nmsD (jab t 0):=by
 unfold jam
 rw [jfI t 0 _ hl,jkP]
 simp
theorem jgz {t:X} (hl:jdU t) (L:List G):jaq L (jam t) (-1)=match jb5 (jbk L (nmsD (jab t 0))) with|some n=>(n:Int)|none=>-1:=by
 rw [jfX,jmn (jes hl)]
 rfl
theorem jln {t:X} (hl:jdU t) {L:List G} {n:Nat} (h:jb5 (jbk L (nmsD (jab t 0)))=some n):jaq L (jam t) (-1)=(n:Int):=by rw [jgz hl,h]
theorem jlm {t:X} (hl:jdU t) {L:List G} (h:jb5 (jbk L (nmsD (jab t 0)))=none):jaq L (jam t) (-1)<0:=by
 rw [jgz hl,h]
 simp
theorem jls {w0:World} {t:X} (hl:jdU t) {L:List G} {Am:ByteArray→Option Value} {often k:Nat} (h:SevOk w0 L Am often (nmsD (jab t 0))) (hk:k<often) (hn:∀ g x,jag L x=some g→0<g.deep→k<g.len→g.sm k≠.no) {nm:ByteArray} {v:Value} (hv:Am nm=some v) :
  ∃ g g' a b c,jag L nm=some g∧0<g.deep∧Like g g'∧v=aggG g' a b c∧GAt w0 g' a b c∧k<g.len∧jag (jaA L k (jam t)++L) nm=some ((g.sm k).named nm):=by
 obtain ⟨m,g,g',a,b,c,q1,q2,q3,q4,q5,q6⟩:=h.1 nm v hv
 refine ⟨g,g',a,b,c,q1,q2,q3,q4,q5,by omega,?_⟩
 rw [jb7,jnj hn ((jes hl nm).2 m) q1 q2 (by omega)]
 rfl
theorem jlt {w0:World} {t:X} (hl:jdU t) {L:List G} {Am:ByteArray→Option Value} {often k:Nat} (h:SevOk w0 L Am often (nmsD (jab t 0))) (hn:∀ g x,jag L x=some g→0<g.deep→k<g.len→g.sm k≠.no) {nm:ByteArray} (hv:Am nm=none) :
  jag (jaA L k (jam t)++L) nm=jag L nm:=by
 rw [jb7,jov hn]
 ·simp
 ·rintro ⟨m,g,q1,q2,_⟩
  obtain ⟨v,hv'⟩:=h.2 nm ((jes hl nm).1 m) g q1 q2
  rw [hv] at hv'
  cases hv'
def G.full:G→Prop
 | .no=>False
 | .mk _ _ _ len sm=>∀ i,i<len→(sm i).full
theorem G.full.ne {g:G} (h:g.full):g≠.no:=by rintro rfl;exact h
theorem G.full.sm {g:G} (h:g.full) {k:Nat} (hk:k<g.len):(g.sm k).full:=by
 cases g with
 | no=>exact h.elim
 | mk a b c d e=>exact h k hk
theorem G.full.named {g:G} (h:g.full) (nm:ByteArray):(g.named nm).full:=by
 cases g with
 | no=>exact h.elim
 | mk a b c d e=>exact h
theorem GAt.full {w:World} (g:G):∀ {a b c:Value},GAt w g a b c→g.full:=by
 induction g with
 | no=>intro a b c h;exact h
 | mk name deep one len sm ih =>
  intro a b c h i hi
  unfold GAt at h
  obtain ⟨_,_,p,cap,_,_,_,_,h5⟩:=h
  obtain ⟨_,_,_,_,_,_,_,hg⟩:=h5 i hi
  exact ih i hg
def FullL (L:List G):Prop:=∀ nm g,jag L nm=some g→g.full
theorem GsAt.fullL {w:World} {L:List G} {v:Value} (h:GsAt w L.length (fun i=>L.getD i .no) v):FullL L:=by
 intro nm g hg
 obtain ⟨hm,_⟩:=jb1 hg
 obtain ⟨i,hi,he⟩:=List.getElem_of_mem hm
 obtain ⟨p,cap,_,_,_,_,h5⟩:=h
 obtain ⟨_,_,_,_,_,_,_,hx⟩:=h5 i hi
 have e:L.getD i .no=g:=by rw [lgd,lgg hi,Option.getD_some,he]
 have hy:=GAt.full _ hx
 simp only at hy
 rwa [e] at hy
theorem FullL.turn {L:List G} (h:FullL L) (k:Nat) (ns:List ByteArray):FullL (jaA L k ns++L):=by
 intro nm g hg
 rw [jb7] at hg
 cases ht:jag (jaA L k ns) nm with
 | none=>rw [ht] at hg;exact h nm g (by simpa using hg)
 | some g1 =>
  rw [ht] at hg
  have e:g1=g:=by simpa using hg
  subst e
  obtain ⟨hm,_⟩:=jb1 ht
  unfold jaA at hm
  rw [List.mem_filterMap] at hm
  obtain ⟨x,_,hx⟩:=hm
  obtain ⟨g0,h0,hx⟩:=bind_some hx
  split at hx
  ·rename_i hc
   injection hx with hx
   subst hx
   exact ((h x g0 h0).sm hc.2).named x
  ·cases hx
theorem jpu {K:Nat} {w0 W:World} {t:X} (hl:jdU t) {L:List G} {k S T F Ms often:Nat} {f:Value} {Am:ByteArray→Option Value} (hF:FullL L) (h:SevOk w0 L Am often (nmsD (jab t 0))) (hk:k<often)
  (boxS:W.heap[S]? = some (.cells #[.map (some Ms)] 170 (0,0))) (boxT:W.heap[T]? = some (.cells #[.int .i64 k] 3 (0,0))) (boxF:W.heap[F]? = some (.cells #[f] 78 (0,0)))
  (map:SMap W Ms Am) (fnd:Finds K w0 W f L) (bel:Below w0.heap.size w0 W) (ne:K≠S∧K≠T∧K≠F∧K≠Ms∧w0.heap.size≤K) :
  TurnAt K w0 W L (jaA L k (jam t)++L) k S T F Ms f Am:=by
 have hn:∀ g x,jag L x=some g→0<g.deep→k<g.len→g.sm k≠.no:=fun g x hg _ hk=>((hF x g hg).sm hk).ne
 refine ⟨boxS,boxT,boxF,map,fnd,bel,fun nm hv=>jlt hl h hn hv,fun nm v hv=>?_,ne⟩
 obtain ⟨g,g',a,b,c,q1,q2,q3,q4,q5,q6,q7⟩:=jls hl h hk hn hv
 refine ⟨g',a,b,c,_,q4,q5,by rw [q3.2.2.1];exact q6,q7,?_⟩
 rw [q3.2.2.2]
 exact jkI _ _
def PlainX:X→Prop
 | .no=>False
 | .mk op _ n s set len kid=>((op=1∨op=2)∧len=0∨op=3∧n=0∧s=⟨#[]⟩∧set=[])∧∀ i,i<len→PlainX (kid i)
theorem PlainX.kid {t:X} (h:PlainX t) {i:Nat} (hi:i<t.len):PlainX (t.kid i):=by
 cases t with
 | no=>exact h.elim
 | mk op a n s set len kid=>exact h.2 i hi
theorem PlainX.leaf:∀ {t:X},PlainX t→jdU t:=by
 intro t
 induction t with
 | no=>intro h;exact h.elim
 | mk op a n s set len kid ih =>
  intro h
  refine ⟨fun ho=>?_,fun i hi=>ih i (h.2 i hi)⟩
  rcases h.1 with ⟨_,hz⟩|⟨h3,_⟩
  ·exact hz
  ·omega
theorem jgV {s:ByteArray} (h:(s.toList == [])=true):s=⟨#[]⟩:=by
 have h1:s.toList=[]:=eq_of_beq h
 rw [ByteArray.toList_eq] at h1
 cases s with
 | mk d =>
  have h2:d.toList=[]:=h1
  have:d=#[]:=by rw [←Array.toList_inj];simpa using h2
  rw [this]
theorem jhS {t:X} (h:ja2 t=true):(t.op=1∨t.op=2)∧t.len=0∨t.op=3∧t.n=0∧t.s=⟨#[]⟩∧t.set=[]:=by
 rw [jdz] at h
 unfold gB at h
 rw [Bool.and_eq_true] at h
 have h:=h.2
 by_cases h1:t.op=1
 ·rw [if_pos h1] at h
  simp only [Bool.and_eq_true] at h
  have:=h.2.2.2
  simp at this
  exact .inl ⟨.inl h1,this⟩
 ·rw [if_neg h1] at h
  by_cases h2:t.op=2
  ·rw [if_pos h2] at h
   simp only [Bool.and_eq_true] at h
   have:=h.2.2.2
   simp at this
   exact .inl ⟨.inr h2,this⟩
  ·rw [if_neg h2] at h
   by_cases h3:t.op=3
   ·rw [if_pos h3] at h
    simp only [Bool.and_eq_true] at h
    obtain ⟨a,b,c⟩:=h
    refine .inr ⟨h3,by simpa using a,jgV b,?_⟩
    have:t.set.length=0:=by simpa using c
    exact List.eq_nil_of_length_eq_zero this
   ·rw [if_neg h3] at h
    cases h
theorem jkN (nest:Nat):∀ left len kid,(jbb nest left len kid).isSome=true→∀ i,i<len→PlainX (kid i):=by
 induction nest with
 | zero =>
  intro left len kid h i hi
  unfold jbb at h
  split at h
  ·omega
  ·simp at h
 | succ nest ih =>
  intro left len kid h i hi
  rw [jbb] at h
  split at h
  ·simp at h
  ·obtain ⟨l,hl⟩:=jhE len h i hi
   split at hl
   ·rename_i hf
    have h1:=jhS hf
    have h2:=ih l _ _ hl
    cases hk:kid i with
    | no =>
     rw [hk] at h1
     rcases h1 with ⟨h1|h1,_⟩|⟨h1,_⟩ <;> exact absurd h1 (by decide)
    | mk op a n s set len' kid' =>
     rw [hk] at h1 h2
     exact ⟨h1,h2⟩
   ·simp at hl
theorem jdJ {t:X} (h:jax t=true):PlainX t:=by
 rw [jdp] at h
 exact jkN 20 1500 1 (fun _=>t) h 0 (by omega)
def jaX (t:X) (L:List G):Option FX:=if jan t=true then none else jaI t L
theorem jb0 {t:X} {L:List G} (h:jan t=false):jaX t L=jaI t L:=if_neg (by rw [h];simp)
theorem jf8 {t x:X} {L:List G} (h2:t.op=2) (h:symF t L=some x):∃ m,jaX t L=some ([x],1,m):=by
 cases t with
 | no=>exact absurd h2 (by decide)
 | mk op a n s set len kid =>
  cases hd:jan (.mk op a n s set len kid) with
  | true=>rw [jh9 hd] at h;cases h
  | false =>
   rw [jb0 hd]
   have h2:op=2:=h2
   subst h2
   have hs:(s.toList==jb3)=false:=by
    have hd':(((2:Int)==2)&&(s.toList==jb3))=false:=hd
    simpa using hd'
   simp only [jaI,if_true]
   cases hg:jag L s with
   | none =>
    rw [jfW hd hg] at h
    injection h with h
    exact ⟨0,by simp only [hs,h];rfl⟩
   | some g =>
    by_cases h0:g.deep=0
    ·rw [jho hd hg h0] at h
     injection h with h
     exact ⟨_,by simp only [if_pos h0];rw [h]⟩
    ·rw [jh8 hg h0] at h
     cases h
theorem jf7 {t:X} {L:List G} (h2:t.op=2) (h:symF t L=none):jaX t L=none:=by
 cases t with
 | no=>exact absurd h2 (by decide)
 | mk op a n s set len kid =>
  cases hd:jan (.mk op a n s set len kid) with
  | true=>exact if_pos hd
  | false =>
   rw [jb0 hd]
   have h2:op=2:=h2
   subst h2
   simp only [jaI,if_true]
   cases hg:jag L s with
   | none =>
    rw [jfW hd hg] at h
    cases h
   | some g =>
    by_cases h0:g.deep=0
    ·rw [jho hd hg h0] at h
     cases h
    ·simp only [if_neg h0]
theorem jlW {t:X} (h:t.op≠2):jan t=false:=by
 unfold jan
 have:(t.op==2)=false:=by simpa using h
 rw [this]
 rfl
theorem jl3 {t:X} {L:List G} (h1:t.op=1):jaX t L=some ([t],1,0):=by
 rw [jb0 (jlW (by omega))]
 cases t with
 | no=>exact absurd h1 (by decide)
 | mk op a n s set len kid =>
  have h1:op=1:=h1
  subst h1
  simp [jaI]
theorem jkh {t:X} {L:List G} (h3:t.op=3):jaX t L=(jcC t.kid (fun i L=>jaI (t.kid i) L) L t.len t.len 0).map fun ks=>([.mk t.op t.at_ 0 ⟨#[]⟩ [] ks.1.length (fun i=>ks.1.getD i .no)],ks.2.1+1,ks.2.2):=by
 rw [jb0 (jlW (by omega))]
 cases t with
 | no=>exact absurd h3 (by decide)
 | mk op a n s set len kid =>
  have h3:op=3:=h3
  subst h3
  simp [jaI,X.op,X.at_,X.kid,X.len]
def CountAt (K:Nat) (W:World) (c:Nat):Prop:=W.heap[K]? = some (.cells #[.int .i64 c] 3 (0,0))
theorem CountAt.below {K:Nat} {W W':World} {c:Nat} (h:CountAt K W c) (hb:Below W.heap.size W W'):CountAt K W' c:=(hb.block K (aes.1 h).1).trans h
def Foot (F:Nat→Prop) (w:World) (x:X) (su u:Value):Prop:=(∀ j,F j→j<w.heap.size)∧∀ W',(∀ j,F j→W'.heap[j]? = w.heap[j]?)→x.At 0 W' su u
theorem Foot.now {F:Nat→Prop} {w:World} {x:X} {su u:Value} (h:Foot F w x su u):x.At 0 w su u:=h.2 w (fun _ _=>rfl)
theorem Foot.keep {F:Nat→Prop} {w w2:World} {x:X} {su u:Value} (h:Foot F w x su u) (hk:∀ j,F j→w2.heap[j]? = w.heap[j]?) (hs:w.heap.size≤w2.heap.size):Foot F w2 x su u :=
 ⟨fun j hj=>nll (h.1 j hj) hs,fun W' hW=>h.2 W' (fun j hj=>(hW j hj).trans (hk j hj))⟩
theorem Foot.below {F:Nat→Prop} {w w2:World} {x:X} {su u:Value} (h:Foot F w x su u) (hb:Below w.heap.size w w2):Foot F w2 x su u:=h.keep (fun j hj=>hb.block j (h.1 j hj)) hb.size
theorem Foot.old {w0 w:World} {x:X} {su u:Value} (h:x.At 0 w0 su u) (hb:Below w0.heap.size w0 w):Foot (fun j=>j<w0.heap.size) w x su u :=
 ⟨fun _ hj=>nll hj hb.size,fun _ hW=>X.At.kept (nlr _) (fun _ _ _ hc=>(wcb (w:=w0) ((hW _ (wbl w0 _ hc)).trans (hb.block _ (wbl w0 _ hc)))).trans hc) h⟩
def jeI (S K:Nat) (a:Addr) (o:Option FX) (c:Nat) (W w':World) (e:Ending):Prop :=
 But (fun j=>j=K) W w'∧((∃ r x su u F,o=some r∧r.1=[x]∧CountAt K w' (c+r.2.1)∧c+r.2.1≤4000∧e=.returned (.tuple #[aggX x su u,.nilIface])∧Foot F w' x su u∧∀ j,F j→j<S∨W.heap.size≤j) ∨
  ((∀ r,o=some r→4000<c+r.2.1)∧∃ (y:X) (p q:Option Addr) (n1 n2 n3 n4:Nat),e=.returned (.tuple #[aggX y (.slice p n1 n2) (.slice q n3 n4),errV a])))
def jcX (K B:Nat):Value:=.func (.func 63) #[] #[.pointer (some ⟨K,0,none⟩),.pointer (some ⟨B,0,none⟩)]
structure FillerAt (K B:Nat) (w0 W:World) (a:Addr) (c:Nat):Prop where
 cnt:CountAt K W c
 self:W.heap[B]? = some (.cells #[jcX K B] 75 (0,0))
 err:ErrAt w0 a
 bel:Below w0.heap.size w0 W
 few:c≤4000
 ne:K≠B∧w0.heap.size≤K∧w0.heap.size≤B
theorem FillerAt.below {K B:Nat} {w0 W W':World} {a:Addr} {c:Nat} (h:FillerAt K B w0 W a c) (hb:Below W.heap.size W W'):FillerAt K B w0 W' a c :=
 ⟨h.cnt.below hb,(hb.block B (aes.1 h.self).1).trans h.self,h.err,h.bel.trans (hb.mono h.bel.size),h.few,h.ne⟩
theorem FillerAt.errW {K B:Nat} {w0 W:World} {a:Addr} {c:Nat} (h:FillerAt K B w0 W a c):ErrAt W a:=h.err.below h.bel
theorem FillerAt.but {K B:Nat} {w0 W W':World} {a:Addr} {c c':Nat} (h:FillerAt K B w0 W a c) (hb:But (fun j=>j=K) W W') (hc:CountAt K W' c') (hf:c'≤4000):FillerAt K B w0 W' a c' :=
 ⟨hc,hb.at h.self (fun e=>h.ne.1 e.symm),h.err,h.bel.trans (hb.below h.bel.size (fun j hj=>by have:=h.ne.2.1;omega)),hf,h.ne⟩
def jih (K B:Nat) (w0:World) (a:Addr) (t:X):Prop:=∀ (L:List G) (f:Value) (W:World) (c:Nat) (su u:Value),FillerAt K B w0 W a c→Finds K w0 W f L→FullL L→t.At 0 w0 su u →
 Calls Tryz.prog 63 #[aggX t su u,f,.pointer (some ⟨K,0,none⟩),.pointer (some ⟨B,0,none⟩)] W fun e w'=>jeI w0.heap.size K a (jaX t L) c W w' e
def EachF (S N:Nat) (w:World) (v:Value) (la:List XR):Prop:=∀ q∈la,∃ F:Nat→Prop,Foot F w q.1 q.2.1 q.2.2∧(∀ j,F j→j<S∨N≤j)∧∀ g,v.ownBlock=some g→¬ F g
structure RowA (S N:Nat) (w:World) (v:Value) (l:List X) (la:List XR):Prop where
 map:la.map (·.1)=l
 row:w.ownsRow N 27 6 v l.length (jau la)
 emp:l=[]→v=.slice .none 0 0
 each:EachF S N w v la
theorem RowA.nil (S N:Nat) (w:World):RowA S N w (.slice none 0 0) [] [] :=
 ⟨rfl,⟨rfl,.inl ⟨rfl,rfl⟩⟩,fun _=>rfl,fun q hq=>by cases hq⟩
theorem RowA.len {S N:Nat} {w:World} {v:Value} {l:List X} {la:List XR} (h:RowA S N w v l la):la.length=l.length:=by rw [←h.map,List.length_map]
theorem RowA.lt {S N:Nat} {w:World} {v:Value} {l:List X} {la:List XR} (h:RowA S N w v l la) {g:Nat} (hg:v.ownBlock=some g):N≤g∧g<w.heap.size:=h.row.lt g hg
theorem RowA.but {S N K:Nat} {w w':World} {v:Value} {l:List X} {la:List XR} (h:RowA S N w v l la) (hb:But (fun j=>j=K) w w') (hK:S≤K∧K<N):RowA S N w' v l la:=by
 refine ⟨h.map,hb.owns h.row (fun g hg e=>by have:=(h.lt hg).1;omega),h.emp,fun q hq=>?_⟩
 obtain ⟨F,h1,h2,h3⟩:=h.each q hq
 exact ⟨F,h1.keep (fun j hj=>hb.block j (h1.1 j hj) (fun e=>by have:=h2 j hj;omega)) hb.size,h2,h3⟩
theorem RowA.below {S N:Nat} {w w':World} {v:Value} {l:List X} {la:List XR} (h:RowA S N w v l la) (hb:Below w.heap.size w w'):RowA S N w' v l la:=by
 refine ⟨h.map,jaY h.row hb,h.emp,fun q hq=>?_⟩
 obtain ⟨F,h1,h2,h3⟩:=h.each q hq
 exact ⟨F,h1.below hb,h2,h3⟩
theorem EachF.grown {S N:Nat} {w w3:World} {v v':Value} {la:List XR} (h:EachF S N w v la) (hg:w.grownBy w3 v.ownBlock) (hat:v'.ownBlock=v.ownBlock∨v'.ownBlock=some w.heap.size):EachF S N w3 v' la:=by
 intro q hq
 obtain ⟨F,h1,h2,h3⟩:=h q hq
 refine ⟨F,h1.keep (fun j hj=>hg.block j (h1.1 j hj) (fun e=>h3 j e.symm hj)) hg.size,h2,fun g hg' hF=>?_⟩
 rcases hat with e|e
 ·exact h3 g (e.symm.trans hg') hF
 ·rw [e] at hg'
  injection hg' with hg'
  have:=h1.1 g hF
  omega
theorem RowA.app {S N:Nat} {w w3:World} {v v':Value} {l l1:List X} {la l2:List XR} (h:RowA S N w v l la) (h1:EachF S N w v l2) (hm:l2.map (·.1)=l1) (hne:l1≠[]) (hown:w3.ownsRow N 27 6 v' (l.length+l1.length) (jau la++jau l2)) (hg:w.grownBy w3 v.ownBlock) (hat:v'.ownBlock=v.ownBlock∨v'.ownBlock=some w.heap.size):RowA S N w3 v' (l++l1) (la++l2):=by
 refine ⟨by rw [List.map_append,h.map,hm],by rw [lla,jdb];exact hown,fun e=>?_,?_⟩
 ·rw [List.append_eq_nil_iff] at e
  exact absurd e.2 hne
 ·intro q hq
  rcases lma.1 hq with hq|hq
  ·exact h.each.grown hg hat q hq
  ·exact h1.grown hg hat q hq
theorem EachF.one {S N N1:Nat} {w:World} {v su u:Value} {x:X} {F:Nat→Prop} (hf:Foot F w x su u) (hF:∀ j,F j→j<S∨N1≤j) (hN:N≤N1) (hS:S≤N) (hv:∀ g,v.ownBlock=some g→N≤g∧g<N1):EachF S N w v [(x,su,u)]:=by
 intro q hq
 simp only [List.mem_singleton] at hq
 subst hq
 refine ⟨F,hf,fun j hj=>?_,fun g hg hFg=>?_⟩
 ·have:=hF j hj;omega
 ·have:=hF g hFg
  have:=hv g hg
  omega
theorem EachF.late {S N N1:Nat} {w:World} {v v1:Value} {l2:List XR} (h:EachF S N1 w v1 l2) (hN:N≤N1) (hS:S≤N) (hv:∀ g,v.ownBlock=some g→N≤g∧g<N1):EachF S N w v l2:=by
 intro q hq
 obtain ⟨F,h1,h2,h3⟩:=h q hq
 refine ⟨F,h1,fun j hj=>?_,fun g hg hFg=>?_⟩
 ·have:=h2 j hj;omega
 ·have:=h2 g hFg
  have:=hv g hg
  omega
theorem RowA.list {S N:Nat} {w wz:World} {v:Value} {l:List X} {la:List XR} (h:RowA S N w v l la) {op a:Int} {su:Value} (hsu:SetB 0 wz su []) :
  ∃ F:Nat→Prop,Foot F w (.mk op a 0 ⟨#[]⟩ [] l.length (fun i=>l.getD i .no)) su v∧∀ j,F j→j<S∨N≤j:=by
 refine ⟨fun j=>v.ownBlock=some j∨∃ q∈la,∃ F:Nat→Prop,Foot F w q.1 q.2.1 q.2.2∧(∀ j,F j→j<S∨N≤j)∧F j,⟨?_,?_⟩,?_⟩
 ·rintro j (hj|⟨q,_,F,h1,_,hF⟩)
  ·exact (h.lt hj).2
  ·exact h1.1 j hF
 ·intro W' hW
  have hrow:W'.ownsRow N 27 6 v l.length (jau la):=by
   refine ⟨h.row.1,?_⟩
   rcases h.row.2 with hn|⟨g,cap,cur,rfl,hbg,hgg,rest⟩
   ·exact .inl hn
   ·exact .inr ⟨g,cap,cur,rfl,hbg,(hW g (.inl rfl)).trans hgg,rest⟩
  have hset:SetB 0 W' su []:=by
   rcases hsu with h1|⟨b,off,cap,h1,h2,h3,_⟩
   ·exact .inl h1
   ·exact .inr ⟨b,off,cap,h1,h2,h3,fun j hj=>by simp at hj⟩
  refine X.InB.mk' (nzl _) (by omega) (nzl _) hset (XsB.of_own hrow h.len (nzl _) (fun i q hq=>?_) (fun q hq=>?_))
  ·have hl:=h.map
   rw [←hl]
   simp [List.getD_eq_getElem?_getD,hq]
  ·obtain ⟨F,h1,h2,_⟩:=h.each q hq
   exact h1.2 W' (fun j hj=>hW j (.inr ⟨q,hq,F,h1,h2,hj⟩))
 ·rintro j (hj|⟨q,_,F,_,h2,hF⟩)
  ·exact .inr (h.lt hj).1
  ·exact h2 j hF
theorem RowA.mono {S N N':Nat} {w:World} {v:Value} {l:List X} {la:List XR} (h:RowA S N w v l la) (hN:N'≤N):RowA S N' w v l la:=by
 refine ⟨h.map,⟨h.row.1,?_⟩,h.emp,fun q hq=>?_⟩
 ·rcases h.row.2 with hn|⟨g,cap,cur,e,hbg,rest⟩
  ·exact .inl hn
  ·exact .inr ⟨g,cap,cur,e,Nat.le_trans hN hbg,rest⟩
 ·obtain ⟨F,h1,h2,h3⟩:=h.each q hq
  exact ⟨F,h1,fun j hj=>by have:=h2 j hj;omega,h3⟩
theorem RowA.shape {S N:Nat} {w:World} {v:Value} {l:List X} {la:List XR} (h:RowA S N w v l la):∃ p c,v=.slice p l.length c∧(p=.none→l=[]∧c=0):=by
 rcases h.row.2 with ⟨h1,h2⟩|⟨g,cap,cur,e,_⟩
 ·have hl:l=[]:=List.eq_nil_of_length_eq_zero (by omega)
  subst hl
  exact ⟨.none,0,h.emp rfl,fun _=>⟨rfl,rfl⟩⟩
 ·exact ⟨_,cap,e,fun h=>by cases h⟩
theorem jbg {P:Program} (w:World) {ops:Array Oper} {rest:List Oper} {o:Oper} {a:Act} {Q:Exit→Act→World→Prop} (hgd:o.guard=.none) (s x:Operand) (t:TypeId)
  (ho:o.op=.call {callee:=.builtin .append,args:=#[s,x],argTypes:=#[t,t]})
  (base:Nat) (e:TypeId) (i:TypeInfo) (z:Value) (size bytes:Nat) (ht:P.underlying t=some (.slice e)) (hi:P.info? e=some i) (hz:i.zero=some z)
  (hsize:i.size=size) (hby:i.bytes=bytes) (hzs:z.cells.size=size) (hsz:0<size)
  (v:Value) (n:Nat) (xs:List Value) (hs:a.eval s=v) (hown:w.ownsRow base e size v n xs)
  (ad:Addr) (m c:Nat) (news:List Value) (hx:a.eval x=.slice (some ad) m c) (hl:news.length=m*size) (hnews:∀ j u,news[j]? = some u→w.cell? (ad.add j)=some u) (h1:∀ u∈news,u.oneCell'=true)
  (h63:n+m≤maxLen) (hbytes:(n+m)*bytes≤140737488355328) (hbase:base≤w.heap.size) (hm:0<m)
  (h:∀ v' w',Hid (w'.ownsRow base e size v' (n+m) (xs++news))→Hid (w.grownBy w' v.ownBlock)→Hid (v'.ownBlock=v.ownBlock∨v'.ownBlock=some w.heap.size)→wpList P ops Q rest (a.put o.dst v') w'):wpList P ops Q (o::rest) a w:=by
 obtain ⟨v',w',hr,h2,h3,_⟩:=run_append_own (P:=P) w base t o.type e i z size bytes ht hi hz hsize hby hzs hsz v n xs hown ad m c news hl hnews h1 h63 hbytes hbase
 have r4:=jcU (P:=P) w base t o.type e i z size bytes ht hi hz hsize hby v n xs hown ad m c news hl hnews h1 h63 hbytes hm v' w' hr
 refine wpList_plain hgd fun K hK=>?_
 unfold Oper.wp execOp
 simp only [ho,resolve,invoke,builtin,Sem.run_bind,Sem.run_pure,Result.andThen_ok,List.map_toArray,List.map_cons,List.map_nil,hs,hx,hr]
 exact hK _ _ (h v' w' h2 h3 r4)
theorem RowA.one {S N:Nat} {w:World} {v:Value} {l:List X} {la:List XR} (h:RowA S N w v l la):∀ y∈jau la,y.oneCell'=true:=by
 intro y hy
 obtain ⟨q,hq,hy⟩:=List.mem_flatMap.1 hy
 obtain ⟨F,h1,_,_⟩:=h.each q hq
 obtain ⟨p1,c1,e1⟩:=h1.now.sets.shape
 obtain ⟨p2,c2,e2⟩:=h1.now.xs.shape
 simp only [jbP,List.mem_cons,List.not_mem_nil,or_false] at hy
 rcases hy with rfl|rfl|rfl|rfl|rfl|rfl
 ·rfl
 ·rfl
 ·rfl
 ·rfl
 ·rw [e1];rfl
 ·rw [e2];rfl
def jcc (t:X) (L:List G):Option FX:=if jaq L (jam t) (-1)<0 then none else jaV (fun k=>jaX t (jaA L k (jam t)++L)) (jaq L (jam t) (-1)).toNat
theorem jke {t:X} (hp:PlainX t) (hd:jan t=true):jam t=[]:=by
 cases t with
 | no=>exact hp.elim
 | mk op a n s set len kid =>
  have hd':((op==2)&&(s.toList==jb3))=true:=hd
  rw [Bool.and_eq_true] at hd'
  have h2:op=2:=by simpa using hd'.1
  have hl:len=0:=by
   rcases hp.1 with ⟨_,h⟩|⟨h,_⟩
   ·exact h
   ·omega
  subst hl
  have hn:jbl op s=false:=by
   unfold jbl
   simp [hd'.2]
  unfold jam
  rw [jc4,hn]
  rfl
theorem jkW {t:X} (hp:PlainX t) (hd:jan t=true) (L:List G):jcc t L=none:=by
 unfold jcc
 rw [jke hp hd]
 exact if_pos (by show (-1:Int)<0;omega)
theorem jmC {t:X} (hd:jan t=false) (L:List G):jcc t L=if jaq L (jam t) (-1)<0 then none else jaV (fun k=>jaI t (jaA L k (jam t)++L)) (jaq L (jam t) (-1)).toNat:=by
 have e:(fun k=>jaX t (jaA L k (jam t)++L))=fun k=>jaI t (jaA L k (jam t)++L):=funext fun k=>jb0 hd
 unfold jcc
 rw [e]
theorem jmP {t:X} {L:List G} {i:Nat} (hp:PlainX t) (hn:i+1<t.len) (hd2:jan (t.kid (i+1))=true):remF t L i=(jcc (t.kid i) L).bind fun a=>(remF t L (i+2)).map fun b=>a.join b:=by
 cases hd:jan (t.kid i) with
 | true=>rw [jc9 (by omega) hd,jkW (hp.kid (by omega)) hd];rfl
 | false=>rw [jdo hd hn hd2,jmC hd];rfl
theorem jpg {t:X} {L:List G} {i:Nat} (h:i<t.len) (hn:¬ (i+1<t.len∧jan (t.kid (i+1))=true)):remF t L i=(jaX (t.kid i) L).bind fun a=>(remF t L (i+1)).map fun b=>a.join b:=by
 cases hd:jan (t.kid i) with
 | true =>
  rw [jc9 h hd]
  have:jaX (t.kid i) L=none:=if_pos hd
  rw [this];rfl
 | false=>rw [je4 h hd hn,jb0 hd]
theorem jfn {t:X} {L:List G} (h3:t.op=3):jaX t L=(remF t L 0).map fun ks=>([.mk t.op t.at_ 0 ⟨#[]⟩ [] ks.1.length (fun i=>ks.1.getD i .no)],ks.2.1+1,ks.2.2):=by
 rw [jkh h3];rfl
theorem jlw {f:Nat→Option FX} {n k:Nat} (hk:k≤n) {r:FX} (h:jaV f n=some r):∃ a,jaV f k=some a∧a.2.1≤r.2.1:=by
 induction n generalizing r with
 | zero =>
  have:k=0:=by omega
  subst this
  exact ⟨r,h,nlr _⟩
 | succ n ih =>
  by_cases e:k=n+1
  ·subst e;exact ⟨r,h,nlr _⟩
  ·obtain ⟨a,ha,hb⟩:=bind_some h
   obtain ⟨b,_,hr⟩:=jar hb
   obtain ⟨a',h1,h2⟩:=ih (by omega) ha
   refine ⟨a',h1,?_⟩
   rw [←hr]
   exact Nat.le_trans h2 (Nat.le_add_right _ _)
theorem jlv {f:Nat→Option FX} {n k c:Nat} {acc:FX} (hk:k<n) (ha:jaV f k=some acc) (hf:∀ r,f k=some r→4000<c+acc.2.1+r.2.1):∀ r,jaV f n=some r→4000<c+r.2.1:=by
 intro r hr
 obtain ⟨a,h1,h2⟩:=jlw (k:=k+1) (by omega) hr
 obtain ⟨a0,h3,h4⟩:=bind_some h1
 rw [ha] at h3
 injection h3 with h3
 subst h3
 obtain ⟨b,h5,h6⟩:=jar h4
 have h7:=hf b h5
 have h8:a.2.1=acc.2.1+b.2.1:=by rw [←h6];rfl
 omega
theorem jlx {f:Nat→Option FX} {k:Nat} {acc r:FX} (ha:jaV f k=some acc) (hr:f k=some r):jaV f (k+1)=some (acc.join r):=by
 show (jaV f k).bind _=_
 rw [ha]
 show (f k).map _=_
 rw [hr];rfl
theorem jad {p:Prop} (h:p):Hid p:=h
theorem jf1 (vs:Array Value) (w:World):(callFunc 103 vs).run Tryz.prog w=.ok (.enter 103 vs) w:=by kernel_rfl
theorem jbp (vs:Array Value) (w:World):(callFunc 63 vs).run Tryz.prog w=.ok (.enter 63 vs) w:=by kernel_rfl
theorem jbJ {P:Program} {ops:Array Oper} {o:Oper} {a:Act} {w:World} {K:Act→World→Prop} {Q:Exit→Act→World→Prop} {E:Prop} (hgd:o.guard=none) (f:FuncId) (g x y:Operand) (t u:TypeId) (c1 c2:Value)
  (ho:o.op=.call {callee:=.value g,args:=#[x,y],argTypes:=#[t,u]}) (hg:a.eval g=.func (.func f) #[] #[c1,c2]) (hcf:∀ (vs:Array Value) (w:World),(callFunc f vs).run P w=.ok (.enter f vs) w) (vx vy:Value) (hx:a.eval x=vx) (hy:a.eval y=vy) (R:Ending→World→Prop) (hc:Calls P f #[vx,vy,c1,c2] w R)
  (h:∀ e w',R e w'→∃ v,e=.returned v∧K (a.put o.dst v) w'):if Region.wanted o (yielded ops a.tmps)=true then Oper.wp P o a w K Q else E:=by
 have hw:Region.wanted o (yielded ops a.tmps)=true:=by simp [Region.wanted,hgd]
 rw [if_pos hw]
 have hrun:(execOp a.eval o).run P w=.ok (.enter f #[vx,vy,c1,c2]) w:=by
  have e:(execOp a.eval o).run P w=(callFunc f (#[]++#[x,y].map a.eval++#[c1,c2])).run P w:=by
   obtain ⟨dst,op,ty,pos,after,guard⟩:=o
   simp only at ho
   subst ho
   unfold execOp
   simp only [resolve,hg]
   rfl
  rw [e,hcf]
  simp [hx,hy]
 unfold Oper.wp
 rw [hrun,Oper.upon_enter]
 refine hc.mono fun e w' hr=>?_
 obtain ⟨v,rfl,hk⟩:=h e w' hr
 exact hk
def jgf (S K:Nat) (a:Addr) (o:Option FX) (c:Nat) (W w':World) (e:Ending):Prop :=
 But (fun j=>j=K) W w'∧((∃ r v la,o=some r∧r.1.length≤r.2.1∧CountAt K w' (c+r.2.1)∧c+r.2.1≤4000∧e=.returned (.tuple #[v,.nilIface])∧RowA S W.heap.size w' v r.1 la) ∨
  ((∀ r,o=some r→4000<c+r.2.1)∧e=.returned (.tuple #[.slice none 0 0,errV a])))
def SixO (w:World) (g:Nat) (t:X) (su u:Value):Prop:=w.heap[g]? = some (.cells #[.int .i64 t.op,.int .i64 t.at_,.int .i64 t.n,.string t.s,su,u] 27 (0,0))
theorem SixO.cells {w:World} {g:Nat} {t:X} {su u:Value} (h:SixO w g t su u):w.cell? ⟨g,0,none⟩=some (.int .i64 t.op)∧w.cell? ⟨g,1,none⟩=some (.int .i64 t.at_)∧w.cell? ⟨g,2,none⟩=some (.int .i64 t.n)∧w.cell? ⟨g,3,none⟩=some (.string t.s)∧w.cell? ⟨g,4,none⟩=some su∧w.cell? ⟨g,5,none⟩=some u :=
 ⟨crw w g 0 _ _ _ h,crw w g 1 _ _ _ h,crw w g 2 _ _ _ h,crw w g 3 _ _ _ h,crw w g 4 _ _ _ h,crw w g 5 _ _ _ h⟩
theorem jfo {t:X} {L:List G} {r:FX} (h:jaX t L=some r):1≤r.2.1∧r.1.length=1:=by
 unfold jaX at h
 split at h
 ·cases h
 refine ⟨?_,(jiu t L r h).2⟩
 cases t with
 | no=>cases h
 | mk op a n s set len kid =>
  simp only [jaI] at h
  split at h
  ·split at h
   ·split at h
    ·cases h
    ·injection h with h;rw [←h];exact nlr 1
   ·split at h
    ·injection h with h;rw [←h];exact nlr 1
    ·cases h
  ·split at h
   ·injection h with h;rw [←h];exact nlr 1
   ·obtain ⟨ks,_,e⟩:=jar h
    rw [←e]
    exact Nat.le_add_left _ _
theorem But.sixO {Y:Nat→Prop} {a b:World} (h:But Y a b) {G:Nat} (hG:a.heap.size≤G) (x0 x1 x2 x3 x4 x5:Value):But Y a ((((((b.setCell ⟨G,0,none⟩ x0).setCell ⟨G,1,none⟩ x1).setCell ⟨G,2,none⟩ x2).setCell ⟨G,3,none⟩ x3).setCell ⟨G,4,none⟩ x4).setCell ⟨G,5,none⟩ x5) :=
 (((((h.setCell (.inl (by exact hG)) _).setCell (.inl (by exact hG)) _).setCell (.inl (by exact hG)) _).setCell (.inl (by exact hG)) _).setCell (.inl (by exact hG)) _).setCell (.inl (by exact hG)) _
def jgJ (S K:Nat) (a:Addr) (o:Option FX) (c:Nat) (wr:World) (z ev:Value) (wx:World):Prop :=
 ∃ (G:Nat) (x:X) (p q:Option Addr) (n1 n2 n3 n4:Nat),z=.pointer (some ⟨G,0,none⟩)∧But (fun j=>j=K) wr wx∧SixO wx G x (.slice p n1 n2) (.slice q n3 n4) ∧
  ((∃ r F,o=some r∧r.1=[x]∧CountAt K wx (c+r.2.1)∧c+r.2.1≤4000∧ev=.nilIface∧Foot F wx x (.slice p n1 n2) (.slice q n3 n4)∧∀ j,F j→j<S∨wr.heap.size≤j)∨((∀ r,o=some r→4000<c+r.2.1)∧ev=errV a))
theorem jbI {S K:Nat} {a:Addr} {o:Option FX} {c:Nat} {W w':World} {e:Ending} (h:jeI S K a o c W w' e) :
  ∃ (x:X) (p q:Option Addr) (n1 n2 n3 n4:Nat) (ev:Value),e=.returned (.tuple #[aggX x (.slice p n1 n2) (.slice q n3 n4),ev])∧But (fun j=>j=K) W w' ∧
   ((∃ r F,o=some r∧r.1=[x]∧CountAt K w' (c+r.2.1)∧c+r.2.1≤4000∧ev=.nilIface∧Foot F w' x (.slice p n1 n2) (.slice q n3 n4)∧∀ j,F j→j<S∨W.heap.size≤j)∨((∀ r,o=some r→4000<c+r.2.1)∧ev=errV a)):=by
 obtain ⟨hb,h⟩:=h
 rcases h with ⟨r,x,su,u,F,h1,h2,h3,h4,h5,h6,h7⟩|⟨h1,y,p,q,n1,n2,n3,n4,h2⟩
 ·obtain ⟨p,c1,e1⟩:=h6.now.sets.shape
  obtain ⟨q,c2,e2⟩:=h6.now.xs.shape
  subst e1 e2
  exact ⟨x,p,q,_,_,_,_,_,h5,hb,.inl ⟨r,F,h1,h2,h3,h4,rfl,h6,h7⟩⟩
 ·exact ⟨y,p,q,n1,n2,n3,n4,_,h2,hb,.inr ⟨h1,rfl⟩⟩
theorem je0 {S K G c:Nat} {a:Addr} {o:Option FX} {wr wc w3:World} {x:X} {p q:Option Addr} {n1 n2 n3 n4:Nat} {ev y0 y1 y2 y3 y4 y5:Value} (hwc:But (fun j=>j=K) wr wc) (hb3:But (fun j=>j=K) wc w3) (hS:S≤wr.heap.size) (hK:K<wr.heap.size) (hG:wr.heap.size≤G) (hGc:G<wc.heap.size)
  (hz:w3.heap[G]? = some (.cells #[y0,y1,y2,y3,y4,y5] 27 (0,0)))
  (hcase:(∃ r F,o=some r∧r.1=[x]∧CountAt K w3 (c+r.2.1)∧c+r.2.1≤4000∧ev=.nilIface∧Foot F w3 x (.slice p n1 n2) (.slice q n3 n4)∧∀ j,F j→j<S∨wc.heap.size≤j)∨((∀ r,o=some r→4000<c+r.2.1)∧ev=errV a)) :
  jgJ S K a o c wr (.pointer (some ⟨G,0,none⟩)) ev ((((((w3.setCell ⟨G,0,none⟩ (.int .i64 x.op)).setCell ⟨G,1,none⟩ (.int .i64 x.at_)).setCell ⟨G,2,none⟩ (.int .i64 x.n)).setCell ⟨G,3,none⟩ (.string x.s)).setCell ⟨G,4,none⟩ (.slice p n1 n2)).setCell ⟨G,5,none⟩ (.slice q n3 n4)):=by
 have s0:=heap_setCell_same w3 G 0 _ _ (.int .i64 x.op) hz
 have s1:=heap_setCell_same _ G 1 _ _ (.int .i64 x.at_) s0
 have s2:=heap_setCell_same _ G 2 _ _ (.int .i64 x.n) s1
 have s3:=heap_setCell_same _ G 3 _ _ (.string x.s) s2
 have s4:=heap_setCell_same _ G 4 _ _ (.slice p n1 n2) s3
 have s5:=heap_setCell_same _ G 5 _ _ (.slice q n3 n4) s4
 have hbut:But (fun j=>j=K) wr ((((((w3.setCell ⟨G,0,none⟩ (.int .i64 x.op)).setCell ⟨G,1,none⟩ (.int .i64 x.at_)).setCell ⟨G,2,none⟩ (.int .i64 x.n)).setCell ⟨G,3,none⟩ (.string x.s)).setCell ⟨G,4,none⟩ (.slice p n1 n2)).setCell ⟨G,5,none⟩ (.slice q n3 n4)):=But.sixO (hwc.trans hb3) hG _ _ _ _ _ _
 have hoth:∀ j,j≠G→((((((w3.setCell ⟨G,0,none⟩ (.int .i64 x.op)).setCell ⟨G,1,none⟩ (.int .i64 x.at_)).setCell ⟨G,2,none⟩ (.int .i64 x.n)).setCell ⟨G,3,none⟩ (.string x.s)).setCell ⟨G,4,none⟩ (.slice p n1 n2)).setCell ⟨G,5,none⟩ (.slice q n3 n4)).heap[j]? = w3.heap[j]? := fun j hj=>by
  have e:∀ (V:World) (k:Nat) (y:Value),(V.setCell ⟨G,k,none⟩ y).heap[j]? = V.heap[j]? := fun V k y=>bhs V ⟨G,k,none⟩ y j hj
  rw [e,e,e,e,e,e]
 refine ⟨G,x,p,q,n1,n2,n3,n4,rfl,hbut,s5,?_⟩
 rcases hcase with ⟨r,F,h1,h2,h3,h4,h5,h6,h7⟩|h
 ·refine .inl ⟨r,F,h1,h2,(hoth K (by omega)).trans h3,h4,h5,h6.keep (fun j hj=>hoth j (fun e=>by have:=h7 j hj;omega)) (by simp),fun j hj=>?_⟩
  have:=h7 j hj
  have:=hwc.size
  omega
 ·exact .inr h
theorem jhQ {S K c:Nat} {a:Addr} {o:Option FX} {wr wc w3:World} {x:X} {p q:Option Addr} {n1 n2 n3 n4:Nat} {ev:Value} (hwc:But (fun j=>j=K) wr wc) (hb3:But (fun j=>j=K) wc w3)
  (hcase:(∃ r F,o=some r∧r.1=[x]∧CountAt K w3 (c+r.2.1)∧c+r.2.1≤4000∧ev=.nilIface∧Foot F w3 x (.slice p n1 n2) (.slice q n3 n4)∧∀ j,F j→j<S∨wc.heap.size≤j)∨((∀ r,o=some r→4000<c+r.2.1)∧ev=errV a)) :
  jgJ S K a o c wr (.pointer (some ⟨w3.heap.size,0,none⟩)) ev (w3.alloc (.cells #[.int .i64 x.op,.int .i64 x.at_,.int .i64 x.n,.string x.s,.slice p n1 n2,.slice q n3 n4] 27)):=by
 refine ⟨w3.heap.size,x,p,q,n1,n2,n3,n4,rfl,(hwc.trans hb3).alloc _,han w3 _,?_⟩
 rcases hcase with ⟨r,F,h1,h2,h3,h4,h5,h6,h7⟩|h
 ·refine .inl ⟨r,F,h1,h2,(bha w3 _ K (aes.1 h3).1).trans h3,h4,h5,h6.below (newx w3 _),fun j hj=>?_⟩
  have:=h7 j hj
  have:=hwc.size
  omega
 ·exact .inr h
theorem jmB {w0:World} {L:List G} {Am:ByteArray→Option Value} {n:Nat} {ns:List ByteArray} (h:SevOk w0 L Am n ns) (hn:jb5 (jbk L ns)=some n):n≤9223372036854775807:=by
 obtain ⟨h1,h2⟩:=sameN_some.1 hn
 obtain ⟨x,l,hl⟩:=List.exists_cons_of_ne_nil h1
 have hx:x∈jbk L ns:=by rw [hl];simp
 obtain ⟨nm,hnm,g,hg,hd,hxl⟩:=mem_lensF.1 hx
 obtain ⟨v,hv⟩:=h.2 nm hnm g hg hd
 obtain ⟨_,g1,g2,a,b,c,hg1,_,hlk,_,hat,hlen⟩:=h.1 nm v hv
 obtain ⟨_,_,q,cq,_,_,h4,h5,_⟩:=hat.parts
 have:=hlk.2.2.1
 unfold maxLen at h5
 omega
structure OftK (K B:Nat) (w0 W:World) (a:Addr) (c:Nat) (t:X) (su u:Value) (L:List G) (Ms:Nat) (Am:ByteArray→Option Value) (k:Nat) (acc:FX) (lv:Value) (la:List XR) (wr:World):Prop where
 tf:jaV (fun k=>jaX t (jaA L k (jam t)++L)) k=some acc
 le:acc.1.length≤acc.2.1
 fil:FillerAt K B w0 wr a (c+acc.2.1)
 but:But (fun j=>j=K) W wr
 box:SixO wr W.heap.size t su u
 map:SMap wr Ms Am
 row:RowA w0.heap.size (W.heap.size+1) wr lv acc.1 la
theorem OftK.next {K B:Nat} {w0 W:World} {a:Addr} {c:Nat} {t:X} {su u:Value} {L:List G} {Ms:Nat} {Am:ByteArray→Option Value} {k:Nat} {acc r:FX} {lv lv' sx ux:Value} {la:List XR} {wr wc w5:World} {x:X} {F:Nat→Prop} {ob:Obj}
  (h:OftK K B w0 W a c t su u L Ms Am k acc lv la wr) (hF:FillerAt K B w0 W a c) (hMs:Ms≠K) (hb:But (fun j=>j=K) wr wc) (h1:jaX t (jaA L k (jam t)++L)=some r) (h2:r.1=[x]) (h3:CountAt K wc (c+acc.2.1+r.2.1)) (h4:c+acc.2.1+r.2.1≤4000) (h5:Foot F wc x sx ux) (h6:∀ j,F j→j<w0.heap.size∨wr.heap.size≤j)
  (hown:w5.ownsRow (W.heap.size+1) 27 6 lv' (acc.1.length+1) (jau la++jau [(x,sx,ux)])) (hg:(wc.alloc ob).grownBy w5 lv.ownBlock) (hat0:lv'.ownBlock=lv.ownBlock∨lv'.ownBlock=some (wc.heap.size+1)) :
  ∃ p n1 c1,lv'=.slice p n1 c1∧OftK K B w0 W a c t su u L Ms Am (k+1) (acc.join r) lv' (la++[(x,sx,ux)]) w5:=by
 have hat:lv'.ownBlock=lv.ownBlock∨lv'.ownBlock=some (wc.alloc ob).heap.size:=by rw [World.size_alloc];exact hat0
 have hKW:K<W.heap.size:=(aes.1 hF.cnt).1
 have hS:=hF.ne.2.1
 have hSW:=hF.bel.size
 have hrow:=h.row.but hb ⟨hS,by omega⟩
 have hrow2:=hrow.below (newx wc ob)
 have hWr:W.heap.size+1≤wr.heap.size:=(aes.1 h.box).1
 have hone:EachF w0.heap.size (W.heap.size+1) (wc.alloc ob) lv [(x,sx,ux)]:=EachF.one (h5.below (newx wc ob)) h6 hWr (by omega) (fun g hg=>h.row.lt hg)
 have hnew:RowA w0.heap.size (W.heap.size+1) w5 lv' (acc.1++[x]) (la++[(x,sx,ux)]):=RowA.app hrow2 hone rfl (by simp) (by simpa using hown) hg hat
 have hgr:∀ g,lv.ownBlock=some g→W.heap.size+1≤g:=fun g hg=>(h.row.lt hg).1
 have hbut:But (fun j=>j=K) W w5:=((h.but.trans hb).alloc ob).grown hg (fun g hg'=>.inl (by have:=hgr g hg';omega))
 have hkeep:∀ j o,wc.heap[j]? = some o→(∀ g,lv.ownBlock=some g→j≠g)→w5.heap[j]? = some o:=fun j o hj hne=>by
  have hjl:=(aes.1 hj).1
  exact (hg.block j (by simp;omega) (fun e=>hne j e.symm rfl)).trans ((bha wc ob j hjl).trans hj)
 obtain ⟨p,c1,e,_⟩:=hnew.shape
 have hpos:=jfo h1
 refine ⟨p,_,c1,e,jlx h.tf h1,?_,?_,hbut,?_,?_,?_⟩
 ·have hle:=h.le
  simp only [FX.join,h2,List.length_append,List.length_singleton]
  omega
 ·have hc2:CountAt K w5 (c+(acc.join r).2.1):=by
   show CountAt K w5 (c+(acc.2.1+r.2.1))
   rw [←Nat.add_assoc]
   exact hkeep K _ h3 (fun g hg=>by have:=hgr g hg;omega)
  refine hF.but hbut hc2 ?_
  show c+(acc.2.1+r.2.1)≤4000
  omega
 ·exact hkeep _ _ (hb.at h.box (fun e=>by have e2:W.heap.size=K:=e;omega)) (fun g hg=>by have:=hgr g hg;omega)
 ·have hm1:SMap wc Ms Am:=h.map.same (hb.block Ms h.map.lt (fun e=>hMs e))
  have hm2:=hm1.below (newx wc ob)
  refine hm2.same (hg.block Ms hm2.lt (fun e=>?_))
  rcases hrow2.row.2 with ⟨hv,_⟩|⟨g,cap,cur,hv,_,hgg,_⟩
  ·rw [hv] at e;cases e
  ·rw [hv] at e
   have e2:Ms=g:=Option.some.inj e
   exact hm2.noRow hgg e2.symm
 ·show RowA _ _ _ _ (acc.1++r.1) _
  rw [h2];exact hnew
theorem jhz {K B:Nat} {w0 W:World} {a:Addr} {c:Nat} {f:Value} {L:List G} (t:X) (su u:Value) (hp:PlainX t) (hfi:jih K B w0 a t) (hF:FillerAt K B w0 W a c) (hf:Finds K w0 W f L) (hL:FullL L) (ht:t.At 0 w0 su u) (hc:t.count≤2097152) :
  Calls Tryz.prog 90 #[aggX t su u,f,jcX K B] W fun e w'=>jgf w0.heap.size K a (jcc t L) c W w' e:=by
 obtain ⟨pu,cu,e1⟩:=ht.xs.shape
 obtain ⟨ps,cs,e2⟩:=ht.sets.shape
 subst e1 e2
 have HP:Hid (PlainX t∧jih K B w0 a t∧FullL L∧t.At 0 w0 (.slice ps t.set.length cs) (.slice pu t.len cu)∧Finds K w0 W f L):=⟨hp,hfi,hL,ht,hf⟩
 have HF:Hid (FillerAt K B w0 W a c):=hF
 have hKW:K<W.heap.size:=(aes.1 hF.cnt).1
 obtain ⟨N,hN⟩:∃ N,N=W.heap.size:=⟨_,rfl⟩
 obtain ⟨W1,hW1⟩:∃ W1,W1=W.alloc (.cells #[.int .i64 t.op,.int .i64 t.at_,.int .i64 t.n,.string t.s,.slice ps t.set.length cs,.slice pu t.len cu] 27):=⟨_,rfl⟩
 have nb1:Below W.heap.size W W1:=by rw [hW1];exact newx W _
 have hbx:SixO W1 N t (.slice ps t.set.length cs) (.slice pu t.len cu):=by rw [hW1,hN];exact han W _
 obtain ⟨q0,q1,q2,q3,q4,q5⟩:=hbx.cells
 have HW1:Hid (Below W.heap.size W W1∧SixO W1 N t (.slice ps t.set.length cs) (.slice pu t.len cu)∧N=W.heap.size∧W1.heap.size=W.heap.size+1):=⟨nb1,hbx,hN,by rw [hW1];simp⟩
 have HWW:Hid (W1=W.alloc (.cells #[.int .i64 t.op,.int .i64 t.at_,.int .i64 t.n,.string t.s,.slice ps t.set.length cs,.slice pu t.len cu] 27)∧N=W.heap.size):=⟨hW1,hN⟩
 have HSV:Hid (Calls Tryz.prog 102 #[.agg #[.int .i64 t.op,.int .i64 t.at_,.int .i64 t.n,.string t.s,.slice ps t.set.length cs,.slice pu t.len cu],f] W1 fun e w'=>joG w0 W1 w' L a (nmsD (jab t 0)) e∧Below W1.heap.size W1 w'):=jla t _ _ (hf.but (But.of_all nb1)) ht (hF.bel.trans (nb1.mono hF.bel.size)) (hF.errW.below nb1) hc
 clear hp hfi hF hf hL ht hc hN hW1 nb1 hbx
 go_enter Tryz.func90,Tryz.ntmps90
 go_upto_region 1 with fail
 rw [←HWW.out.1,←HWW.out.2]
 go_wp2_with fail
 refine HSV.out.mono ?_
 rintro e w2 ⟨hret,hb2⟩
 have HB2:=jad hb2
 clear hb2
 rcases hret with ⟨n,Ms,Am,hn,rfl,hm,hok,hMs⟩|⟨hn,rfl⟩
 case inr =>
  have HO:Hid (jcc t L=none):=by
   show _=_
   unfold jcc
   exact if_pos (jlm HP.out.1.leaf hn)
  have HB:Hid (But (fun j=>j=K) W w2):=(But.of_all HW1.out.1).trans (But.of_all HB2.out)
  clear hn
  unfold errV
  go_wp2_with fail
  refine bpr (results_tmp2 rfl _ _ _) rfl ?_
  exact ⟨HB.out,.inr ⟨fun r hr=>(by rw [HO.out] at hr;cases hr),rfl⟩⟩
 case inl =>
 have hnf:n≤9223372036854775807:=jmB hok hn
 have HTM:Hid (jaq L (jam t) (-1)=(n:Int)):=jln HP.out.1.leaf hn
 have HOK:Hid (SevOk w0 L Am n (nmsD (jab t 0))∧Ms≠K):=⟨hok,by have:=HW1.out.2.2.2;omega⟩
 have HO:Hid (jcc t L=jaV (fun k=>jaX t (jaA L k (jam t)++L)) n):=by
  show _=_
  unfold jcc
  rw [HTM.out,if_neg (by omega),Int.toNat_natCast]
 have HS0:Hid (OftK K B w0 W a c t (.slice ps t.set.length cs) (.slice pu t.len cu) L Ms Am 0 ([],0,0) (.slice none 0 0) [] w2):=by
  have hb:But (fun j=>j=K) W w2:=(But.of_all HW1.out.1).trans (But.of_all HB2.out)
  exact ⟨rfl,nlr _,HF.out.but hb ((HF.out.cnt.below HW1.out.1).below HB2.out) HF.out.few,hb,by rw [←HW1.out.2.2.1];exact (HB2.out.block _ (aes.1 HW1.out.2.1).1).trans HW1.out.2.1,hm,RowA.nil _ _ _⟩
 clear hn hm hok hMs q0 q1 q2 q3 q4 q5 HTM HB2
 go_wp2_with fail
 go_loopw [26,11] (fun i lv wr=>∃ (k:Nat) (acc:FX) (la:List XR) (p8:Option Addr) (n8 c8:Nat),i=.int .i64 k∧k≤n∧lv=.slice p8 n8 c8∧OftK K B w0 W a c t (.slice ps t.set.length cs) (.slice pu t.len cu) L Ms Am k acc lv la wr) (fun i _ _=>n-(intOf i).toNat)
 case atStart=>exact ⟨0,_,_,_,_,_,rfl,nzl _,rfl,HS0.out⟩
 case round =>
  obtain ⟨k,acc,la,p8,n8,c8,rfl,hk,rfl,hst⟩:=hrel
  have HST:=jad hst
  clear hst HS0
  by_cases hlt:(k:Int)<n
  ·have hlt':k<n:=by omega
   have HXB:Hid (∀ wq,But (fun j=>j=K) wr wq→SixO wq N t (.slice ps t.set.length cs) (.slice pu t.len cu)):=fun wq hq=>hq.at (by rw [HW1.out.2.2.1];exact HST.out.box) (fun e=>by have:=HW1.out.2.2.1;omega)
   have HTU:Hid (∀ wq,But (fun j=>j=K) wr wq→Calls Tryz.prog 103 #[.map (some Ms),.int .i64 k,f] wq fun e w'=>e=.returned (.func (.func 111) #[] #[.pointer (some ⟨wq.heap.size,0,none⟩),.pointer (some ⟨wq.heap.size+1,0,none⟩),.pointer (some ⟨wq.heap.size+2,0,none⟩)])∧Below wq.heap.size wq w'∧Finds K w0 w' (.func (.func 111) #[] #[.pointer (some ⟨wq.heap.size,0,none⟩),.pointer (some ⟨wq.heap.size+1,0,none⟩),.pointer (some ⟨wq.heap.size+2,0,none⟩)]) (jaA L k (jam t)++L)):=fun wq hq=>by
    refine (jo5 Ms k f HP.out.2.2.2.2.1 wq).mono ?_
    rintro e w' ⟨rfl,hw'⟩
    have hb1:Below wq.heap.size wq w':=by rw [hw'];exact (newx wq _).trans (((newx _ _).mono (by simp)).trans ((newx _ _).mono (by simp;omega)))
    have hsz:W.heap.size≤wq.heap.size:=Nat.le_trans HST.out.but.size hq.size
    have hbut:But (fun j=>j=K) W w':=(HST.out.but.trans hq).trans (But.of_all hb1)
    have hMsz:Ms≠K:=HOK.out.2
    refine ⟨rfl,hb1,jlr (jpu HP.out.1.leaf HP.out.2.2.1 HOK.out.1 hlt' ?_ ?_ ?_ ?_ (HP.out.2.2.2.2.but hbut) (HF.out.bel.trans (hbut.below HF.out.bel.size (fun j hj=>by have:=HF.out.ne.2.1;omega))) ⟨by omega,by omega,by omega,fun e=>hMsz e.symm,HF.out.ne.2.1⟩)⟩
    ·rw [hw',bha _ _ _ (by simp;omega),bha _ _ _ (by simp)];exact han wq _
    ·rw [hw',bha _ _ _ (by simp)]
     have:=han (wq.alloc (.cells #[.map (some Ms)] 170)) (.cells #[.int .i64 k] 3)
     simpa using this
    ·rw [hw']
     have:=han ((wq.alloc (.cells #[.map (some Ms)] 170)).alloc (.cells #[.int .i64 k] 3)) (.cells #[f] 78)
     simpa using this
    ·exact (HST.out.map.same (hq.block Ms HST.out.map.lt (fun e=>hMsz e))).below hb1
   have HFI:Hid (∀ wq g,But (fun j=>j=K) wr wq→CountAt K wq (c+acc.2.1)→Finds K w0 wq g (jaA L k (jam t)++L)→Calls Tryz.prog 63 #[.agg #[.int .i64 t.op,.int .i64 t.at_,.int .i64 t.n,.string t.s,.slice ps t.set.length cs,.slice pu t.len cu],g,.pointer (some ⟨K,0,none⟩),.pointer (some ⟨B,0,none⟩)] wq fun e w'=>jeI w0.heap.size K a (jaX t (jaA L k (jam t)++L)) (c+acc.2.1) wq w' e):=fun wq g hq hct hg =>
    HP.out.2.1 _ g wq _ _ _ (HST.out.fil.but hq hct HST.out.fil.few) hg (HP.out.2.2.1.turn _ _) HP.out.2.2.2.1
   have HSZ:Hid (K<wr.heap.size∧w0.heap.size≤wr.heap.size∧CountAt K wr (c+acc.2.1)):=⟨by have:=HST.out.but.size;omega,HST.out.fil.bel.size,HST.out.fil.cnt⟩
   unfold jcX
   go_upto_region 8 with fail
   go_cut [13,14] from 29 to 38 (fun z ev wx=>jgJ w0.heap.size K a (jaX t (jaA L k (jam t)++L)) (c+acc.2.1) wr z ev wx)
   case first =>
    have HS0:But (fun j=>j=K) wr wr.drew:=(But.refl _ _).drew
    refine wp_region_held_drew (S:=fun wq=>But (fun j=>j=K) wr wq) (by kernel_rfl) HS0 (fun _=>?_)
    refine wpAnyH_take (i:=0) (oi:={dst:=some 30,op:=Op.move (Operand.tmp 2),type:=75,pos := "l08_fill.go:82",after:=#[],guard:=none}) (v:=.func (.func 63) #[] #[.pointer (some ⟨K,0,none⟩),.pointer (some ⟨B,0,none⟩)]) rfl (by kernel_rfl) (by kernel_rfl) (by kernel_rfl) (fun _ _ _ h=>h) (Or.inl ⟨by rfl,?_⟩) HS0 ?_
    ·intro wq hSq
     clear hSq
     go_simp
    try simp only [pLq]
    refine wpAnyH_take (i:=1) (oi:={dst:=some 31,op:=Op.load 27 (Operand.tmp 3),type:=27,pos := "l08_fill.go:82",after:=#[],guard:=none}) (v:=.agg #[.int .i64 t.op,.int .i64 t.at_,.int .i64 t.n,.string t.s,.slice ps t.set.length cs,.slice pu t.len cu]) rfl (by kernel_rfl) (by kernel_rfl) (by kernel_rfl) (fun _ _ _ h=>h) (Or.inl ⟨by rfl,?_⟩) HS0 ?_
    ·intro wq hSq
     obtain ⟨f0,f1,f2,f3,f4,f5⟩:=(HXB.out wq hSq).cells
     clear hSq
     go_simp
    try simp only [pLq]
    refine wpAnyH_take (i:=2) (oi:={dst:=some 32,op:=Op.move (Operand.tmp 8),type:=170,pos := "l08_fill.go:82",after:=#[],guard:=none}) (v:=.map (some Ms)) rfl (by kernel_rfl) (by kernel_rfl) (by kernel_rfl) (fun _ _ _ h=>h) (Or.inl ⟨by rfl,?_⟩) HS0 ?_
    ·intro wq hSq
     clear hSq
     go_simp
    try simp only [pLq]
    refine wpAnyH_take (i:=3) (oi:={dst:=some 33,op:=Op.move (Operand.tmp 12),type:=3,pos := "l08_fill.go:82",after:=#[],guard:=none}) (v:=.int .i64 k) rfl (by kernel_rfl) (by kernel_rfl) (by kernel_rfl) (fun _ _ _ h=>h) (Or.inl ⟨by rfl,?_⟩) HS0 ?_
    ·intro wq hSq
     clear hSq
     go_simp
    try simp only [pLq]
    refine wpAnyH_take (i:=4) (oi:={dst:=some 34,op:=Op.move (Operand.tmp 1),type:=78,pos := "l08_fill.go:82",after:=#[],guard:=none}) (v:=f) rfl (by kernel_rfl) (by kernel_rfl) (by kernel_rfl) (fun _ _ _ h=>h) (Or.inl ⟨by rfl,?_⟩) HS0 ?_
    ·intro wq hSq
     clear hSq
     go_simp
    try simp only [pLq]
    refine wpAnyH_ready (rs:=[5,10]) (by kernel_rfl) (by simp) ?_
    refine (AllReadyH.cons (o:={dst:=some 35,op:=Op.call {callee:=Callee.value (Operand.func 103),args:=#[Operand.tmp 32,Operand.tmp 33,Operand.tmp 34],argTypes:=#[170,3,78]},type:=78,pos := "l08_fill.go:82",after:=#[{on:=2,ground:=Ground.data},{on:=3,ground:=Ground.data},{on:=4,ground:=Ground.data}],guard:=none}) rfl (fun KK hK=>?_) (AllReadyH.cons (o:={dst:=some 13,op:=Op.alloc 27,type:=0,pos := "l08_fill.go:82",after:=#[],guard:=none}) rfl (fun KK hK=>?_) AllReadyH.nil))
    ·refine jbt rfl 103 (.tmp 32) (.tmp 33) (.tmp 34) 170 3 78 rfl jf1 (.map (some Ms)) (.int .i64 k) f rfl rfl rfl _ (HTU.out _ (HS0)) ?_
     rintro e w2 ⟨rfl,hb2,hg2⟩
     refine ⟨_,rfl,?_⟩
     have HS1:But (fun j=>j=K) wr w2:=(HS0).trans (But.of_all hb2)
     have HG2:=jad hg2
     have HC2:Hid (CountAt K w2 (c+acc.2.1)):=CountAt.below (show CountAt K wr.drew _ from HSZ.out.2.2) hb2
     clear hg2
     refine hK.out _ _ HS1 (fun _=>?_)
     clear hK KK
     try simp only [pLq]
     refine wpAnyH_ready (rs:=[6,10]) (by kernel_rfl) (by simp) ?_
     refine (AllReadyH.cons (o:={dst:=some 36,op:=Op.call {callee:=Callee.value (Operand.tmp 30),args:=#[Operand.tmp 31,Operand.tmp 35],argTypes:=#[27,78]},type:=45,pos := "l08_fill.go:82",after:=#[{on:=0,ground:=Ground.data},{on:=1,ground:=Ground.data},{on:=5,ground:=Ground.data},{on:=5,ground:=Ground.chain}],guard:=none}) rfl (fun KK hK=>?_) (AllReadyH.cons (o:={dst:=some 13,op:=Op.alloc 27,type:=0,pos := "l08_fill.go:82",after:=#[],guard:=none}) rfl (fun KK hK=>?_) AllReadyH.nil))
     ·refine jbJ rfl 63 (.tmp 30) (.tmp 31) (.tmp 35) 27 78 (.pointer (some ⟨K,0,none⟩)) (.pointer (some ⟨B,0,none⟩)) rfl rfl jbp (.agg #[.int .i64 t.op,.int .i64 t.at_,.int .i64 t.n,.string t.s,.slice ps t.set.length cs,.slice pu t.len cu]) (_) rfl rfl _ (HFI.out _ _ HS1 HC2.out HG2.out) ?_
      rintro e w3 hpart
      obtain ⟨x,p3,q3,n1,n2,n3,n4,ev,rfl,hb3,hcase⟩:=jbI hpart
      refine ⟨_,rfl,?_⟩
      have HS2:But (fun j=>j=K) wr w3:=HS1.trans hb3
      have HC3:=jad hcase
      have HB3:=jad hb3
      clear hcase hb3 hpart
      refine hK.out _ _ HS2 (fun _=>?_)
      clear hK KK
      try simp only [pLq]
      refine wpAnyH_take (i:=7) (oi:={dst:=some 29,op:=Op.move (Operand.tmp 36),type:=45,pos := "l08_fill.go:82",after:=#[{on:=6,ground:=Ground.data}],guard:=none}) (v:=.tuple #[.agg #[.int .i64 x.op,.int .i64 x.at_,.int .i64 x.n,.string x.s,.slice p3 n1 n2,.slice q3 n3 n4],ev]) rfl (by kernel_rfl) (by kernel_rfl) (by kernel_rfl) (fun _ _ _ h=>h) (Or.inl ⟨by rfl,?_⟩) HS2 ?_
      ·intro wq hSq
       clear hSq
       go_simp
      try simp only [pLq]
      refine wpAnyH_take (i:=8) (oi:={dst:=some 37,op:=Op.extract (Operand.tmp 29) 0,type:=27,pos := "l08_fill.go:82",after:=#[{on:=7,ground:=Ground.data}],guard:=none}) (v:=.agg #[.int .i64 x.op,.int .i64 x.at_,.int .i64 x.n,.string x.s,.slice p3 n1 n2,.slice q3 n3 n4]) rfl (by kernel_rfl) (by kernel_rfl) (by kernel_rfl) (fun _ _ _ h=>h) (Or.inl ⟨by rfl,?_⟩) HS2 ?_
      ·intro wq hSq
       clear hSq
       go_simp
      try simp only [pLq]
      refine wpAnyH_take (i:=9) (oi:={dst:=some 38,op:=Op.extract (Operand.tmp 29) 1,type:=44,pos := "l08_fill.go:82",after:=#[{on:=7,ground:=Ground.data},{on:=11,ground:=Ground.gcOnly Departure.lateStores}],guard:=none}) (v:=ev) rfl (by kernel_rfl) (by kernel_rfl) (by kernel_rfl) (fun _ _ _ h=>h) (Or.inl ⟨by rfl,?_⟩) HS2 ?_
      ·intro wq hSq
       clear hSq
       go_simp
      try simp only [pLq]
      refine wpAnyH_ready (rs:=[10]) (by kernel_rfl) (by simp) ?_
      refine (AllReadyH.cons (o:={dst:=some 13,op:=Op.alloc 27,type:=0,pos := "l08_fill.go:82",after:=#[],guard:=none}) rfl (fun KK hK=>?_) AllReadyH.nil)
      go_simp
      refine hK.out _ _ (HS2.alloc _) (fun _=>?_)
      clear hK KK
      try simp only [pLq]
      have hz:(w3.alloc (.cells #[.int .i64 0,.int .i64 0,.int .i64 0,.string ⟨#[]⟩,.slice none 0 0,.slice none 0 0] 27)).heap[w3.heap.size]? = some (.cells #[.int .i64 0,.int .i64 0,.int .i64 0,.string ⟨#[]⟩,.slice none 0 0,.slice none 0 0] 27):=han w3 _
      have y0:=crw (w3.alloc (.cells #[.int .i64 0,.int .i64 0,.int .i64 0,.string ⟨#[]⟩,.slice none 0 0,.slice none 0 0] 27)) _ 0 _ _ _ hz
      have y1:=crw (w3.alloc (.cells #[.int .i64 0,.int .i64 0,.int .i64 0,.string ⟨#[]⟩,.slice none 0 0,.slice none 0 0] 27)) _ 1 _ _ _ hz
      have y2:=crw (w3.alloc (.cells #[.int .i64 0,.int .i64 0,.int .i64 0,.string ⟨#[]⟩,.slice none 0 0,.slice none 0 0] 27)) _ 2 _ _ _ hz
      have y3:=crw (w3.alloc (.cells #[.int .i64 0,.int .i64 0,.int .i64 0,.string ⟨#[]⟩,.slice none 0 0,.slice none 0 0] 27)) _ 3 _ _ _ hz
      have y4:=crw (w3.alloc (.cells #[.int .i64 0,.int .i64 0,.int .i64 0,.string ⟨#[]⟩,.slice none 0 0,.slice none 0 0] 27)) _ 4 _ _ _ hz
      have y5:=crw (w3.alloc (.cells #[.int .i64 0,.int .i64 0,.int .i64 0,.string ⟨#[]⟩,.slice none 0 0,.slice none 0 0] 27)) _ 5 _ _ _ hz
      have yf:∀ j,(w3.alloc (.cells #[.int .i64 0,.int .i64 0,.int .i64 0,.string ⟨#[]⟩,.slice none 0 0,.slice none 0 0] 27)).frozen? ⟨w3.heap.size,j,none⟩=false:=fun j=>fzr (w3.alloc (.cells #[.int .i64 0,.int .i64 0,.int .i64 0,.string ⟨#[]⟩,.slice none 0 0,.slice none 0 0] 27)) _ j _ _ hz
      refine wpAnyH_ready (rs:=[11]) (by kernel_rfl) (by simp) ?_
      refine (AllReadyH.cons (o:={dst:=none,op:=Op.store 27 (Operand.tmp 13) (Operand.tmp 37),type:=0,pos := "l08_fill.go:82",after:=#[{on:=10,ground:=Ground.data},{on:=8,ground:=Ground.data},{on:=6,ground:=Ground.chain},{on:=0,ground:=Ground.phase},{on:=1,ground:=Ground.phase},{on:=2,ground:=Ground.phase},{on:=3,ground:=Ground.phase},{on:=4,ground:=Ground.phase},{on:=5,ground:=Ground.phase},{on:=6,ground:=Ground.phase},{on:=7,ground:=Ground.phase},{on:=8,ground:=Ground.phase},{on:=9,ground:=Ground.textOnly Departure.lateStores},{on:=10,ground:=Ground.phase}],guard:=none}) rfl (fun KK hK=>?_) AllReadyH.nil)
      go_simp
      refine hK.out _ _ (HS2.alloc _) (fun _=>?_)
      clear hK KK
      try simp only [pLq]
      refine wpAnyH_take (i:=12) (oi:={dst:=some 14,op:=Op.assign (Operand.tmp 38),type:=44,pos := "l08_fill.go:82",after:=#[{on:=9,ground:=Ground.data},{on:=11,ground:=Ground.chain},{on:=0,ground:=Ground.phase},{on:=1,ground:=Ground.phase},{on:=2,ground:=Ground.phase},{on:=3,ground:=Ground.phase},{on:=4,ground:=Ground.phase},{on:=5,ground:=Ground.phase},{on:=6,ground:=Ground.phase},{on:=7,ground:=Ground.phase},{on:=8,ground:=Ground.phase},{on:=9,ground:=Ground.phase},{on:=10,ground:=Ground.phase},{on:=11,ground:=Ground.phase}],guard:=none}) (v:=ev) rfl (by kernel_rfl) (by kernel_rfl) (by kernel_rfl) (fun _ _ _ h=>h) (Or.inl ⟨by rfl,?_⟩) (HS2.alloc _) ?_
      ·intro wq hSq
       clear hSq
       go_simp
      try simp only [pLq]
      refine wpAnyH_done (by kernel_rfl) ?_ _
      go_wp2_with fail
      go_meet
      exact jhQ HS1 HB3.out HC3.out
     ·go_simp
      refine hK.out _ _ (HS1.alloc _) (fun _=>?_)
      clear hK KK
      try simp only [pLq]
      refine wpAnyH_ready (rs:=[6]) (by kernel_rfl) (by simp) ?_
      refine (AllReadyH.cons (o:={dst:=some 36,op:=Op.call {callee:=Callee.value (Operand.tmp 30),args:=#[Operand.tmp 31,Operand.tmp 35],argTypes:=#[27,78]},type:=45,pos := "l08_fill.go:82",after:=#[{on:=0,ground:=Ground.data},{on:=1,ground:=Ground.data},{on:=5,ground:=Ground.data},{on:=5,ground:=Ground.chain}],guard:=none}) rfl (fun KK hK=>?_) AllReadyH.nil)
      refine jbJ rfl 63 (.tmp 30) (.tmp 31) (.tmp 35) 27 78 (.pointer (some ⟨K,0,none⟩)) (.pointer (some ⟨B,0,none⟩)) rfl rfl jbp (.agg #[.int .i64 t.op,.int .i64 t.at_,.int .i64 t.n,.string t.s,.slice ps t.set.length cs,.slice pu t.len cu]) (_) rfl rfl _ (HFI.out _ _ (HS1.alloc _) (HC2.out.below (newx w2 _)) (HG2.out.but (But.of_all (newx w2 _)))) ?_
      rintro e w3 hpart
      obtain ⟨x,p3,q3,n1,n2,n3,n4,ev,rfl,hb3,hcase⟩:=jbI hpart
      refine ⟨_,rfl,?_⟩
      have HS2:But (fun j=>j=K) wr w3:=(HS1.alloc _).trans hb3
      have HC3:=jad hcase
      have HB3:=jad hb3
      clear hcase hb3 hpart
      refine hK.out _ _ HS2 (fun _=>?_)
      clear hK KK
      try simp only [pLq]
      refine wpAnyH_take (i:=7) (oi:={dst:=some 29,op:=Op.move (Operand.tmp 36),type:=45,pos := "l08_fill.go:82",after:=#[{on:=6,ground:=Ground.data}],guard:=none}) (v:=.tuple #[.agg #[.int .i64 x.op,.int .i64 x.at_,.int .i64 x.n,.string x.s,.slice p3 n1 n2,.slice q3 n3 n4],ev]) rfl (by kernel_rfl) (by kernel_rfl) (by kernel_rfl) (fun _ _ _ h=>h) (Or.inl ⟨by rfl,?_⟩) HS2 ?_
      ·intro wq hSq
       clear hSq
       go_simp
      try simp only [pLq]
      refine wpAnyH_take (i:=8) (oi:={dst:=some 37,op:=Op.extract (Operand.tmp 29) 0,type:=27,pos := "l08_fill.go:82",after:=#[{on:=7,ground:=Ground.data}],guard:=none}) (v:=.agg #[.int .i64 x.op,.int .i64 x.at_,.int .i64 x.n,.string x.s,.slice p3 n1 n2,.slice q3 n3 n4]) rfl (by kernel_rfl) (by kernel_rfl) (by kernel_rfl) (fun _ _ _ h=>h) (Or.inl ⟨by rfl,?_⟩) HS2 ?_
      ·intro wq hSq
       clear hSq
       go_simp
      try simp only [pLq]
      refine wpAnyH_take (i:=9) (oi:={dst:=some 38,op:=Op.extract (Operand.tmp 29) 1,type:=44,pos := "l08_fill.go:82",after:=#[{on:=7,ground:=Ground.data},{on:=11,ground:=Ground.gcOnly Departure.lateStores}],guard:=none}) (v:=ev) rfl (by kernel_rfl) (by kernel_rfl) (by kernel_rfl) (fun _ _ _ h=>h) (Or.inl ⟨by rfl,?_⟩) HS2 ?_
      ·intro wq hSq
       clear hSq
       go_simp
      try simp only [pLq]
      have hz:(w3).heap[w2.heap.size]? = some (.cells #[.int .i64 0,.int .i64 0,.int .i64 0,.string ⟨#[]⟩,.slice none 0 0,.slice none 0 0] 27):=HB3.out.at (han w2 _) (fun e=>by have e2:w2.heap.size=K:=e;have h1:=HS1.size;have h2:=HSZ.out.1;omega)
      have y0:=crw (w3) _ 0 _ _ _ hz
      have y1:=crw (w3) _ 1 _ _ _ hz
      have y2:=crw (w3) _ 2 _ _ _ hz
      have y3:=crw (w3) _ 3 _ _ _ hz
      have y4:=crw (w3) _ 4 _ _ _ hz
      have y5:=crw (w3) _ 5 _ _ _ hz
      have yf:∀ j,(w3).frozen? ⟨w2.heap.size,j,none⟩=false:=fun j=>fzr (w3) _ j _ _ hz
      refine wpAnyH_ready (rs:=[11]) (by kernel_rfl) (by simp) ?_
      refine (AllReadyH.cons (o:={dst:=none,op:=Op.store 27 (Operand.tmp 13) (Operand.tmp 37),type:=0,pos := "l08_fill.go:82",after:=#[{on:=10,ground:=Ground.data},{on:=8,ground:=Ground.data},{on:=6,ground:=Ground.chain},{on:=0,ground:=Ground.phase},{on:=1,ground:=Ground.phase},{on:=2,ground:=Ground.phase},{on:=3,ground:=Ground.phase},{on:=4,ground:=Ground.phase},{on:=5,ground:=Ground.phase},{on:=6,ground:=Ground.phase},{on:=7,ground:=Ground.phase},{on:=8,ground:=Ground.phase},{on:=9,ground:=Ground.textOnly Departure.lateStores},{on:=10,ground:=Ground.phase}],guard:=none}) rfl (fun KK hK=>?_) AllReadyH.nil)
      go_simp
      have HS3:=But.sixO (G:=w2.heap.size) HS2 HS1.size (.int .i64 x.op) (.int .i64 x.at_) (.int .i64 x.n) (.string x.s) (.slice p3 n1 n2) (.slice q3 n3 n4)
      refine hK.out _ _ HS3 (fun _=>?_)
      clear hK KK
      try simp only [pLq]
      refine wpAnyH_take (i:=12) (oi:={dst:=some 14,op:=Op.assign (Operand.tmp 38),type:=44,pos := "l08_fill.go:82",after:=#[{on:=9,ground:=Ground.data},{on:=11,ground:=Ground.chain},{on:=0,ground:=Ground.phase},{on:=1,ground:=Ground.phase},{on:=2,ground:=Ground.phase},{on:=3,ground:=Ground.phase},{on:=4,ground:=Ground.phase},{on:=5,ground:=Ground.phase},{on:=6,ground:=Ground.phase},{on:=7,ground:=Ground.phase},{on:=8,ground:=Ground.phase},{on:=9,ground:=Ground.phase},{on:=10,ground:=Ground.phase},{on:=11,ground:=Ground.phase}],guard:=none}) (v:=ev) rfl (by kernel_rfl) (by kernel_rfl) (by kernel_rfl) (fun _ _ _ h=>h) (Or.inl ⟨by rfl,?_⟩) HS3 ?_
      ·intro wq hSq
       clear hSq
       go_simp
      try simp only [pLq]
      refine wpAnyH_done (by kernel_rfl) ?_ _
      go_wp2_with fail
      go_meet
      exact je0 (HS1.alloc _) HB3.out HSZ.out.2.1 HSZ.out.1 HS1.size (by simp) hz HC3.out
    ·go_simp
     refine hK.out _ _ (HS0.alloc _) (fun _=>?_)
     clear hK KK
     try simp only [pLq]
     refine wpAnyH_ready (rs:=[5]) (by kernel_rfl) (by simp) ?_
     refine (AllReadyH.cons (o:={dst:=some 35,op:=Op.call {callee:=Callee.value (Operand.func 103),args:=#[Operand.tmp 32,Operand.tmp 33,Operand.tmp 34],argTypes:=#[170,3,78]},type:=78,pos := "l08_fill.go:82",after:=#[{on:=2,ground:=Ground.data},{on:=3,ground:=Ground.data},{on:=4,ground:=Ground.data}],guard:=none}) rfl (fun KK hK=>?_) AllReadyH.nil)
     refine jbt rfl 103 (.tmp 32) (.tmp 33) (.tmp 34) 170 3 78 rfl jf1 (.map (some Ms)) (.int .i64 k) f rfl rfl rfl _ (HTU.out _ (((But.refl (fun j=>j=K) wr).drew.alloc (.cells #[.int .i64 0,.int .i64 0,.int .i64 0,.string ⟨#[]⟩,.slice none 0 0,.slice none 0 0] 27)))) ?_
     rintro e w2 ⟨rfl,hb2,hg2⟩
     refine ⟨_,rfl,?_⟩
     have HS1:But (fun j=>j=K) wr w2:=(((But.refl (fun j=>j=K) wr).drew.alloc (.cells #[.int .i64 0,.int .i64 0,.int .i64 0,.string ⟨#[]⟩,.slice none 0 0,.slice none 0 0] 27))).trans (But.of_all hb2)
     have HG2:=jad hg2
     have HC2:Hid (CountAt K w2 (c+acc.2.1)):=CountAt.below (show CountAt K (wr.alloc (.cells #[.int .i64 0,.int .i64 0,.int .i64 0,.string ⟨#[]⟩,.slice none 0 0,.slice none 0 0] 27)).drew _ from (show CountAt K (wr.alloc (.cells #[.int .i64 0,.int .i64 0,.int .i64 0,.string ⟨#[]⟩,.slice none 0 0,.slice none 0 0] 27)) _ from CountAt.below HSZ.out.2.2 (newx wr _))) hb2
     clear hg2
     refine hK.out _ _ HS1 (fun _=>?_)
     clear hK KK
     try simp only [pLq]
     refine wpAnyH_ready (rs:=[6]) (by kernel_rfl) (by simp) ?_
     refine (AllReadyH.cons (o:={dst:=some 36,op:=Op.call {callee:=Callee.value (Operand.tmp 30),args:=#[Operand.tmp 31,Operand.tmp 35],argTypes:=#[27,78]},type:=45,pos := "l08_fill.go:82",after:=#[{on:=0,ground:=Ground.data},{on:=1,ground:=Ground.data},{on:=5,ground:=Ground.data},{on:=5,ground:=Ground.chain}],guard:=none}) rfl (fun KK hK=>?_) AllReadyH.nil)
     refine jbJ rfl 63 (.tmp 30) (.tmp 31) (.tmp 35) 27 78 (.pointer (some ⟨K,0,none⟩)) (.pointer (some ⟨B,0,none⟩)) rfl rfl jbp (.agg #[.int .i64 t.op,.int .i64 t.at_,.int .i64 t.n,.string t.s,.slice ps t.set.length cs,.slice pu t.len cu]) (_) rfl rfl _ (HFI.out _ _ HS1 HC2.out HG2.out) ?_
     rintro e w3 hpart
     obtain ⟨x,p3,q3,n1,n2,n3,n4,ev,rfl,hb3,hcase⟩:=jbI hpart
     refine ⟨_,rfl,?_⟩
     have HS2:But (fun j=>j=K) wr w3:=HS1.trans hb3
     have HC3:=jad hcase
     have HB3:=jad hb3
     clear hcase hb3 hpart
     refine hK.out _ _ HS2 (fun _=>?_)
     clear hK KK
     try simp only [pLq]
     refine wpAnyH_take (i:=7) (oi:={dst:=some 29,op:=Op.move (Operand.tmp 36),type:=45,pos := "l08_fill.go:82",after:=#[{on:=6,ground:=Ground.data}],guard:=none}) (v:=.tuple #[.agg #[.int .i64 x.op,.int .i64 x.at_,.int .i64 x.n,.string x.s,.slice p3 n1 n2,.slice q3 n3 n4],ev]) rfl (by kernel_rfl) (by kernel_rfl) (by kernel_rfl) (fun _ _ _ h=>h) (Or.inl ⟨by rfl,?_⟩) HS2 ?_
     ·intro wq hSq
      clear hSq
      go_simp
     try simp only [pLq]
     refine wpAnyH_take (i:=8) (oi:={dst:=some 37,op:=Op.extract (Operand.tmp 29) 0,type:=27,pos := "l08_fill.go:82",after:=#[{on:=7,ground:=Ground.data}],guard:=none}) (v:=.agg #[.int .i64 x.op,.int .i64 x.at_,.int .i64 x.n,.string x.s,.slice p3 n1 n2,.slice q3 n3 n4]) rfl (by kernel_rfl) (by kernel_rfl) (by kernel_rfl) (fun _ _ _ h=>h) (Or.inl ⟨by rfl,?_⟩) HS2 ?_
     ·intro wq hSq
      clear hSq
      go_simp
     try simp only [pLq]
     refine wpAnyH_take (i:=9) (oi:={dst:=some 38,op:=Op.extract (Operand.tmp 29) 1,type:=44,pos := "l08_fill.go:82",after:=#[{on:=7,ground:=Ground.data},{on:=11,ground:=Ground.gcOnly Departure.lateStores}],guard:=none}) (v:=ev) rfl (by kernel_rfl) (by kernel_rfl) (by kernel_rfl) (fun _ _ _ h=>h) (Or.inl ⟨by rfl,?_⟩) HS2 ?_
     ·intro wq hSq
      clear hSq
      go_simp
     try simp only [pLq]
     have hz:(w3).heap[wr.heap.size]? = some (.cells #[.int .i64 0,.int .i64 0,.int .i64 0,.string ⟨#[]⟩,.slice none 0 0,.slice none 0 0] 27):=HB3.out.at ((hb2.block _ (by show wr.heap.size<(wr.drew.alloc (.cells #[.int .i64 0,.int .i64 0,.int .i64 0,.string ⟨#[]⟩,.slice none 0 0,.slice none 0 0] 27)).heap.size;simp)).trans (han wr.drew _)) (fun e=>by have e2:wr.heap.size=K:=e;have h2:=HSZ.out.1;omega)
     have y0:=crw (w3) _ 0 _ _ _ hz
     have y1:=crw (w3) _ 1 _ _ _ hz
     have y2:=crw (w3) _ 2 _ _ _ hz
     have y3:=crw (w3) _ 3 _ _ _ hz
     have y4:=crw (w3) _ 4 _ _ _ hz
     have y5:=crw (w3) _ 5 _ _ _ hz
     have yf:∀ j,(w3).frozen? ⟨wr.heap.size,j,none⟩=false:=fun j=>fzr (w3) _ j _ _ hz
     refine wpAnyH_ready (rs:=[11]) (by kernel_rfl) (by simp) ?_
     refine (AllReadyH.cons (o:={dst:=none,op:=Op.store 27 (Operand.tmp 13) (Operand.tmp 37),type:=0,pos := "l08_fill.go:82",after:=#[{on:=10,ground:=Ground.data},{on:=8,ground:=Ground.data},{on:=6,ground:=Ground.chain},{on:=0,ground:=Ground.phase},{on:=1,ground:=Ground.phase},{on:=2,ground:=Ground.phase},{on:=3,ground:=Ground.phase},{on:=4,ground:=Ground.phase},{on:=5,ground:=Ground.phase},{on:=6,ground:=Ground.phase},{on:=7,ground:=Ground.phase},{on:=8,ground:=Ground.phase},{on:=9,ground:=Ground.textOnly Departure.lateStores},{on:=10,ground:=Ground.phase}],guard:=none}) rfl (fun KK hK=>?_) AllReadyH.nil)
     go_simp
     have HS3:=But.sixO (G:=wr.heap.size) HS2 (nlr _) (.int .i64 x.op) (.int .i64 x.at_) (.int .i64 x.n) (.string x.s) (.slice p3 n1 n2) (.slice q3 n3 n4)
     refine hK.out _ _ HS3 (fun _=>?_)
     clear hK KK
     try simp only [pLq]
     refine wpAnyH_take (i:=12) (oi:={dst:=some 14,op:=Op.assign (Operand.tmp 38),type:=44,pos := "l08_fill.go:82",after:=#[{on:=9,ground:=Ground.data},{on:=11,ground:=Ground.chain},{on:=0,ground:=Ground.phase},{on:=1,ground:=Ground.phase},{on:=2,ground:=Ground.phase},{on:=3,ground:=Ground.phase},{on:=4,ground:=Ground.phase},{on:=5,ground:=Ground.phase},{on:=6,ground:=Ground.phase},{on:=7,ground:=Ground.phase},{on:=8,ground:=Ground.phase},{on:=9,ground:=Ground.phase},{on:=10,ground:=Ground.phase},{on:=11,ground:=Ground.phase}],guard:=none}) (v:=ev) rfl (by kernel_rfl) (by kernel_rfl) (by kernel_rfl) (fun _ _ _ h=>h) (Or.inl ⟨by rfl,?_⟩) HS3 ?_
     ·intro wq hSq
      clear hSq
      go_simp
     try simp only [pLq]
     refine wpAnyH_done (by kernel_rfl) ?_ _
     go_wp2_with fail
     go_meet
     exact je0 HS1 HB3.out HSZ.out.2.1 HSZ.out.1 (nlr _) (by have h1:(wr.alloc (.cells #[.int .i64 0,.int .i64 0,.int .i64 0,.string ⟨#[]⟩,.slice none 0 0,.slice none 0 0] 27)).heap.size≤w2.heap.size:=hb2.size;rw [World.size_alloc] at h1;omega) hz HC3.out
   case rest =>
    obtain ⟨G,x,p3,q3,n1,n2,n3,n4,rfl,hbx,h6,hcase⟩:=hcut
    obtain ⟨y0,y1,y2,y3,y4,y5⟩:=h6.cells
    have HBX:=jad hbx
    clear hbx h6 HTU HFI HXB HSZ
    rcases hcase with ⟨r,F,h1,h2,h3,h4,rfl,h5,h7⟩|⟨h1,rfl⟩
    ·have HR:=jad (And.intro h1 (And.intro h2 (And.intro h3 (And.intro h4 (And.intro h5 h7)))))
     have HRW:Hid (∀ o2,(wc.alloc o2).ownsRow (W.heap.size+1) 27 6 (.slice p8 n8 c8) acc.1.length (jau la)):=fun o2=>((HST.out.row.but HBX.out ⟨HF.out.ne.2.1,by omega⟩).below (newx wc o2)).row
     have hac:acc.1.length≤4000:=by have a1:=HST.out.le;have a2:=HST.out.fil.few;omega
     have HSW:Hid (∀ o2,W.heap.size+1≤(wc.alloc o2).heap.size):=fun o2=>by have a1:=(aes.1 HST.out.box).1;have a2:=HBX.out.size;simp;omega
     clear h1 h2 h3 h4 h5 h7
     generalize hal:acc.1.length=al at *
     have HAL:=jad hal
     clear hal
     obtain ⟨iS,hiS,hzS0,hzS1,hzS2⟩:=info_parts jcI
     go_upto_region 11 with fail
     go_wp2_with (at_builtin;refine jbg _ rfl (.tmp 42) (.tmp 44) 25 rfl (W.heap.size+1) 27 iS (.agg #[.int .i64 0,.int .i64 0,.int .i64 0,.string ⟨#[]⟩,.slice none 0 0,.slice none 0 0]) 6 88 Tryz.underlying25 hiS hzS0 hzS1 hzS2 rfl (by decide) (.slice p8 n8 c8) al (jau la) rfl (HRW.out _) ⟨wc.heap.size,0,none⟩ 1 1 [.int .i64 x.op,.int .i64 x.at_,.int .i64 x.n,.string x.s,.slice p3 n1 n2,.slice q3 n3 n4] rfl rfl ?c1 ?c2 ?c3 ?c4 (HSW.out _) (by omega) ?_)
     case c1=>exact World.news_of_block (cs:=#[.int .i64 x.op,.int .i64 x.at_,.int .i64 x.n,.string x.s,.slice p3 n1 n2,.slice q3 n3 n4]) (t:=27) (fr:=(0,0)) (han wc _)
     case c2=>intro u hu;simp at hu;rcases hu with rfl|rfl|rfl|rfl|rfl|rfl <;> rfl
     case c3=>unfold maxLen;omega
     case c4=>omega
     intro v' w5 hown hg5 hat5
     obtain ⟨r1,r2,r3,r4,r5,r6⟩:=HR.out
     have HNX:=jad (HST.out.next (lv':=v') HF.out HOK.out.2 HBX.out r1 r2 r3 r4 r5 r6 (by rw [HAL.out];exact hown.out) hg5.out hat5.out)
     clear r1 r2 r3 r4 r5 r6 hown hg5 hat5
     obtain ⟨p9,n9,c9,e9,h9⟩:=HNX.out
     subst e9
     have HN9:=jad h9
     clear h9 HNX
     go_wp2_with fail
     go_roundw
     case rel=>exact ⟨k+1,_,_,_,_,_,by go_num,by omega,rfl,HN9.out⟩
     case measure=>simp [intOf];omega
    ·have HFL:Hid (∀ r,jcc t L=some r→4000<c+r.2.1):=fun r hr=>by
      rw [HO.out] at hr
      exact jlv hlt' HST.out.tf h1 r hr
     have HB:Hid (But (fun j=>j=K) W wc):=HST.out.but.trans HBX.out
     clear h1
     unfold errV
     go_wp2_with fail
     refine bpr (results_tmp2 rfl _ _ _) rfl ?_
     exact ⟨HB.out,.inr ⟨HFL.out,rfl⟩⟩
  ·have hke:k=n:=by omega
   have HFIN:Hid (jgf w0.heap.size K a (jcc t L) c W wr (.returned (.tuple #[.slice p8 n8 c8,.nilIface]))):=by
    refine ⟨HST.out.but,.inl ⟨acc,_,la,?_,HST.out.le,HST.out.fil.cnt,HST.out.fil.few,rfl,HST.out.row.mono (by omega)⟩⟩
    rw [HO.out,←hke];exact HST.out.tf
   clear HST HO
   go_wp2_with fail
   refine bpr (results_tmp2 rfl _ _ _) rfl ?_
   exact HFIN.out
end Go.Proofs.YtjmlfacbcfbhdaaGreatDoor
