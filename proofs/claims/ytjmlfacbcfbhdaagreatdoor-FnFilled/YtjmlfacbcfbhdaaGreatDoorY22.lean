/- spec.l8Times: how often a part ahead of dots is filled. Condition: at most 2^20 of the template. -/
import Derived.Test.YtjmlfacbcfbhdaaGreatDoorYA
import Derived.Test.YtjmlfacbcfbhdaaGreatDoorY0
import Derived.Test.YtjmlfacbcfbhdaaGreatDoorY21
import Derived.OpenShut
import Derived.WalkSpells
import Derived.Lib.ItoaNum
import Derived.Lib.ItoaLen
set_option maxRecDepth 100000
set_option maxHeartbeats 8000000
namespace Go.Proofs.YtjmlfacbcfbhdaaGreatDoor
open Go.ChangeShapes Go.WideShapes Go.ChangeAt Go.RowKit
def Head9 (w:World) (b p:Nat) (g:G) (sv kv gv:Value):Prop:=w.cell? ⟨b,p,none⟩=some (.string g.name)∧w.cell? ⟨b,p+1,none⟩=some (.int .i64 g.deep)∧w.cell? ⟨b,p+2,none⟩=some (.int .i64 g.one.op)∧w.cell? ⟨b,p+3,none⟩=some (.int .i64 g.one.at_)∧w.cell? ⟨b,p+4,none⟩=some (.int .i64 g.one.n)∧w.cell? ⟨b,p+5,none⟩=some (.string g.one.s)∧w.cell? ⟨b,p+6,none⟩=some sv∧w.cell? ⟨b,p+7,none⟩=some kv∧w.cell? ⟨b,p+8,none⟩=some gv
theorem Head9.below {w w':World} {b p:Nat} {g:G} {sv kv gv:Value} (h:Head9 w b p g sv kv gv) (hb:Below w.heap.size w w'):Head9 w' b p g sv kv gv:=by
 obtain ⟨h0,h1,h2,h3,h4,h5,h6,h7,h8⟩:=h
 exact ⟨jat hb _ _ h0,jat hb _ _ h1,jat hb _ _ h2,jat hb _ _ h3,jat hb _ _ h4,jat hb _ _ h5,jat hb _ _ h6,jat hb _ _ h7,jat hb _ _ h8⟩
theorem jjz {w:World} {base g cap n:Nat} {l:List GR} (h:w.ownsRow base 42 9 (.slice (some ⟨g,0,none⟩) n cap) n (jak l)) {i:Nat} (hi:i<n) {q:GR} (hq:l[i]? = some q):Head9 w g (i*9) q.g q.sv q.kv q.gv:=by
 have c:∀ r,r<9→w.cell? ⟨g,i*9+r,none⟩=(jba q)[r]? := fun r hr=>(h.cellAt (i*9+r) (by omega)).trans (by
  have:=jgZ l [] i q hq r hr
  rwa [lan] at this)
 have c0:=c 0 (by omega)
 rw [Nat.add_zero] at c0
 exact ⟨c0,c 1 (by omega),c 2 (by omega),c 3 (by omega),c 4 (by omega),c 5 (by omega),c 6 (by omega),c 7 (by omega),c 8 (by omega)⟩
theorem jfE {f:Nat→Option (List G)}:∀ {k:Nat} {A:List G},jaw f k=some A→∀ g∈A,∃ i l,i<k∧f i=some l∧g∈l:=by
 intro k
 induction k with
 | zero=>intro A h g hg;simp only [jaw] at h;injection h with h;subst h;simp at hg
 | succ k ih =>
  intro A h g hg
  simp only [jaw] at h
  cases hA:jaw f k with
  | none=>rw [hA] at h;cases h
  | some A' =>
   cases hB:f k with
   | none=>rw [hA,hB] at h;cases h
   | some B' =>
    rw [hA,hB] at h
    injection h with h
    subst h
    rcases lma.1 hg with hg|hg
    ·obtain ⟨i,l,h1,h2,h3⟩:=ih hA g hg
     exact ⟨i,l,by omega,h2,h3⟩
    ·exact ⟨k,B',by omega,hB,hg⟩
theorem jnN {ns:List (ByteArray×Int)} {f:Nat→Option (List G)} {n:Nat} {l:List G} (h:jcW ns f n=some l):l=colG ns f n:=by
 unfold jcW at h
 split at h
 ·injection h with h;exact h.symm
 ·cases h
def GAt (w:World):G→Value→Value→Value→Prop
 | .no,_,_,_=>False
 | .mk name _ one len sm,sv,kv,v=>name.size≤maxLen∧one.At 0 w sv kv∧∃ (p:Option Addr) (cap:Nat),v=.slice p len cap∧(p=none→cap=0)∧len≤cap∧cap≤maxLen ∧
  ∀ i,i<len→∃ b o a b' c,p=some ⟨b,o,none⟩∧Head9 w b (o+i*9) (sm i) a b' c∧GAt w (sm i) a b' c
def GsAt (w:World) (len:Nat) (sm:Nat→G) (v:Value):Prop:=∃ (p:Option Addr) (cap:Nat),v=.slice p len cap∧(p=none→cap=0)∧len≤cap∧cap≤maxLen ∧
  ∀ i,i<len→∃ b o a b' c,p=some ⟨b,o,none⟩∧Head9 w b (o+i*9) (sm i) a b' c∧GAt w (sm i) a b' c
theorem GAt.parts {w:World} {g:G} {sv kv v:Value} (h:GAt w g sv kv v):g.name.size≤maxLen∧g.one.At 0 w sv kv∧GsAt w g.len g.sm v:=by
 cases g with
 | no=>exact h.elim
 | mk name deep one len sm=>unfold GAt at h;exact h
theorem GAt.ne {w:World} {g:G} {sv kv v:Value} (h:GAt w g sv kv v):g≠.no:=by rintro rfl;exact h.elim
theorem GAt.kept {w w':World} (hx:∀ (t:X) (su u:Value),t.At 0 w su u→t.At 0 w' su u) (hk:∀ a u,w.cell? a=some u→w'.cell? a=some u) (g:G):∀ {sv kv v:Value},GAt w g sv kv v→GAt w' g sv kv v:=by
 induction g with
 | no=>intro sv kv v h;exact h.elim
 | mk name deep one len sm ih =>
  intro sv kv v h
  unfold GAt at h ⊢
  obtain ⟨h1,h2,p,cap,rfl,h0,h3,h4,h5⟩:=h
  refine ⟨h1,hx _ _ _ h2,p,cap,rfl,h0,h3,h4,fun i hi=>?_⟩
  obtain ⟨b,o,a,b',c,e,⟨c0,c1,c2,c3,c4,c5,c6,c7,c8⟩,hg⟩:=h5 i hi
  exact ⟨b,o,a,b',c,e,⟨hk _ _ c0,hk _ _ c1,hk _ _ c2,hk _ _ c3,hk _ _ c4,hk _ _ c5,hk _ _ c6,hk _ _ c7,hk _ _ c8⟩,ih i hg⟩
theorem GAt.below {w w':World} {g:G} {sv kv v:Value} (h:GAt w g sv kv v) (hb:Below w.heap.size w w'):GAt w' g sv kv v:=GAt.kept (fun _ _ _ h=>X.At.below hb h) (jat hb) g h
theorem GsAt.below {w w':World} {len:Nat} {sm:Nat→G} {v:Value} (h:GsAt w len sm v) (hb:Below w.heap.size w w'):GsAt w' len sm v:=by
 obtain ⟨p,cap,rfl,h0,h3,h4,h5⟩:=h
 refine ⟨p,cap,rfl,h0,h3,h4,fun i hi=>?_⟩
 obtain ⟨b,o,a,b',c,e,hd,hg⟩:=h5 i hi
 exact ⟨b,o,a,b',c,e,hd.below hb,hg.below hb⟩
theorem GsAt.shape {w:World} {len:Nat} {sm:Nat→G} {v:Value} (h:GsAt w len sm v):∃ p cap,v=.slice p len cap:=by
 obtain ⟨p,cap,e,_⟩:=h
 exact ⟨p,cap,e⟩
theorem GAt.shape {w:World} {g:G} {sv kv v:Value} (h:GAt w g sv kv v):(∃ p c,sv=.slice p g.one.set.length c)∧(∃ p c,kv=.slice p g.one.len c)∧∃ p c,v=.slice p g.len c:=by
 obtain ⟨_,h1,h2⟩:=h.parts
 exact ⟨h1.sets.shape,h1.xs.shape,h2.shape⟩
theorem GsOwn.read {w:World} {len:Nat} {sm:Nat→G} {v:Value} {S:List Nat} (h:GsOwn w len sm v S) (hd:∀ i,i<len→∀ a b c T,GOwn w (sm i) a b c T→GAt w (sm i) a b c):GsAt w len sm v:=by
 rcases h with ⟨rfl,rfl,_⟩|⟨g,cap,l,SS,rfl,h2,h3,h4,_,h7⟩
 ·exact ⟨none,0,rfl,fun _=>rfl,nlr _,nzl _,fun i hi=>absurd hi (Nat.not_lt_zero _)⟩
 ·have hle:len≤cap∧cap≤maxLen:=by
   rcases h2.2 with ⟨h',_⟩|⟨g',cap',cur,h',hb,hg,hnc,hcm,hcs,htake⟩
   ·cases h'
   ·injection h' with _ _ h'
    omega
  refine ⟨some ⟨g,0,none⟩,cap,rfl,(by intro h;cases h),hle.1,hle.2,fun i hi=>?_⟩
  obtain ⟨a,b,c,T,k1,k2,k3⟩:=h7 i hi
  have h9:=jjz h2 hi k1
  rw [show i*9=0+i*9 by omega] at h9
  exact ⟨g,0,a,b,c,rfl,h9,hd i hi a b c T k3⟩
theorem GOwn.read {w:World} (g:G):∀ {sv kv v:Value} {S:List Nat},GOwn w g sv kv v S→GAt w g sv kv v:=by
 induction g with
 | no=>intro sv kv v S h;exact h.elim
 | mk name deep one len sm ih =>
  intro sv kv v S h
  obtain ⟨h1,S1,S2,_,h2,h3⟩:=h.parts
  have h4:GsAt w len sm v:=GsOwn.read (show GsOwn w len sm v S2 from h3) (fun i _ a b c T k=>ih i k)
  unfold GAt
  exact ⟨h1,h2.at0,h4⟩
def jlD (L:List G) (nm:ByteArray) (k:Int):Prop:=(∃ i:Nat,i<L.length∧k=i∧((L.getD i .no).name.toList==nm.toList)=true∧jag L nm=some (L.getD i .no))∨(k = -1∧jag L nm=none)
theorem jnS {L:List G} {nm:ByteArray}:∀ {i:Nat},i<L.length→(∀ j,j<i→((L.getD j .no).name.toList==nm.toList)=false)→((L.getD i .no).name.toList==nm.toList)=true→jag L nm=some (L.getD i .no):=by
 induction L with
 | nil=>intro i h;exact absurd h (Nat.not_lt_zero _)
 | cons g L ih =>
  intro i hi h1 h2
  cases i with
  | zero=>simp only [jag];rw [if_pos (by simpa using h2)];rfl
  | succ i =>
   have h0:=h1 0 (by omega)
   simp only [jag]
   rw [if_neg (by simp at h0 ⊢;exact h0)]
   have:=ih (i:=i) (by simpa using hi) (fun j hj=>by have:=h1 (j+1) (by omega);simpa using this) (by simpa using h2)
   rw [this]
   simp
theorem jkn {L:List G} {nm:ByteArray} (h:∀ j,j<L.length→((L.getD j .no).name.toList==nm.toList)=false):jag L nm=none:=by
 induction L with
 | nil=>rfl
 | cons g L ih =>
  have h0:=h 0 (by simp)
  simp only [jag]
  rw [if_neg (by simp at h0 ⊢;exact h0)]
  exact ih (fun j hj=>by have:=h (j+1) (by simpa using hj);simpa using this)
theorem jhi (L:List G) (nm:ByteArray) (w:World) (v:Value) (hv:GsAt w L.length (fun i=>L.getD i .no) v) :
  Calls Tryz.prog 45 #[v,.string nm] w fun e w'=>∃ k,e=.returned (.int .i64 k)∧jlD L nm k∧Below w.heap.size w w':=by
 obtain ⟨p,cap,rfl,_,hlc,hcm,hat⟩:=hv
 have HC:Hid (∀ i,i<L.length→∃ b o a b' c,p=some ⟨b,o,none⟩∧Head9 w b (o+i*9) (L.getD i .no) a b' c):=fun i hi=>by
  obtain ⟨b,o,a,b',c,e,hd,_⟩:=hat i hi
  exact ⟨b,o,a,b',c,e,hd⟩
 clear hat
 have hlen:L.length≤9223372036854775807:=by unfold maxLen at hcm;omega
 go_enter Tryz.func45,Tryz.ntmps45
 go_wp2_with fail
 go_loopw [5] (fun i wr=>∃ k:Nat,i=.int .i64 k∧k≤L.length∧(∀ j,j<k→((L.getD j .no).name.toList==nm.toList)=false)∧Below w.heap.size w wr) (fun i _=>L.length-(intOf i).toNat)
 case atStart=>exact ⟨0,rfl,nzl _,fun j hj=>absurd hj (Nat.not_lt_zero _),brf _ _⟩
 case round =>
  obtain ⟨k,rfl,hk,hall,hbel⟩:=hrel
  have HB:Hid (Below w.heap.size w wr):=hbel
  clear hbel
  have HALL:Hid (∀ j,j<k→((L.getD j .no).name.toList==nm.toList)=false):=hall
  clear hall
  by_cases hlt:(k:Int)<L.length
  ·have hk':k<L.length:=by omega
   obtain ⟨b,o,a,b',c,hp,hd⟩:=HC.out k hk'
   subst hp
   obtain ⟨c0,_⟩:=hd.below HB.out
   clear hd
   cases ht:((L.getD k .no).name.toList==nm.toList)
   ·have HG:Hid (∀ j,j<k+1→((L.getD j .no).name.toList==nm.toList)=false):=fun j hj=>by
     by_cases hjk:j=k
     ·subst hjk;exact ht
     ·exact HALL.out j (by omega)
    generalize (L.getD k .no).name=y at *
    go_wp2_with fail
    go_roundw
    case rel=>first|exact ⟨k+1,by go_num,by omega,HG.out,HB.out⟩|((repeat apply Exists.intro);exact ⟨⟨k+1,by go_num,by omega,HG.out,HB.out⟩,rfl⟩)
    case measure=>simp [intOf];omega
   ·have HF:Hid (jlD L nm k):=.inl ⟨k,hk',rfl,ht,jnS hk' HALL.out ht⟩
    generalize (L.getD k .no).name=y at *
    go_wp2_with fail
    go_ret
    exact ⟨_,rfl,HF.out,HB.out⟩
  ·have hke:k=L.length:=by omega
   have HF:Hid (jlD L nm (-1)):=.inr ⟨rfl,jkn (by rw [←hke];exact HALL.out)⟩
   go_wp2_with fail
   go_ret
   exact ⟨_,rfl,HF.out,HB.out⟩
def jlJ (t:X):Prop:=∀ (w:World) (su u:Value) (most:Nat),t.At 0 w su u→t.weight≤1048576→0<most→most≤4000000→Calls Tryz.prog 47 #[.agg #[.int .i64 t.op,.int .i64 t.at_,.int .i64 t.n,.string t.s,su,u],.int .i64 most] w fun e w'=>∃ r:Nat,e=.returned (.int .i64 r)∧0<r∧r≤t.count∧(r<most→r=t.count)∧Below w.heap.size w w'
theorem jlg (t:X):jlJ t:=by
 induction t with
 | no=>intro w su u most h;exact h.elim
 | mk op a n s set len kid ih =>
  intro w su u most hin hwt hm0 hm1
  obtain ⟨p,cap,e1,hl2,hat⟩:=hin.xs.at
  obtain ⟨qs,cs,e2⟩:=hin.sets.shape
  simp only [X.op,X.at_,X.n,X.s,X.len,X.set,X.kid] at e1 e2 hat hl2 ⊢
  have hwe:(X.mk op a n s set len kid).weight=s.size+(set.length+(len+sumX (fun i=>(kid i).weight) len)):=rfl
  have hlen:len≤1048576:=by omega
  have HAT:Hid (∀ i,i<len→∃ b o sv u,p=some ⟨b,o,none⟩∧Head6 w b (o+i*6) (kid i) sv u∧(kid i).At 0 w sv u):=hat
  have HCT:Hid ((X.mk op a n s set len kid).count=1+sumX (fun i=>(kid i).count) len∧(X.mk op a n s set len kid).count≤1048577):=⟨rfl,by have:=(X.mk op a n s set len kid).count_weight;omega⟩
  have IH:Hid (∀ i,i<len→jlJ (kid i)∧(kid i).weight≤1048576):=fun i hi=>⟨ih i,by
   have h1:=jbo (fun i=>(kid i).weight) i len hi
   omega⟩
  subst e1 e2
  generalize (X.mk op a n s set len kid).count=CT at *
  obtain ⟨W,hW⟩:∃ W,W=w.alloc (.cells #[.int .i64 op,.int .i64 a,.int .i64 n,.string s,.slice qs set.length cs,.slice p len cap] 27):=⟨_,rfl⟩
  obtain ⟨C,hC⟩:∃ C,C=w.heap.size:=⟨_,rfl⟩
  have KW:Hid (∀ wx,Below W.heap.size W wx→Below w.heap.size w wx∧Six wx C op a n s (.slice qs set.length cs) (.slice p len cap) 27):=by
   have nb:Below w.heap.size w W:=by rw [hW];exact newx w _
   have h6:Six W C op a n s (.slice qs set.length cs) (.slice p len cap) 27:=by rw [hW,hC];exact han w _
   exact fun wx hx=>⟨nb.trans (hx.mono nb.size),h6.below hx⟩
  have HWW:=jaa hW
  have HC:=jaa hC
  clear hin ih hat hwt hwe hW hC
  generalize set.length=sl at *
  go_enter Tryz.func47,Tryz.ntmps47
  go_wp2_with fail
  rw [←HWW.out,←HC.out]
  go_loopw [5,6] (fun r i wr=>∃ (k c:Nat),i=.int .i64 k∧r=.int .i64 c∧k≤len∧0<c∧c≤1+sumX (fun i=>(kid i).count) k∧(c<most→c=1+sumX (fun i=>(kid i).count) k)∧Below W.heap.size W wr) (fun _ i _=>len-(intOf i).toNat)
  case atStart=>exact ⟨0,1,rfl,rfl,nzl _,by omega,by simp [sumX],fun _=>by simp [sumX],Below.refl _ _⟩
  case round =>
   obtain ⟨k,c,rfl,rfl,hk,hc0,hc1,hc2,hbel⟩:=hrel
   have HB:Hid (Below W.heap.size W wr):=hbel
   have HC2:Hid (c<most→c=1+sumX (fun i=>(kid i).count) k):=hc2
   clear hbel hc2
   obtain ⟨x0,x1,x2,x3,x4,x5⟩:=(KW.out wr HB.out).2.cells
   have hcb:c≤1048577:=by
    have h1:=jje (fun i=>(kid i).count) k len hk
    have h2:=HCT.out
    omega
   by_cases hlt:(k:Int)<len
   ·have hk':k<len:=by omega
    have hsum:=jbo (fun i=>(kid i).count) k len hk'
    by_cases hcm:(c:Int)<most
    ·obtain ⟨b,o,sk,uk,hp,hd,hink⟩:=HAT.out k hk'
     subst hp
     obtain ⟨c0',c1',c2',c3',c4',c5'⟩:=hd.below (KW.out wr HB.out).1
     have HCL:Hid (Calls Tryz.prog 47 #[.agg #[.int .i64 (kid k).op,.int .i64 (kid k).at_,.int .i64 (kid k).n,.string (kid k).s,sk,uk],.int .i64 ((most:Int)-c)] wr fun e w'=>∃ r:Nat,e=.returned (.int .i64 r)∧0<r∧r≤(kid k).count∧(r<most-c→r=(kid k).count)∧Below wr.heap.size wr w'):=by
      have h9:=(IH.out k hk').1 wr sk uk (most-c) (hink.below (KW.out wr HB.out).1) (IH.out k hk').2 (by omega) (by omega)
      rwa [show ((most-c:Nat):Int)=(most:Int)-c by omega] at h9
     clear hd hink
     go_wp2_with fail
     refine HCL.out.mono ?_
     rintro e w1 ⟨r,rfl,hr0,hr1,hr2,hb1⟩
     have HN:Hid (c+r≤1+sumX (fun i=>(kid i).count) (k+1)∧(c+r<most→c+r=1+sumX (fun i=>(kid i).count) (k+1))∧Below W.heap.size W w1):=by
      refine ⟨by simp only [sumX];omega,fun h=>?_,HB.out.trans (hb1.mono HB.out.size)⟩
      have h1:=HC2.out (by omega)
      have h2:=hr2 (by omega)
      simp only [sumX]
      omega
     have hrb:r≤1048577:=by have:=HCT.out;omega
     clear hr1 hr2 hb1 HCL c0' c1' c2' c3' c4' c5' x0 x1 x2 x3 x4 x5
     go_wp2_with fail
     go_roundw
     case rel=>first|exact ⟨k+1,c+r,by go_num,by go_num,by omega,by omega,HN.out⟩|((repeat apply Exists.intro);exact ⟨⟨k+1,c+r,by go_num,by go_num,by omega,by omega,HN.out⟩,rfl⟩)
     case measure=>simp [intOf];omega
    ·have HF:Hid (0<c∧c≤CT∧(c<most→c=CT)∧Below w.heap.size w wr):=⟨hc0,by have:=HCT.out;have:=jje (fun i=>(kid i).count) k len hk;omega,fun h=>by omega,(KW.out wr HB.out).1⟩
     go_wp2_with fail
     go_ret
     exact ⟨c,rfl,HF.out⟩
   ·have hke:k=len:=by omega
    have HF:Hid (0<c∧c≤CT∧(c<most→c=CT)∧Below w.heap.size w wr):=⟨hc0,by have:=HCT.out;rw [hke] at hc1;omega,fun h=>by have h1:=HC2.out h;rw [hke] at h1;have:=HCT.out;omega,(KW.out wr HB.out).1⟩
    go_wp2_with fail
    go_ret
    exact ⟨c,rfl,HF.out⟩
theorem jnK (ns:List ByteArray) {k:Nat} (hk:k<ns.length):ns.drop k=ns.getD k ⟨#[]⟩::ns.drop (k+1):=by
 rw [List.drop_eq_getElem_cons hk,lgd,lgg hk,Option.getD_some]
theorem jjg {L:List G} {nm:ByteArray} {r:List ByteArray} {o:Int} (h:jag L nm=none):jaq L (nm::r) o=jaq L r o:=by
 simp only [jaq];rw [h]
theorem jll {L:List G} {nm:ByteArray} {r:List ByteArray} {o:Int} {g:G} (h:jag L nm=some g) (hd:¬ 0<g.deep):jaq L (nm::r) o=jaq L r o:=by
 simp only [jaq];rw [h];simp only;rw [if_neg hd]
theorem jlk {L:List G} {nm:ByteArray} {r:List ByteArray} {o:Int} {g:G} (h:jag L nm=some g) (hd:0<g.deep) (ho:0≤o∧o≠g.len):jaq L (nm::r) o = -1:=by
 simp only [jaq];rw [h];simp only;rw [if_pos hd,if_pos ho]
theorem jng {L:List G} {nm:ByteArray} {r:List ByteArray} {o:Int} {g:G} (h:jag L nm=some g) (hd:0<g.deep) (ho:¬ (0≤o∧o≠g.len)):jaq L (nm::r) o=jaq L r g.len:=by
 simp only [jaq];rw [h];simp only;rw [if_pos hd,if_neg ho]
theorem jlh (t:X) (L:List G) (w:World) (su u v:Value) (ht:t.At 0 w su u) (htw:t.weight≤1048576) (hv:GsAt w L.length (fun i=>L.getD i .no) v) :
  Calls Tryz.prog 76 #[.agg #[.int .i64 t.op,.int .i64 t.at_,.int .i64 t.n,.string t.s,su,u],v] w fun e w'=>e=.returned (.int .i64 (jaq L (jam t) (-1)))∧Below w.heap.size w w':=by
 obtain ⟨pu,cu,e1⟩:=ht.xs.shape
 obtain ⟨ps,cs,e2⟩:=ht.sets.shape
 have HV:Hid (GsAt w L.length (fun i=>L.getD i .no) v):=hv
 obtain ⟨pl,cl,e3,_,_,hcm,hat⟩:=hv
 subst e1 e2 e3
 have HAT:Hid (∀ i,i<L.length→∃ b o a b' c,pl=some ⟨b,o,none⟩∧Head9 w b (o+i*9) (L.getD i .no) a b' c∧GAt w (L.getD i .no) a b' c):=hat
 have hlb:L.length≤9223372036854775807:=by unfold maxLen at hcm;omega
 obtain ⟨ns,hns⟩:∃ ns,ns=jam t:=⟨_,rfl⟩
 obtain ⟨res,hres⟩:∃ r,r=jaq L ns (-1):=⟨_,rfl⟩
 rw [←hns,←hres]
 have HRES:Hid (res=jaq L ns (-1)):=hres
 obtain ⟨W1,hW1⟩:∃ W,W=w.alloc (.cells #[.int .i64 t.op,.int .i64 t.at_,.int .i64 t.n,.string t.s,.slice ps t.set.length cs,.slice pu t.len cu] 27):=⟨_,rfl⟩
 have hb1:Below w.heap.size w W1:=by rw [hW1];exact newx w _
 have HCN:=jaa (jcg t W1 _ _ (ht.below hb1) htw)
 have HNM:Hid ((jaz t ([],false)).1=ns):=hns.symm
 have HB1:Hid (Below w.heap.size w W1):=hb1
 have HWW:=jaa hW1
 clear ht htw hat hns hres hb1 hW1
 go_enter Tryz.func76,Tryz.ntmps76
 go_wp2_with fail
 rw [←HWW.out]
 refine HCN.out.mono ?_
 rintro e w2 ⟨nv,rfl,hb2,hown⟩
 rw [HNM.out] at hown
 obtain ⟨an,cn,hnv,hcn⟩:=hown.rd
 subst hnv
 have hnlen:ns.length≤9223372036854775807:=by
  rcases hown.2 with ⟨_,h0⟩|⟨g,cap,cur,h',_,_,h1,h2,_⟩
  ·omega
  ·injection h' with _ _ h'
   unfold maxLen at h2
   omega
 have HNC:Hid (∀ j,j<ns.length→∃ b off,an=some ⟨b,off,none⟩∧w2.cell? ⟨b,off+j,none⟩=some (.string (ns.getD j ⟨#[]⟩))):=hcn
 have HB2:Hid (Below w.heap.size w w2):=HB1.out.trans (hb2.mono HB1.out.size)
 clear hcn hown hb2 HCN HNM HWW HB1
 go_wp2_with fail
 go_loopw [5,7] (fun r i wr=>∃ (k:Nat) (o:Int),i=.int .i64 k∧r=.int .i64 o∧k≤ns.length∧jaq L (ns.drop k) o=res∧Below w2.heap.size w2 wr) (fun _ i _=>ns.length-(intOf i).toNat)
 case atStart=>exact ⟨0,-1,rfl,rfl,nzl _,by rw [List.drop_zero,HRES.out],brf _ _⟩
 case round =>
  obtain ⟨k,o,rfl,rfl,hk,hto,hbel⟩:=hrel
  have HT:Hid (jaq L (ns.drop k) o=res):=hto
  have HB:Hid (Below w2.heap.size w2 wr):=hbel
  clear hto hbel
  by_cases hlt:(k:Int)<ns.length
  ·have hk':k<ns.length:=by omega
   obtain ⟨bn,on,han,hcl⟩:=HNC.out k hk'
   subst han
   have n0:=jat HB.out _ _ hcl
   have HDR:Hid (ns.drop k=ns.getD k ⟨#[]⟩::ns.drop (k+1)):=jnK ns hk'
   clear hcl
   generalize ns.getD k ⟨#[]⟩=nm at *
   have hbw:Below w.heap.size w wr:=HB2.out.trans (HB.out.mono HB2.out.size)
   have HCG:=jaa (jhi L nm wr _ (HV.out.below hbw))
   have HBW:Hid (Below w.heap.size w wr):=hbw
   clear hbw
   go_wp2_with fail
   refine HCG.out.mono ?_
   rintro e w3 ⟨k',rfl,hf,hb3⟩
   have HB3:Hid (Below w2.heap.size w2 w3):=HB.out.trans (hb3.mono HB.out.size)
   have HBW3:Hid (Below w.heap.size w w3):=HBW.out.trans (hb3.mono HBW.out.size)
   clear hb3 n0 HCG HBW
   rcases hf with ⟨i,hi,rfl,-,hfg⟩|⟨rfl,hfg⟩
   ·obtain ⟨b,ob,a1,b1,c1,hpl,hd,hga⟩:=HAT.out i hi
    subst hpl
    obtain ⟨_,_,⟨p3,q3,e3⟩⟩:=hga.shape
    subst e3
    obtain ⟨d0,d1,d2,d3,d4,d5,d6,d7,d8⟩:=hd.below HBW3.out
    obtain ⟨g,hgE⟩:∃ g,g=L.getD i .no:=⟨_,rfl⟩
    have HGL:Hid (g.len≤9223372036854775807):=by
     rw [hgE]
     obtain ⟨_,_,p9,c9,e9,_,h9,h10,_⟩:=hga.parts
     show _≤_
     unfold maxLen at h10
     omega
    have HFG:Hid (jag L nm=some g):=by rw [hgE];exact hfg
    rw [←hgE] at d0 d1 d2 d3 d4 d5 d8
    clear hgE hfg hd hga
    by_cases hdp:0<g.deep
    ·have hdp':¬ g.deep≤0:=by omega
     by_cases ho:0≤o∧o≠g.len
     ·have HE:Hid (res = -1):=by show _=_;rw [←HT.out,HDR.out];exact jlk HFG.out hdp ho
      obtain ⟨ho1,ho2⟩:=ho
      have t2:(o==(g.len:Int))=false:=by rw [beq_eq_false_iff_ne];exact ho2
      have t2':(o != (g.len:Int))=true:=by simp only [bne,t2];rfl
      clear ho2
      go_wp2_with fail
      go_ret
      exact ⟨by rw [HE.out];rfl,HBW3.out⟩
     ·have HE:Hid (jaq L (ns.drop (k+1)) g.len=res):=by show _=_;rw [←HT.out,HDR.out];exact (jng HFG.out hdp ho).symm
      have hor:¬ 0≤o∨(0≤o∧o=g.len):=by
       by_cases h1:0≤o
       ·exact .inr ⟨h1,Classical.byContradiction (fun h2=>ho ⟨h1,h2⟩)⟩
       ·exact .inl h1
      clear ho
      rcases hor with ho1|⟨ho1,ho2⟩
      ·go_wp2_with fail
       go_roundw
       case rel=>first|exact ⟨k+1,_,by go_num,rfl,by omega,HE.out,HB3.out⟩|((repeat apply Exists.intro);exact ⟨⟨k+1,_,by go_num,rfl,by omega,HE.out,HB3.out⟩,rfl⟩)
       case measure=>simp [intOf];omega
      ·have t2:(o==(g.len:Int))=true:=by rw [beq_iff_eq];exact ho2
       have t2':(o != (g.len:Int))=false:=by simp only [bne,t2];rfl
       clear ho2
       go_wp2_with fail
       go_roundw
       case rel=>first|exact ⟨k+1,_,by go_num,rfl,by omega,HE.out,HB3.out⟩|((repeat apply Exists.intro);exact ⟨⟨k+1,_,by go_num,rfl,by omega,HE.out,HB3.out⟩,rfl⟩)
       case measure=>simp [intOf];omega
    ·have hdp':g.deep≤0:=by omega
     have HE:Hid (jaq L (ns.drop (k+1)) o=res):=by show _=_;rw [←HT.out,HDR.out];exact (jll HFG.out hdp).symm
     clear hdp
     go_wp2_with fail
     go_roundw
     case rel=>first|exact ⟨k+1,_,by go_num,rfl,by omega,HE.out,HB3.out⟩|((repeat apply Exists.intro);exact ⟨⟨k+1,_,by go_num,rfl,by omega,HE.out,HB3.out⟩,rfl⟩)
     case measure=>simp [intOf];omega
   ·have HE:Hid (jaq L (ns.drop (k+1)) o=res):=by show _=_;rw [←HT.out,HDR.out];exact (jjg hfg).symm
    clear hfg
    go_wp2_with fail
    go_roundw
    case rel=>first|exact ⟨k+1,_,by go_num,rfl,by omega,HE.out,HB3.out⟩|((repeat apply Exists.intro);exact ⟨⟨k+1,_,by go_num,rfl,by omega,HE.out,HB3.out⟩,rfl⟩)
    case measure=>simp [intOf];omega
  ·have hke:k=ns.length:=by omega
   have HE:Hid (res=o):=by show _=_;rw [←HT.out,List.drop_of_length_le (by omega)];rfl
   go_wp2_with fail
   go_ret
   exact ⟨by rw [HE.out];rfl,HB2.out.trans (HB.out.mono HB2.out.size)⟩
end Go.Proofs.YtjmlfacbcfbhdaaGreatDoor
