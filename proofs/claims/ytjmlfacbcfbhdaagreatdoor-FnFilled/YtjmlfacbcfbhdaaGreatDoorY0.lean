/- What a mixed node weighs; its loop beside a cursor that turns. No conditions. -/
import Derived.Test.YtjmlfacbcfbhdaaGreatDoorYA
import Derived.Test.YtjmlfacbcfbhdaaGreatDoorRows
import GoSem.ClaimJoined
import Derived.JoinedTies
import Derived.Lib.LaidTab
import Derived.WalkKit
import Derived.ProofKit
import Derived.OwnWalk
import Derived.Below
import Derived.Laws.OwnMore
import Derived.Deep.Slices
import Derived.Laws.ResultCell
import Derived.Laws.AppendOwnNone
import Derived.Laws.CopyOwn
import Derived.Deep.OwnRows
import Derived.Deep.RegionLaw
import Derived.Deep.AppendLies
import Derived.Deep.QuietTactic
import Derived.BigQuiet
import Derived.Laws.BitsLemmas
import Derived.Lib.SmallJoins
set_option maxRecDepth 100000
set_option maxHeartbeats 8000000
namespace Go.Proofs.YtjmlfacbcfbhdaaGreatDoor
open Go.ChangeShapes Go.WideShapes Go.ChangeAt Go.RowKit
def hasB (xs:List Int) (n:Int):Bool:=xs.any fun x=>x==n
theorem jpH {xs:List Int} {n:Int} (h:∀ i,i<xs.length→(xs.getD i 0==n)=false):hasB xs n=false:=by
 unfold hasB
 rw [List.any_eq_false]
 intro x hx
 obtain ⟨i,hi,rfl⟩:=List.mem_iff_getElem.1 hx
 have:=h i hi
 rw [lgd,lgg hi,Option.getD_some] at this
 simp [this]
theorem jo2 {xs:List Int} {n:Int} (i:Nat) (hi:i<xs.length) (h:(xs.getD i 0==n)=true):hasB xs n=true:=by
 unfold hasB
 rw [List.any_eq_true]
 rw [lgd,lgg hi,Option.getD_some] at h
 exact ⟨_,List.getElem_mem hi,h⟩
def jay (xs:List Int) (i:Nat):Bool:=decide (0≤xs.getD i 0)&&(decide (i=0)||decide (xs.getD (i-1) 0<xs.getD i 0))
def setB (xs:List Int):Bool:=(List.range xs.length).all fun i=>jay xs i
theorem jm0 {xs:List Int} (h:∀ i,i<xs.length→jay xs i=true):setB xs=true:=by
 unfold setB
 rw [List.all_eq_true]
 intro i hi
 exact h i (by simpa using hi)
theorem jjP {xs:List Int} (i:Nat) (hi:i<xs.length) (h:jay xs i=false):setB xs=false:=by
 unfold setB
 rw [List.all_eq_false]
 exact ⟨i,by simpa using hi,by simp [h]⟩
def jce:List Int→Int→Nat
 | [],_=>0
 | x::r,n=>if x<n then jce r n+1 else 0
theorem joe (xs:List Int) (n:Int):jce xs n≤xs.length:=by
 induction xs with
 | nil=>simp [jce]
 | cons x r ih=>unfold jce;split <;> simp;omega
theorem jod (xs:List Int) (n:Int) (k:Nat) (hk:k≤xs.length) (hb:∀ i,i<k→xs.getD i 0<n) (ha:k<xs.length→¬ xs.getD k 0<n):jce xs n=k:=by
 induction xs generalizing k with
 | nil=>simp at hk;simp [jce,hk]
 | cons x r ih =>
  unfold jce
  match k with
  | 0 =>
   have h0:¬ x<n:=by simpa using ha (by simp)
   rw [if_neg h0]
  | k+1 =>
   have h0:x<n:=by simpa using hb 0 (by omega)
   rw [if_pos h0,ih k (by simpa using hk) (fun i hi=>by simpa using hb (i+1) (by omega)) (fun h=>by simpa using ha (by simpa using h))]
def jeF (xs:List Int) (n:Int):List Int:=if hasB xs n=true then xs else xs.take (jce xs n)++n::xs.drop (jce xs n)
theorem joA {xs:List Int} {n:Int} (h:hasB xs n=true):jeF xs n=xs:=by unfold jeF;rw [if_pos h]
theorem jpy {xs:List Int} {n:Int} (h:hasB xs n=false):jeF xs n=xs.take (jce xs n)++n::xs.drop (jce xs n):=by unfold jeF;rw [if_neg (by simp [h])]
theorem joz (xs:List Int) (n:Int):(jeF xs n).length≤xs.length+1:=by
 unfold jeF
 have:=joe xs n
 split
 ·omega
 ·simp;omega
def jcw (a b:List Int):Bool:=decide (a=b)
theorem jom {a b:List Int} (h:a.length≠b.length):jcw a b=false:=by
 unfold jcw
 rw [decide_eq_false_iff_not]
 intro e;exact h (by rw [e])
theorem jpk {a b:List Int} (i:Nat) (h:a.getD i 0≠b.getD i 0):jcw a b=false:=by
 unfold jcw
 rw [decide_eq_false_iff_not]
 intro e;exact h (by rw [e])
theorem jon {a b:List Int} (hl:a.length=b.length) (h:∀ i,i<a.length→a.getD i 0=b.getD i 0):jcw a b=true:=by
 unfold jcw
 rw [decide_eq_true_iff]
 apply List.ext_getElem hl
 intro i h1 h2
 have:=h i h1
 rwa [lgd,lgd,lgg h1,lgg h2] at this
theorem jhW (a:List Int):jcw a a=true:=by simp [jcw]
def Rd (w:World) (v:Value) (xs:List Int):Prop :=
 (v=.slice none 0 0∧xs=[])∨∃ b off cap,v=.slice (some ⟨b,off,none⟩) xs.length cap∧xs.length≤cap∧∀ j,j<xs.length→w.cell? ⟨b,off+j,none⟩=some (.int .i64 (xs.getD j 0))
theorem Rd.shape {w:World} {v:Value} {xs:List Int} (h:Rd w v xs) :
  ∃ a cap,v=.slice a xs.length cap∧∀ j,j<xs.length→∃ b off,a=some ⟨b,off,none⟩∧w.cell? ⟨b,off+j,none⟩=some (.int .i64 (xs.getD j 0)):=by
 rcases h with ⟨rfl,rfl⟩|⟨b,off,cap,rfl,_,hc⟩
 ·exact ⟨none,0,rfl,fun j hj=>by simp at hj⟩
 ·exact ⟨_,cap,rfl,fun j hj=>⟨b,off,rfl,hc j hj⟩⟩
theorem Rd.below {w w':World} {v:Value} {xs:List Int} (h:Rd w v xs) (hb:Below w.heap.size w w'):Rd w' v xs:=by
 rcases h with h|⟨b,off,cap,rfl,hl,hc⟩
 ·exact .inl h
 ·exact .inr ⟨b,off,cap,rfl,hl,fun j hj=>(hb.cell (wbl w _ (hc j hj))).trans (hc j hj)⟩
def Own (w:World) (base:Nat) (v:Value) (xs:List Int):Prop:=w.ownsRow base 3 1 v xs.length (xs.map (Value.int .i64))
theorem Own.rd {w:World} {base:Nat} {v:Value} {xs:List Int} (h:Own w base v xs):Rd w v xs:=by
 have h':=h
 rcases h.2 with ⟨rfl,hn⟩|⟨g,cap,cur,rfl,hbg,hg,hnc,_⟩
 ·exact .inl ⟨rfl,List.eq_nil_of_length_eq_zero hn⟩
 ·refine .inr ⟨g,0,cap,rfl,hnc,fun j hj=>?_⟩
  rw [Nat.zero_add,World.ownsRow.cellAt h' j (by omega)]
  simp [List.getElem?_eq_getElem hj]
theorem Own.mono {w:World} {base base':Nat} {v:Value} {xs:List Int} (h:Own w base v xs) (hb:base'≤base):Own w base' v xs:=by
 refine ⟨h.1,?_⟩
 rcases h.2 with h|⟨g,cap,cur,rfl,hbg,rest⟩
 ·exact .inl h
 ·exact .inr ⟨g,cap,cur,rfl,Nat.le_trans hb hbg,rest⟩
theorem jbx (w:World) (o:Obj):Below w.heap.size w (w.alloc o):=(brf _ _).alloc (nlr _) o
theorem jgX (xs:List Int) (k:Nat) (h:k<xs.length):xs.getD k 0=xs[k]:=by
 rw [lgd,lgg h,Option.getD_some]
inductive X where
 | no
 | mk (op at_ n:Int) (s:ByteArray) (set:List Int) (len:Nat) (kid:Nat→X)
namespace X
def op:X→Int | .no=>0 | .mk x _ _ _ _ _ _=>x
def at_:X→Int | .no=>0 | .mk _ x _ _ _ _ _=>x
def n:X→Int | .no=>0 | .mk _ _ x _ _ _ _=>x
def s:X→ByteArray | .no=>⟨#[]⟩ | .mk _ _ _ x _ _ _=>x
def set:X→List Int | .no=>[] | .mk _ _ _ _ x _ _=>x
def len:X→Nat | .no=>0 | .mk _ _ _ _ _ x _=>x
def kid:X→Nat→X | .no=>fun _=>.no | .mk _ _ _ _ _ _ x=>x
end X
instance : Inhabited X := ⟨.no⟩
def sumX (f:Nat→Nat):Nat→Nat
 | 0=>0
 | k+1=>sumX f k+f k
theorem jje (f:Nat→Nat) (j k:Nat) (h:j≤k):sumX f j≤sumX f k:=by
 induction k with
 | zero=>simp at h;subst h;exact nlr _
 | succ k ih =>
  rcases Nat.lt_or_ge j (k+1) with h1|h1
  ·have:=ih (by omega);simp only [sumX];omega
  ·have:j=k+1:=by omega
   subst this;exact nlr _
theorem jbo (f:Nat→Nat) (j k:Nat) (h:j<k):sumX f j+f j≤sumX f k:=jje f (j+1) k h
def X.count:X→Nat | .no=>1 | .mk _ _ _ _ _ len kid=>1+sumX (fun i=>(kid i).count) len
def X.weight:X→Nat | .no=>0 | .mk _ _ _ s set len kid=>s.size+(set.length+(len+sumX (fun i=>(kid i).weight) len))
theorem X.count_eq (t:X):t.count=1+sumX (fun i=>(t.kid i).count) t.len:=by cases t <;> rfl
theorem X.count_weight (t:X):t.count≤1+t.weight:=by
 induction t with
 | no=>simp [count]
 | mk op a n s set len kid ih =>
  unfold count weight
  have:∀ k,sumX (fun i=>(kid i).count) k≤k+sumX (fun i=>(kid i).weight) k:=by
   intro k
   induction k with
   | zero=>simp [sumX]
   | succ k ihk=>simp only [sumX];have:=ih k;omega
  have:=this len
  omega
structure Head6 (w:World) (b p:Nat) (t:X) (sv v:Value):Prop where
 c0:w.cell? ⟨b,p,none⟩=some (.int .i64 t.op)
 c1:w.cell? ⟨b,p+1,none⟩=some (.int .i64 t.at_)
 c2:w.cell? ⟨b,p+2,none⟩=some (.int .i64 t.n)
 c3:w.cell? ⟨b,p+3,none⟩=some (.string t.s)
 c4:w.cell? ⟨b,p+4,none⟩=some sv
 c5:w.cell? ⟨b,p+5,none⟩=some v
def X.InB (R:World→Value→List Int→Prop) (B:Nat) (w:World):X→Value→Value→Prop
 | .no,_,_=>False
 | .mk _ _ n s set len kid,sv,v=>(s.size≤maxLen∧(-9223372036854775808≤n∧n≤9223372036854775807)∧set.length≤maxLen)∧R w sv set ∧
  ((len=0∧∃ p cap,v=.slice p 0 cap) ∨
   ∃ (b o cap:Nat) (U V:Nat→Value),v=.slice (some ⟨b,o,none⟩) len cap∧B≤b∧len≤cap∧cap≤maxLen ∧
    ∀ i,i<len→Head6 w b (o+i*6) (kid i) (U i) (V i)∧(kid i).InB R B w (U i) (V i))
def XsB (R:World→Value→List Int→Prop) (B:Nat) (w:World) (len:Nat) (kid:Nat→X) (v:Value):Prop :=
 (len=0∧∃ p cap,v=.slice p 0 cap) ∨
  ∃ (b o cap:Nat) (U V:Nat→Value),v=.slice (some ⟨b,o,none⟩) len cap∧B≤b∧len≤cap∧cap≤maxLen ∧
   ∀ i,i<len→Head6 w b (o+i*6) (kid i) (U i) (V i)∧(kid i).InB R B w (U i) (V i)
theorem X.InB.xs {R:World→Value→List Int→Prop} {B:Nat} {w:World} {t:X} {sv v:Value} (h:t.InB R B w sv v):XsB R B w t.len t.kid v:=by
 cases t <;> unfold X.InB at h <;> first|exact h.elim|exact h.2.2
theorem X.InB.sets {R:World→Value→List Int→Prop} {B:Nat} {w:World} {t:X} {sv v:Value} (h:t.InB R B w sv v):R w sv t.set:=by
 cases t <;> unfold X.InB at h <;> first|exact h.elim|exact h.2.1
theorem X.InB.size {R:World→Value→List Int→Prop} {B:Nat} {w:World} {t:X} {sv v:Value} (h:t.InB R B w sv v):t.s.size≤maxLen:=by
 cases t <;> unfold X.InB at h <;> first|exact h.elim|exact h.1.1
theorem X.InB.num {R:World→Value→List Int→Prop} {B:Nat} {w:World} {t:X} {sv v:Value} (h:t.InB R B w sv v):-9223372036854775808≤t.n∧t.n≤9223372036854775807:=by
 cases t <;> unfold X.InB at h <;> first|exact h.elim|exact h.1.2.1
theorem X.InB.setLen {R:World→Value→List Int→Prop} {B:Nat} {w:World} {t:X} {sv v:Value} (h:t.InB R B w sv v):t.set.length≤maxLen:=by
 cases t <;> unfold X.InB at h <;> first|exact h.elim|exact h.1.2.2
theorem X.InB.mk' {R:World→Value→List Int→Prop} {B:Nat} {w:World} {op a n:Int} {s:ByteArray} {set:List Int} {len:Nat} {kid:Nat→X} {sv v:Value} (h0:s.size≤maxLen) (h1:-9223372036854775808≤n∧n≤9223372036854775807) (h2:set.length≤maxLen) (hs:R w sv set) (h:XsB R B w len kid v):(X.mk op a n s set len kid).InB R B w sv v:=by
 unfold X.InB;exact ⟨⟨h0,h1,h2⟩,hs,h⟩
theorem XsB.shape {R:World→Value→List Int→Prop} {B:Nat} {w:World} {len:Nat} {kid:Nat→X} {v:Value} (h:XsB R B w len kid v):∃ p cap,v=.slice p len cap:=by
 rcases h with ⟨rfl,p,cap,rfl⟩|⟨b,o,cap,U,V,rfl,_⟩
 ·exact ⟨_,_,rfl⟩
 ·exact ⟨_,_,rfl⟩
theorem Head6.kept {w w':World} {b p:Nat} {t:X} {sv v:Value} (h:Head6 w b p t sv v) (hk:∀ a u,a.block=b→w.cell? a=some u→w'.cell? a=some u):Head6 w' b p t sv v :=
 ⟨hk _ _ rfl h.c0,hk _ _ rfl h.c1,hk _ _ rfl h.c2,hk _ _ rfl h.c3,hk _ _ rfl h.c4,hk _ _ rfl h.c5⟩
theorem X.InB.kept {R R':World→Value→List Int→Prop} {B B':Nat} {w w':World} (hB:B'≤B) (hk:∀ a u,B≤a.block→w.cell? a=some u→w'.cell? a=some u) (hR:∀ v xs,R w v xs→R' w' v xs) (t:X):∀ {sv v:Value},t.InB R B w sv v→t.InB R' B' w' sv v:=by
 induction t with
 | no=>intro sv v h;exact h.elim
 | mk op a n s set len kid ih =>
  intro sv v h
  unfold X.InB at h ⊢
  refine ⟨h.1,hR _ _ h.2.1,?_⟩
  rcases h.2.2 with h0|⟨b,o,cap,U,V,h1,hb,h2,h3,h4⟩
  ·exact .inl h0
  ·exact .inr ⟨b,o,cap,U,V,h1,by omega,h2,h3,fun i hi=>⟨(h4 i hi).1.kept (fun a u ha=>hk a u (by omega)),ih i (h4 i hi).2⟩⟩
theorem XsB.kept {R R':World→Value→List Int→Prop} {B B':Nat} {w w':World} (hB:B'≤B) (hk:∀ a u,B≤a.block→w.cell? a=some u→w'.cell? a=some u) (hR:∀ v xs,R w v xs→R' w' v xs) {len:Nat} {kid:Nat→X} {v:Value} (h:XsB R B w len kid v):XsB R' B' w' len kid v:=by
 rcases h with h0|⟨b,o,cap,U,V,h1,hb,h2,h3,h4⟩
 ·exact .inl h0
 ·exact .inr ⟨b,o,cap,U,V,h1,by omega,h2,h3,fun i hi=>⟨(h4 i hi).1.kept (fun a u ha=>hk a u (by omega)),X.InB.kept hB hk hR _ (h4 i hi).2⟩⟩
theorem jat {w w':World} (hb:Below w.heap.size w w') (a:Addr) (u:Value) (h:w.cell? a=some u):w'.cell? a=some u :=
 (hb.cell (wbl w a h)).trans h
theorem Head6.below {w w':World} (hb:Below w.heap.size w w') {b p:Nat} {t:X} {sv v:Value} (h:Head6 w b p t sv v):Head6 w' b p t sv v:=h.kept (fun a u _=>jat hb a u)
def SetR (w:World) (v:Value) (xs:List Int):Prop :=
 ∃ a cap,v=.slice a xs.length cap∧∀ j,j<xs.length→∃ b off,a=some ⟨b,off,none⟩∧w.cell? ⟨b,off+j,none⟩=some (.int .i64 (xs.getD j 0))
def SetB (B:Nat) (w:World) (v:Value) (xs:List Int):Prop :=
 (v=.slice none 0 0∧xs=[])∨∃ b off cap,v=.slice (some ⟨b,off,none⟩) xs.length cap∧B≤b∧xs.length≤cap∧∀ j,j<xs.length→w.cell? ⟨b,off+j,none⟩=some (.int .i64 (xs.getD j 0))
theorem SetB.rd {B:Nat} {w:World} {v:Value} {xs:List Int} (h:SetB B w v xs):Rd w v xs:=by
 rcases h with h|⟨b,off,cap,h1,_,h2,h3⟩
 ·exact .inl h
 ·exact .inr ⟨b,off,cap,h1,h2,h3⟩
theorem SetB.r {B:Nat} {w:World} {v:Value} {xs:List Int} (h:SetB B w v xs):SetR w v xs:=h.rd.shape
theorem SetB.kept {B B':Nat} {w w':World} (hB:B'≤B) (hk:∀ a u,B≤a.block→w.cell? a=some u→w'.cell? a=some u) {v:Value} {xs:List Int} (h:SetB B w v xs):SetB B' w' v xs:=by
 rcases h with h|⟨b,off,cap,h1,hb,h2,h3⟩
 ·exact .inl h
 ·exact .inr ⟨b,off,cap,h1,by omega,h2,fun j hj=>hk _ _ (by exact hb) (h3 j hj)⟩
theorem SetR.shape {w:World} {v:Value} {xs:List Int} (h:SetR w v xs):∃ p cap,v=.slice p xs.length cap:=by
 obtain ⟨a,cap,e,_⟩:=h
 exact ⟨a,cap,e⟩
theorem SetB.shape {B:Nat} {w:World} {v:Value} {xs:List Int} (h:SetB B w v xs):∃ p cap,v=.slice p xs.length cap:=h.r.shape
theorem Own.setB {w:World} {base B:Nat} {v:Value} {xs:List Int} (h:Own w base v xs) (hB:B≤base):SetB B w v xs:=by
 have h':=h
 rcases h.2 with ⟨rfl,hn⟩|⟨g,cap,cur,rfl,hbg,hg,hnc,_⟩
 ·exact .inl ⟨rfl,List.eq_nil_of_length_eq_zero hn⟩
 ·refine .inr ⟨g,0,cap,rfl,by omega,hnc,fun j hj=>?_⟩
  rw [Nat.zero_add,World.ownsRow.cellAt h' j (by omega)]
  simp [List.getElem?_eq_getElem hj]
abbrev X.At (B:Nat) (w:World) (t:X) (sv v:Value):Prop:=t.InB (SetB B) B w sv v
abbrev XsAt (B:Nat) (w:World) (len:Nat) (kid:Nat→X) (v:Value):Prop:=XsB (SetB B) B w len kid v
theorem X.At.kept {B B':Nat} {w w':World} (hB:B'≤B) (hk:∀ a u,B≤a.block→w.cell? a=some u→w'.cell? a=some u) {t:X} {sv v:Value} (h:t.At B w sv v):t.At B' w' sv v:=X.InB.kept hB hk (fun _ _ h=>h.kept hB hk) t h
theorem XsAt.kept {B B':Nat} {w w':World} (hB:B'≤B) (hk:∀ a u,B≤a.block→w.cell? a=some u→w'.cell? a=some u) {len:Nat} {kid:Nat→X} {v:Value} (h:XsAt B w len kid v):XsAt B' w' len kid v:=XsB.kept hB hk (fun _ _ h=>h.kept hB hk) h
theorem X.At.below {B:Nat} {w w':World} (hb:Below w.heap.size w w') {t:X} {sv v:Value} (h:t.At B w sv v):t.At B w' sv v:=X.At.kept (nlr _) (fun a u _=>jat hb a u) h
theorem XsAt.below {B:Nat} {w w':World} (hb:Below w.heap.size w w') {len:Nat} {kid:Nat→X} {v:Value} (h:XsAt B w len kid v):XsAt B w' len kid v:=XsAt.kept (nlr _) (fun a u _=>jat hb a u) h
theorem XsB.at {R:World→Value→List Int→Prop} {B:Nat} {w:World} {len:Nat} {kid:Nat→X} {v:Value} (h:XsB R B w len kid v):∃ p cap,v=.slice p len cap∧len≤maxLen ∧
  ∀ i,i<len→∃ b o sv u,p=some ⟨b,o,none⟩∧Head6 w b (o+i*6) (kid i) sv u∧(kid i).InB R B w sv u:=by
 rcases h with ⟨rfl,p,cap,rfl⟩|⟨b,o,cap,U,V,rfl,hB,h1,h2,h3⟩
 ·exact ⟨p,cap,rfl,nzl _,fun i hi=>by omega⟩
 ·exact ⟨_,cap,rfl,Nat.le_trans h1 h2,fun i hi=>⟨b,o,U i,V i,rfl,h3 i hi⟩⟩
theorem newx (w:World) (o:Obj):Below w.heap.size w (w.alloc o):=(brf _ _).alloc (nlr _) o
abbrev XR:Type:=X×Value×Value
def jbP (q:XR):List Value:=[.int .i64 q.1.op,.int .i64 q.1.at_,.int .i64 q.1.n,.string q.1.s,q.2.1,q.2.2]
def jau (l:List XR):List Value:=l.flatMap jbP
theorem jdb (a b:List XR):jau (a++b)=jau a++jau b:=by simp [jau]
theorem jdc (l:List XR):(jau l).length=l.length*6:=by
 induction l with
 | nil=>rfl
 | cons t r ih=>simp only [jau,List.flatMap_cons,List.length_append,List.length_cons] at ih ⊢;rw [ih];simp [jbP];omega
def XKs (kid:Nat→X) (l:List XR):Prop:=∀ i q,l[i]? = some q→q.1=kid i
theorem XKs.nil (kid:Nat→X):XKs kid []:=fun i q h=>by simp at h
theorem XKs.snoc {kid:Nat→X} {l:List XR} (h:XKs kid l) (v:Value×Value):XKs kid (l++[(kid l.length,v)]):=by
 intro i q hq
 rcases Nat.lt_trichotomy i l.length with hi|hi|hi
 ·rw [List.getElem?_append_left hi] at hq;exact h i q hq
 ·subst hi;simp at hq;subst hq;rfl
 ·rw [lgn (by simp;omega)] at hq;cases hq
theorem joB (l:List XR) (junk:List Value):∀ (i:Nat) (q:XR),l[i]? = some q→∀ j,j<6→(jau l++junk)[i*6+j]? = (jbP q)[j]? := by
 induction l with
 | nil=>intro i q h;simp at h
 | cons x r ih =>
  intro i q h j hj
  have e:jau (x::r)++junk=jbP x++(jau r++junk):=by simp [jau]
  have hl:(jbP x).length=6:=rfl
  rw [e]
  cases i with
  | zero =>
   simp at h;subst h
   rw [List.getElem?_append_left (by omega)];congr 1;omega
  | succ i =>
   simp at h
   rw [List.getElem?_append_right (by omega),hl]
   have:=ih i q h j hj
   rw [←this];congr 1;omega
theorem set6 (l:List XR) (junk:List Value) (hj:6≤junk.length) (t:X) (sv v:Value) :
  ((((((jau l++junk).set (l.length*6) (.int .i64 t.op)).set (l.length*6+1) (.int .i64 t.at_)).set (l.length*6+2) (.int .i64 t.n)).set (l.length*6+3) (.string t.s)).set (l.length*6+4) sv).set (l.length*6+5) v=jau (l++[(t,sv,v)])++junk.drop 6:=by
 have hl:=jdc l
 have s:∀ (c:List Value) (j:Nat) (x:Value),(jau l++c).set (l.length*6+j) x=jau l++c.set j x:=by
  intro c j x
  rw [List.set_append_right _ _ (by omega),hl]
  congr 2;omega
 have s0:=s junk 0 (.int .i64 t.op)
 rw [Nat.add_zero] at s0
 rw [s0,s,s,s,s,s,jdb]
 match junk,hj with
 | a::b::c::d::e::f::r,_=>simp [jau,jbP]
theorem jaY {w w':World} {base e size n:Nat} {v:Value} {xs:List Value} (h:w.ownsRow base e size v n xs) (hb:Below w.heap.size w w'):w'.ownsRow base e size v n xs:=by
 refine ⟨h.1,?_⟩
 rcases h.2 with hn|⟨g,cap,cur,rfl,hbg,hgg,rest⟩
 ·exact .inl hn
 ·exact .inr ⟨g,cap,cur,rfl,hbg,(hb.block g (aes.1 hgg).1).trans hgg,rest⟩
theorem XsB.of_own {R:World→Value→List Int→Prop} {w:World} {base e B n:Nat} {v:Value} {kid:Nat→X} {l:List XR} (h:w.ownsRow base e 6 v n (jau l)) (hl:l.length=n) (hB:B≤base) (hk:XKs kid l) (hin:∀ q∈l,q.1.InB R B w q.2.1 q.2.2):XsB R B w n kid v:=by
 rcases h.2 with ⟨rfl,rfl⟩|⟨g,cap,cur,rfl,hbg,hgg,hc,hm,hs,ht⟩
 ·exact .inl ⟨rfl,_,_,rfl⟩
 ·refine .inr ⟨g,0,cap,fun i=>((l[i]?).getD (.no,.bool false,.bool false)).2.1,fun i=>((l[i]?).getD (.no,.bool false,.bool false)).2.2,rfl,by omega,hc,hm,fun i hi=>?_⟩
  have hi':i<l.length:=by omega
  have hq:l[i]? = some l[i]:=lgg hi'
  have hkid:=hk i _ hq
  have cell:∀ j,j<6→w.cell? ⟨g,0+i*6+j,none⟩=(jbP l[i])[j]? := by
   intro j hj
   have:=h.cellAt (i*6+j) (by omega)
   rw [Nat.zero_add,this]
   have:=joB l [] i _ hq j hj
   simpa using this
  simp only [hq,Option.getD_some]
  rw [←hkid]
  exact ⟨⟨cell 0 (by omega),cell 1 (by omega),cell 2 (by omega),cell 3 (by omega),cell 4 (by omega),cell 5 (by omega)⟩,hin _ (List.getElem_mem hi')⟩
theorem jcl {w w1 w2:World} {row:Option Nat} (h:w.grownBy w1 row) (g:w1.grownBy w2 row):w.grownBy w2 row :=
 ⟨g.os.trans h.os,g.tape.trans h.tape,g.output.trans h.output,Nat.le_trans h.size g.size,fun k hk hr=>(g.block k (nll hk h.size) hr).trans (h.block k hk hr)⟩
abbrev st6 (w:World) (g p:Nat) (t:X) (sv v:Value):World :=
 (((((w.setCell ⟨g,p,none⟩ (.int .i64 t.op)).setCell ⟨g,p+1,none⟩ (.int .i64 t.at_)).setCell ⟨g,p+2,none⟩ (.int .i64 t.n)).setCell ⟨g,p+3,none⟩ (.string t.s)).setCell ⟨g,p+4,none⟩ sv).setCell ⟨g,p+5,none⟩ v
theorem jpp {w:World} {base e g cap n:Nat} {l:List XR} {junk:List Value} (h:w.ownsRow base e 6 (.slice (some ⟨g,0,none⟩) n cap) n (jau l++junk)) (hj:6≤junk.length) (t:X) (sv v:Value) :
  (st6 w g (l.length*6) t sv v).ownsRow base e 6 (.slice (some ⟨g,0,none⟩) n cap) n (jau (l++[(t,sv,v)])++junk.drop 6)∧w.grownBy (st6 w g (l.length*6) t sv v) (some g):=by
 obtain ⟨q1,g1⟩:=h.stored (l.length*6) (.int .i64 t.op)
 obtain ⟨q2,g2⟩:=q1.stored (l.length*6+1) (.int .i64 t.at_)
 obtain ⟨q3,g3⟩:=q2.stored (l.length*6+2) (.int .i64 t.n)
 obtain ⟨q4,g4⟩:=q3.stored (l.length*6+3) (.string t.s)
 obtain ⟨q5,g5⟩:=q4.stored (l.length*6+4) sv
 obtain ⟨q6,g6⟩:=q5.stored (l.length*6+5) v
 rw [set6 l junk hj t sv v] at q6
 exact ⟨q6,jcl (jcl (jcl (jcl (jcl g1 g2) g3) g4) g5) g6⟩
theorem jjV {w w1:World} {o1 o2 o3:Obj} (hb:Below (((w.alloc o1).alloc o2).alloc o3).heap.size (((w.alloc o1).alloc o2).alloc o3) w1) :
  w1.heap[w.heap.size]? = some o1∧w1.heap[w.heap.size+1]? = some o2∧w1.heap[w.heap.size+1+1]? = some o3∧w.heap.size+3≤w1.heap.size∧Below w.heap.size w w1:=by
 have e1:(w.alloc o1).heap.size=w.heap.size+1:=by simp
 have e2:((w.alloc o1).alloc o2).heap.size=w.heap.size+1+1:=by simp
 have e3:(((w.alloc o1).alloc o2).alloc o3).heap.size=w.heap.size+1+1+1:=by simp
 have n3:=han ((w.alloc o1).alloc o2) o3
 have n2:=han (w.alloc o1) o2
 have n1:=han w o1
 rw [e2] at n3
 rw [e1] at n2
 refine ⟨?_,?_,?_,by have:=hb.size;omega,((newx w o1).trans (((newx _ o2).mono (by omega)).trans ((newx _ o3).mono (by omega)))).trans (hb.mono (by omega))⟩
 ·rw [hb.block _ (by omega),bha _ _ _ (by omega),bha _ _ _ (by omega)];exact n1
 ·rw [hb.block _ (by omega),bha _ _ _ (by omega)];exact n2
 ·rw [hb.block _ (by omega)];exact n3
theorem jae {fn:Func} {p:Tmp} {ty:TypeId} (h:fn.results=#[.cell p ty]) (tmps:Array Value) (P:Program) (w:World) :
  (results fn tmps).run P w=((asAddr (tmps.getD p undef)).run P w).andThen fun a w₁=>(loadVar ty a).run P w₁:=by
 simp only [results,h]
 simp [Sem.run_bind,Result.andThen]
theorem jcI:(Tryz.prog.info? 27).map (fun i=>(i.zero,i.size,i.bytes))=some (some (.agg #[.int .i64 0,.int .i64 0,.int .i64 0,.string ⟨#[]⟩,.slice none 0 0,.slice none 0 0]),6,88):=by kernel_rfl
theorem jca:(Tryz.prog.info? 3).map (fun i=>(i.zero,i.size,i.bytes))=some (some (.int .i64 0),1,8):=by kernel_rfl
theorem jaj {P:Program} (w:World) {ops:Array Oper} {rest:List Oper} {o:Oper} {a:Act} {Q:Exit→Act→World→Prop} (hgd:o.guard=none) (s x:Operand) (t:TypeId)
  (ho:o.op=.call {callee:=.builtin .append,args:=#[s,x],argTypes:=#[t,t]})
  (base:Nat) (e:TypeId) (i:TypeInfo) (z:Value) (size bytes:Nat) (ht:P.underlying t=some (.slice e)) (hi:P.info? e=some i) (hz:i.zero=some z)
  (hsize:i.size=size) (hby:i.bytes=bytes) (hzs:z.cells.size=size) (hsz:0<size)
  (v:Value) (n:Nat) (xs:List Value) (hs:a.eval s=v) (hown:w.ownsRow base e size v n xs)
  (ao:Option Addr) (m c:Nat) (news:List Value) (hx:a.eval x=.slice ao m c) (hl:news.length=m*size) (hnone:ao=none→m=0∧c=0) (hnews:∀ ad,ao=some ad→∀ j u,news[j]? = some u→w.cell? (ad.add j)=some u) (h1:∀ u∈news,u.oneCell'=true)
  (h63:n+m≤maxLen) (hbytes:(n+m)*bytes≤140737488355328) (hbase:base≤w.heap.size)
  (h:∀ v' w',Hid (w'.ownsRow base e size v' (n+m) (xs++news))→Hid (w.grownBy w' v.ownBlock)→wpList P ops Q rest (a.put o.dst v') w'):wpList P ops Q (o::rest) a w:=by
 cases ao with
 | some ad=>exact wpList_append_own w hgd s x t ho base e i z size bytes ht hi hz hsize hby hzs hsz v n xs hs hown ad m c news hx hl (hnews ad rfl) h1 h63 hbytes hbase fun v' w' h2 h3 _=>h v' w' h2 h3
 | none =>
  obtain ⟨rfl,rfl⟩:=hnone rfl
  have hn:news=[]:=List.eq_nil_of_length_eq_zero (by simpa using hl)
  subst hn
  refine wpList_append_own_none hgd s x t ho base e i size ht hi v n xs hs hown hx ?_
  have h1:w.ownsRow base e size v (n+0) (xs++[]):=by simpa using hown
  exact h v w h1 (World.grownBy.refl w v.ownBlock)
theorem job {w:World} {base g:Nat} {xs:List Int} (hg:w.heap[g]? = some (.cells (xs.map (Value.int .i64)).toArray 3 (0,0))) (hb:base≤g) (hl:xs.length≤maxLen) :
  Own w base (.slice (some ⟨g,0,none⟩) xs.length xs.length) xs :=
 ⟨by simp,.inr ⟨g,xs.length,_,rfl,hb,hg,nlr _,hl,by simp,by rw [Nat.mul_one];exact List.take_of_length_le (by simp)⟩⟩
theorem jaN (xs:List Int):∀ v∈xs.map (Value.int .i64),v.oneCell'=true:=by
 intro v hv
 obtain ⟨x,_,rfl⟩:=List.mem_map.1 hv
 rfl
theorem jmq (m:Nat):∃ Z:List Value,madeCells #[Value.int .i64 0] m=Z.toArray∧Z.length=m :=
 ⟨(madeCells #[Value.int .i64 0] m).toList,by simp,by rw [toList_madeCells_one];simp⟩
theorem jli {Z X:List Value} (h:Z.length=X.length):splice Z 0 X=X:=by
 unfold splice
 rw [Nat.zero_add,←h,List.drop_length];simp
def XOwn (w:World):X→Value→Value→List Nat→Prop
 | .no,_,_,_=>False
 | .mk _ _ n s set len kid,sv,v,S=>(s.size≤maxLen∧(-9223372036854775808≤n∧n≤9223372036854775807)∧set.length≤maxLen)∧Own w 0 sv set∧∃ S2,S=sv.ownBlock.toList++S2 ∧
  ((len=0∧v=.slice none 0 0∧S2=[]) ∨
   ∃ (g cap:Nat) (l:List XR) (SS:List (List Nat)),v=.slice (some ⟨g,0,none⟩) len cap∧w.ownsRow 0 27 6 (.slice (some ⟨g,0,none⟩) len cap) len (jau l)∧l.length=len∧SS.length=len∧XKs kid l∧S2=g::SS.flatten ∧
    ∀ i,i<len→∃ su u T,l[i]? = some (kid i,su,u)∧SS[i]? = some T∧XOwn w (kid i) su u T)
def XsOwn (w:World) (len:Nat) (kid:Nat→X) (v:Value) (S:List Nat):Prop :=
  (len=0∧v=.slice none 0 0∧S=[]) ∨
   ∃ (g cap:Nat) (l:List XR) (SS:List (List Nat)),v=.slice (some ⟨g,0,none⟩) len cap∧w.ownsRow 0 27 6 (.slice (some ⟨g,0,none⟩) len cap) len (jau l)∧l.length=len∧SS.length=len∧XKs kid l∧S=g::SS.flatten ∧
    ∀ i,i<len→∃ su u T,l[i]? = some (kid i,su,u)∧SS[i]? = some T∧XOwn w (kid i) su u T
theorem XOwn.parts {w:World} {t:X} {sv v:Value} {S:List Nat} (h:XOwn w t sv v S):Own w 0 sv t.set∧∃ S2,S=sv.ownBlock.toList++S2∧XsOwn w t.len t.kid v S2:=by
 cases t <;> unfold XOwn at h <;> first|exact h.elim|exact h.2
theorem XOwn.mk' {w:World} {op a n:Int} {s:ByteArray} {set:List Int} {len:Nat} {kid:Nat→X} {sv v:Value} {S2:List Nat} (h0:s.size≤maxLen∧(-9223372036854775808≤n∧n≤9223372036854775807)∧set.length≤maxLen) (hs:Own w 0 sv set) (h:XsOwn w len kid v S2):XOwn w (X.mk op a n s set len kid) sv v (sv.ownBlock.toList++S2):=by
 unfold XOwn;exact ⟨h0,hs,S2,rfl,h⟩
theorem jaM {w w':World} {base e size n:Nat} {v:Value} {xs:List Value} (h:w.ownsRow base e size v n xs) (hb:∀ g,v.ownBlock=some g→w'.heap[g]? = w.heap[g]?):w'.ownsRow base e size v n xs:=by
 refine ⟨h.1,?_⟩
 rcases h.2 with hn|⟨g,cap,cur,rfl,hbg,hgg,rest⟩
 ·exact .inl hn
 ·exact .inr ⟨g,cap,cur,rfl,hbg,(hb g rfl).trans hgg,rest⟩
theorem Own.sameX {w w':World} {base:Nat} {v:Value} {xs:List Int} (h:Own w base v xs) (hb:∀ g,v.ownBlock=some g→w'.heap[g]? = w.heap[g]?):Own w' base v xs:=jaM h hb
theorem jaD {SS:List (List Nat)} {i:Nat} {T:List Nat} (h:SS[i]? = some T) {g:Nat} (hg:g∈T):g∈SS.flatten:=List.mem_flatten.2 ⟨T,List.mem_of_getElem? h,hg⟩
theorem jbh {v:Value} {g:Nat} (h:v.ownBlock=some g):g∈v.ownBlock.toList:=by rw [h];simp
theorem XOwn.same {w w':World} (t:X):∀ {sv v:Value} {S:List Nat},XOwn w t sv v S→(∀ g∈S,w'.heap[g]? = w.heap[g]?)→XOwn w' t sv v S:=by
 induction t with
 | no=>intro sv v S h;exact h.elim
 | mk op a n s set len kid ih =>
  intro sv v S h hs
  unfold XOwn at h ⊢
  obtain ⟨h0,hset,S2,rfl,hr⟩:=h
  refine ⟨h0,hset.sameX (fun g hg=>hs g (List.mem_append_left _ (jbh hg))),S2,rfl,?_⟩
  rcases hr with h0|⟨g,cap,l,SS,h1,h2,h3,h4,h5,h6,h7⟩
  ·exact .inl h0
  ·refine .inr ⟨g,cap,l,SS,h1,jaM h2 (fun g' hg'=>?_),h3,h4,h5,h6,fun i hi=>?_⟩
   ·simp only [Value.ownBlock,Option.some.injEq] at hg'
    subst hg'
    exact hs g (by rw [h6];simp)
   ·obtain ⟨su,u,T,k1,k2,k3⟩:=h7 i hi
    exact ⟨su,u,T,k1,k2,ih i k3 (fun g' hg'=>hs g' (by rw [h6];exact List.mem_append_right _ (List.mem_cons_of_mem _ (jaD k2 hg'))))⟩
theorem XsOwn.same {w w':World} {len:Nat} {kid:Nat→X} {v:Value} {S:List Nat} (h:XsOwn w len kid v S) (hs:∀ g∈S,w'.heap[g]? = w.heap[g]?):XsOwn w' len kid v S:=by
 rcases h with h0|⟨g,cap,l,SS,h1,h2,h3,h4,h5,h6,h7⟩
 ·exact .inl h0
 ·refine .inr ⟨g,cap,l,SS,h1,jaM h2 (fun g' hg'=>?_),h3,h4,h5,h6,fun i hi=>?_⟩
  ·simp only [Value.ownBlock,Option.some.injEq] at hg'
   subst hg'
   exact hs g (by rw [h6];simp)
  ·obtain ⟨su,u,T,k1,k2,k3⟩:=h7 i hi
   exact ⟨su,u,T,k1,k2,k3.same _ (fun g' hg'=>hs g' (by rw [h6];exact List.mem_cons_of_mem _ (jaD k2 hg')))⟩
theorem Own.setB' {w:World} {base B:Nat} {v:Value} {xs:List Int} (h:Own w base v xs) (hB:∀ g,v.ownBlock=some g→B≤g):SetB B w v xs:=by
 have h':=h
 rcases h.2 with ⟨rfl,hn⟩|⟨g,cap,cur,rfl,hbg,hg,hnc,_⟩
 ·exact .inl ⟨rfl,List.eq_nil_of_length_eq_zero hn⟩
 ·refine .inr ⟨g,0,cap,rfl,hB g rfl,hnc,fun j hj=>?_⟩
  rw [Nat.zero_add,World.ownsRow.cellAt h' j (by omega)]
  simp [List.getElem?_eq_getElem hj]
theorem jdW {w:World} {base B e size n:Nat} {v:Value} {xs:List Value} (h:w.ownsRow base e size v n xs) (hB:∀ g,v.ownBlock=some g→B≤g):w.ownsRow B e size v n xs:=by
 refine ⟨h.1,?_⟩
 rcases h.2 with hn|⟨g,cap,cur,rfl,hbg,rest⟩
 ·exact .inl hn
 ·exact .inr ⟨g,cap,cur,rfl,hB g rfl,rest⟩
theorem XOwn.at' {w:World} {B:Nat} (t:X):∀ {sv v:Value} {S:List Nat},XOwn w t sv v S→(∀ g∈S,B≤g)→t.At B w sv v:=by
 induction t with
 | no=>intro sv v S h;exact h.elim
 | mk op a n s set len kid ih =>
  intro sv v S h hB
  unfold XOwn at h
  obtain ⟨h0,hset,S2,rfl,hr⟩:=h
  refine X.InB.mk' h0.1 h0.2.1 h0.2.2 (hset.setB' (fun g hg=>hB g (List.mem_append_left _ (jbh hg)))) ?_
  rcases hr with ⟨rfl,rfl,_⟩|⟨g,cap,l,SS,rfl,h2,h3,h4,h5,h6,h7⟩
  ·exact .inl ⟨rfl,_,_,rfl⟩
  ·refine XsB.of_own (jdW (B:=B) h2 (fun g' hg'=>?_)) h3 (nlr _) h5 (fun q hq=>?_)
   ·simp only [Value.ownBlock,Option.some.injEq] at hg'
    subst hg'
    exact hB g (by rw [h6];simp)
   obtain ⟨i,hi,rfl⟩:=List.mem_iff_getElem.1 hq
   obtain ⟨su,u,T,k1,k2,k3⟩:=h7 i (by omega)
   rw [lgg hi] at k1
   injection k1 with k1
   rw [k1]
   exact ih i k3 (fun g' hg'=>hB g' (by rw [h6];exact List.mem_append_right _ (List.mem_cons_of_mem _ (jaD k2 hg'))))
theorem XOwn.at0 {w:World} {t:X} {sv v:Value} {S:List Nat} (h:XOwn w t sv v S):t.At 0 w sv v:=h.at' _ (fun _ _=>nzl _)
theorem XsOwn.there {w:World} {len:Nat} {kid:Nat→X} {v:Value} {S:List Nat} (h:XsOwn w len kid v S) (hd:∀ i,i<len→∀ su u T,XOwn w (kid i) su u T→∀ g∈T,g<w.heap.size):∀ g∈S,g<w.heap.size:=by
 rcases h with ⟨_,_,rfl⟩|⟨g,cap,l,SS,rfl,h2,h3,h4,h5,rfl,h7⟩
 ·intro g hg;simp at hg
 ·intro g' hg'
  rcases List.mem_cons.1 hg' with rfl|hg'
  ·exact (h2.lt _ rfl).2
  ·obtain ⟨T,hT,hgT⟩:=List.mem_flatten.1 hg'
   obtain ⟨i,hi,rfl⟩:=List.mem_iff_getElem.1 hT
   obtain ⟨su,u,T',k1,k2,k3⟩:=h7 i (by omega)
   rw [lgg hi] at k2
   injection k2 with k2
   exact hd i (by omega) su u T' k3 g' (by rw [←k2];exact hgT)
theorem XOwn.there {w:World} (t:X):∀ {sv v:Value} {S:List Nat},XOwn w t sv v S→∀ g∈S,g<w.heap.size:=by
 induction t with
 | no=>intro sv v S h;exact h.elim
 | mk op a n s set len kid ih =>
  intro sv v S h g hg
  obtain ⟨hset,S2,rfl,hr⟩:=h.parts
  rcases lma.1 hg with hg|hg
  ·simp only [Option.mem_toList] at hg
   exact (World.ownsRow.lt hset g hg).2
  ·exact (show XsOwn w len kid v S2 from hr).there (fun i _ su u T k=>ih i k) g hg
structure XAcc (B:Nat) (w:World) (kid:Nat→X) (l:List XR) (SS:List (List Nat)):Prop where
 len:SS.length=l.length
 ks:XKs kid l
 each:∀ i,i<l.length→∃ su u T,l[i]? = some (kid i,su,u)∧SS[i]? = some T∧XOwn w (kid i) su u T
 nd:SS.flatten.Nodup
 ge:∀ x∈SS.flatten,B≤x
theorem XAcc.nil (B:Nat) (w:World) (kid:Nat→X):XAcc B w kid [] []:=⟨rfl,XKs.nil _,fun i hi=>by simp at hi,by simp,by simp⟩
theorem XAcc.lt {B:Nat} {w:World} {kid:Nat→X} {l:List XR} {SS:List (List Nat)} (h:XAcc B w kid l SS):∀ x∈SS.flatten,x<w.heap.size:=by
 intro x hx
 obtain ⟨T,hT,hxT⟩:=List.mem_flatten.1 hx
 obtain ⟨i,hi,rfl⟩:=List.mem_iff_getElem.1 hT
 obtain ⟨su,u,T',k1,k2,k3⟩:=h.each i (by rw [←h.len];exact hi)
 rw [lgg hi] at k2
 injection k2 with k2
 exact k3.there _ x (by rw [←k2];exact hxT)
theorem XAcc.same {B:Nat} {w w':World} {kid:Nat→X} {l:List XR} {SS:List (List Nat)} (h:XAcc B w kid l SS) (hs:∀ x,B≤x→x<w.heap.size→w'.heap[x]? = w.heap[x]?):XAcc B w' kid l SS :=
 ⟨h.len,h.ks,fun i hi=>by
  obtain ⟨su,u,T,k1,k2,k3⟩:=h.each i hi
  exact ⟨su,u,T,k1,k2,k3.same _ (fun x hx=>hs x (h.ge x (jaD k2 hx)) (h.lt x (jaD k2 hx)))⟩,h.nd,h.ge⟩
theorem XAcc.snoc {B:Nat} {w:World} {kid:Nat→X} {l:List XR} {SS:List (List Nat)} (h:XAcc B w kid l SS) {su u:Value} {T:List Nat} (hv:XOwn w (kid l.length) su u T) (hn:T.Nodup) (hge:∀ x∈T,B≤x) (hd:∀ x∈T,x ∉ SS.flatten):XAcc B w kid (l++[(kid l.length,su,u)]) (SS++[T]):=by
 refine ⟨by simp [h.len],h.ks.snoc (su,u),fun i hi=>?_,?_,?_⟩
 ·rcases Nat.lt_or_ge i l.length with h1|h1
  ·obtain ⟨su',u',T',k1,k2,k3⟩:=h.each i h1
   exact ⟨su',u',T',by rw [List.getElem?_append_left h1];exact k1,by rw [List.getElem?_append_left (by rw [h.len];exact h1)];exact k2,k3⟩
  ·have hi':i=l.length:=by simp at hi;omega
   subst hi'
   exact ⟨su,u,T,by simp,by rw [←h.len];simp,hv⟩
 ·rw [List.flatten_append]
  simp only [List.flatten_cons,List.flatten_nil,List.append_nil]
  exact List.nodup_append.2 ⟨h.nd,hn,fun a ha b hb e=>hd b hb (e ▸ ha)⟩
 ·intro x hx
  rw [List.flatten_append] at hx
  simp only [List.flatten_cons,List.flatten_nil,List.append_nil] at hx
  rcases lma.1 hx with hx|hx
  ·exact h.ge x hx
  ·exact hge x hx
structure XBuild (B:Nat) (w:World) (kid:Nat→X) (k:Nat) (lv:Value) (la:List XR) (SS:List (List Nat)):Prop where
 own:w.ownsRow 0 27 6 lv k (jau la)
 num:la.length=k
 rows:XAcc B w kid la SS
 out:∀ g,lv.ownBlock=some g→g ∉ SS.flatten∧B≤g
theorem XBuild.nil (B:Nat) (w:World) (kid:Nat→X):XBuild B w kid 0 (.slice none 0 0) [] [] :=
 ⟨⟨rfl,.inl ⟨rfl,rfl⟩⟩,rfl,XAcc.nil _ _ _,fun g h=>by simp [Value.ownBlock] at h⟩
theorem XBuild.same {B:Nat} {w w':World} {kid:Nat→X} {k:Nat} {lv:Value} {la:List XR} {SS:List (List Nat)} (h:XBuild B w kid k lv la SS) (hs:∀ x,B≤x→x<w.heap.size→w'.heap[x]? = w.heap[x]?):XBuild B w' kid k lv la SS :=
 ⟨jaM h.own (fun g hg=>hs g (h.out g hg).2 (h.own.lt g hg).2),h.num,h.rows.same hs,h.out⟩
theorem XBuild.app {B:Nat} {w w3:World} {kid:Nat→X} {k:Nat} {lv su v:Value} {la:List XR} {SS:List (List Nat)} {T:List Nat} {o:Obj} {g cap:Nat} (h:XBuild B w kid k lv la SS) (hd:XOwn w (kid k) su v T) (hT:T.Nodup) (hTS:∀ x∈T,x ∉ SS.flatten) (hTl:∀ x∈T,lv.ownBlock≠some x) (hTB:∀ x∈T,B≤x) (hB:B≤w.heap.size)
  (hown:w3.ownsRow 0 27 6 (.slice (some ⟨g,0,none⟩) (k+1) cap) (k+1) (jau la++jbP (kid k,su,v))) (hg:(w.alloc o).grownBy w3 lv.ownBlock) (hat:lv.ownBlock=some g∨g=w.heap.size+1) :
  XBuild B w3 kid (k+1) (.slice (some ⟨g,0,none⟩) (k+1) cap) (la++[(kid k,su,v)]) (SS++[T]):=by
 have hlt:=h.rows.lt
 have hTt:=hd.there
 have hsz:(w.alloc o).heap.size=w.heap.size+1:=by simp
 have keep:∀ x,x<w.heap.size→lv.ownBlock≠some x→w3.heap[x]? = w.heap[x]? := fun x hx hne =>
  (hg.block x (by omega) (fun e=>hne e.symm)).trans (bha w o x hx)
 have hfl:(SS++[T]).flatten=SS.flatten++T:=by simp
 have hd':XOwn w (kid la.length) su v T:=by rw [h.num];exact hd
 have a1:=h.rows.snoc hd' hT hTB hTS
 rw [h.num] at a1
 refine ⟨by rw [jdb];exact hown,by simp [h.num],⟨a1.len,a1.ks,fun i hi=>?_,a1.nd,a1.ge⟩,?_⟩
 ·obtain ⟨su',u',T',k1,k2,k3⟩:=a1.each i hi
  refine ⟨su',u',T',k1,k2,k3.same _ (fun x hx=>keep x (k3.there _ x hx) (fun e=>?_))⟩
  have hx':=jaD k2 hx
  rw [hfl,lma] at hx'
  exact hx'.elim (h.out x e).1 (fun hx=>hTl x hx e)
 ·intro x hx
  simp only [Value.ownBlock,Option.some.injEq] at hx
  subst hx
  rw [hfl,lma]
  rcases hat with hat|hat
  ·exact ⟨fun hx=>hx.elim (h.out g hat).1 (fun hx=>hTl g hx hat),(h.out g hat).2⟩
  ·refine ⟨fun hx=>?_,by omega⟩
   rcases hx with hx|hx
   ·have:=hlt g hx;omega
   ·have:=hTt g hx;omega
theorem XBuild.xsown {B:Nat} {w:World} {kid:Nat→X} {k:Nat} {lv:Value} {la:List XR} {SS:List (List Nat)} (h:XBuild B w kid k lv la SS):∃ S,XsOwn w k kid lv S∧S.Nodup∧∀ x∈S,B≤x:=by
 rcases h.own.2 with ⟨h1,h2⟩|⟨g,cap,cur,h1,hb,hg,hc,hm,hs,ht⟩
 ·exact ⟨[],.inl ⟨h2,h1,rfl⟩,by simp,fun x hx=>by simp at hx⟩
 ·subst h1
  refine ⟨g::SS.flatten,.inr ⟨g,cap,la,SS,rfl,h.own,h.num,by rw [h.rows.len];exact h.num,h.rows.ks,rfl,fun i hi=>h.rows.each i (by rw [h.num];exact hi)⟩,List.nodup_cons.2 ⟨(h.out g rfl).1,h.rows.nd⟩,fun x hx=>?_⟩
  rcases List.mem_cons.1 hx with rfl|hx
  ·exact (h.out x rfl).2
  ·exact h.rows.ge x hx
def Six (w:World) (g:Nat) (a b c:Int) (s:ByteArray) (u v:Value) (ty:TypeId):Prop:=w.heap[g]? = some (.cells #[.int .i64 a,.int .i64 b,.int .i64 c,.string s,u,v] ty (0,0))
theorem Six.lt {w:World} {g:Nat} {a b c:Int} {s:ByteArray} {u v:Value} {ty:TypeId} (h:Six w g a b c s u v ty):g<w.heap.size:=(aes.1 h).1
theorem Six.below {w w':World} {g:Nat} {a b c:Int} {s:ByteArray} {u v:Value} {ty:TypeId} (h:Six w g a b c s u v ty) (hb:Below w.heap.size w w'):Six w' g a b c s u v ty:=(hb.block _ h.lt).trans h
theorem Six.cells {w:World} {g:Nat} {a b c:Int} {s:ByteArray} {u v:Value} {ty:TypeId} (h:Six w g a b c s u v ty) :
  w.cell? ⟨g,0,none⟩=some (.int .i64 a)∧w.cell? ⟨g,1,none⟩=some (.int .i64 b)∧w.cell? ⟨g,2,none⟩=some (.int .i64 c)∧w.cell? ⟨g,3,none⟩=some (.string s)∧w.cell? ⟨g,4,none⟩=some u∧w.cell? ⟨g,5,none⟩=some v :=
 ⟨crw w g 0 _ _ _ h,crw w g 1 _ _ _ h,crw w g 2 _ _ _ h,crw w g 3 _ _ _ h,crw w g 4 _ _ _ h,crw w g 5 _ _ _ h⟩
theorem Six.fr {w:World} {g:Nat} {a b c:Int} {s:ByteArray} {u v:Value} {ty:TypeId} (h:Six w g a b c s u v ty) (j:Nat):w.frozen? ⟨g,j,none⟩=false:=fzr w g j _ _ h
theorem Six.set4 {w:World} {g:Nat} {a b c:Int} {s:ByteArray} {u v:Value} {ty:TypeId} (h:Six w g a b c s u v ty) (u':Value):Six (w.setCell ⟨g,4,none⟩ u') g a b c s u' v ty:=heap_setCell_same w g 4 _ _ u' h
theorem Six.set5 {w:World} {g:Nat} {a b c:Int} {s:ByteArray} {u v:Value} {ty:TypeId} (h:Six w g a b c s u v ty) (v':Value):Six (w.setCell ⟨g,5,none⟩ v') g a b c s u v' ty:=heap_setCell_same w g 5 _ _ v' h
abbrev put6 (w:World) (g:Nat) (a b c:Int) (s:ByteArray) (u v:Value):World :=
 (((((w.setCell ⟨g,0,none⟩ (.int .i64 a)).setCell ⟨g,1,none⟩ (.int .i64 b)).setCell ⟨g,2,none⟩ (.int .i64 c)).setCell ⟨g,3,none⟩ (.string s)).setCell ⟨g,4,none⟩ u).setCell ⟨g,5,none⟩ v
theorem jaZ (w:World) (g:Nat) (a b c:Int) (s:ByteArray) (u v:Value) (x:Nat) (hx:x≠g):(put6 w g a b c s u v).heap[x]? = w.heap[x]? := by
 unfold put6
 rw [bhs _ _ _ _ (by exact hx),bhs _ _ _ _ (by exact hx),bhs _ _ _ _ (by exact hx),bhs _ _ _ _ (by exact hx),bhs _ _ _ _ (by exact hx),bhs _ _ _ _ (by exact hx)]
theorem jbs {B:Nat} {w0 w:World} (hb:Below B w0 w) (g:Nat) (hg:B≤g) (a b c:Int) (s:ByteArray) (u v:Value):Below B w0 (put6 w g a b c s u v) :=
 (((((hb.setCell hg _).setCell hg _).setCell hg _).setCell hg _).setCell hg _).setCell hg _
def Five (w:World) (g:Nat) (a b c:Int) (s:ByteArray) (v:Value) (ty:TypeId):Prop:=w.heap[g]? = some (.cells #[.int .i64 a,.int .i64 b,.int .i64 c,.string s,v] ty (0,0))
theorem Five.lt {w:World} {g:Nat} {a b c:Int} {s:ByteArray} {v:Value} {ty:TypeId} (h:Five w g a b c s v ty):g<w.heap.size:=(aes.1 h).1
theorem Five.cells {w:World} {g:Nat} {a b c:Int} {s:ByteArray} {v:Value} {ty:TypeId} (h:Five w g a b c s v ty) :
  w.cell? ⟨g,0,none⟩=some (.int .i64 a)∧w.cell? ⟨g,1,none⟩=some (.int .i64 b)∧w.cell? ⟨g,2,none⟩=some (.int .i64 c)∧w.cell? ⟨g,3,none⟩=some (.string s)∧w.cell? ⟨g,4,none⟩=some v :=
 ⟨crw w g 0 _ _ _ h,crw w g 1 _ _ _ h,crw w g 2 _ _ _ h,crw w g 3 _ _ _ h,crw w g 4 _ _ _ h⟩
theorem Five.fr {w:World} {g:Nat} {a b c:Int} {s:ByteArray} {v:Value} {ty:TypeId} (h:Five w g a b c s v ty) (j:Nat):w.frozen? ⟨g,j,none⟩=false:=fzr w g j _ _ h
abbrev put5 (w:World) (g:Nat) (a b c:Int) (s:ByteArray) (v:Value):World :=
 ((((w.setCell ⟨g,0,none⟩ (.int .i64 a)).setCell ⟨g,1,none⟩ (.int .i64 b)).setCell ⟨g,2,none⟩ (.int .i64 c)).setCell ⟨g,3,none⟩ (.string s)).setCell ⟨g,4,none⟩ v
theorem jk3 (w:World) (g:Nat) (a b c:Int) (s:ByteArray) (v:Value) (x:Nat) (hx:x≠g):(put5 w g a b c s v).heap[x]? = w.heap[x]? := by
 unfold put5
 rw [bhs _ _ _ _ (by exact hx),bhs _ _ _ _ (by exact hx),bhs _ _ _ _ (by exact hx),bhs _ _ _ _ (by exact hx),bhs _ _ _ _ (by exact hx)]
theorem twoX {w w1:World} {o1 o2:Obj} (hb:Below ((w.alloc o1).alloc o2).heap.size ((w.alloc o1).alloc o2) w1) :
  w1.heap[w.heap.size]? = some o1∧w1.heap[w.heap.size+1]? = some o2∧w.heap.size+2≤w1.heap.size∧Below w.heap.size w w1:=by
 have e1:(w.alloc o1).heap.size=w.heap.size+1:=by simp
 have e2:((w.alloc o1).alloc o2).heap.size=w.heap.size+1+1:=by simp
 have n2:=han (w.alloc o1) o2
 have n1:=han w o1
 rw [e1] at n2
 refine ⟨?_,?_,by have:=hb.size;omega,((newx w o1).trans ((newx _ o2).mono (by omega))).trans (hb.mono (by omega))⟩
 ·rw [hb.block _ (by omega),bha _ _ _ (by omega)];exact n1
 ·rw [hb.block _ (by omega)];exact n2
structure Ent (T:Type) where
 len:Nat
 kid:Nat→T
 v:Value
abbrev RowQ (T:Type):Type:=World→Nat→(Nat→T)→Value→List Nat→Prop
def Filled {T:Type} (Q:RowQ T) (w:World):List (Ent T)→List (List Nat)→Prop
 | [],[]=>True
 | e::es,S::SS=>Q w e.len e.kid e.v S∧Filled Q w es SS
 | _,_=>False
theorem Filled.append {T:Type} {Q:RowQ T} {w:World} {a b:List (Ent T)} {A B:List (List Nat)} (h1:Filled Q w a A) (h2:Filled Q w b B):Filled Q w (a++b) (A++B):=by
 induction a generalizing A with
 | nil=>cases A with
  | nil=>exact h2
  | cons x xs=>exact h1.elim
 | cons e es ih=>cases A with
  | nil=>exact h1.elim
  | cons x xs=>exact ⟨h1.1,ih h1.2⟩
theorem Filled.parts {T:Type} {Q:RowQ T} {w:World} {a b:List (Ent T)} {SS:List (List Nat)} (h:Filled Q w (a++b) SS):∃ A B,SS=A++B∧Filled Q w a A∧Filled Q w b B:=by
 induction a generalizing SS with
 | nil=>exact ⟨[],SS,rfl,trivial,h⟩
 | cons e es ih=>cases SS with
  | nil=>exact h.elim
  | cons x xs =>
   obtain ⟨A,B,rfl,h1,h2⟩:=ih h.2
   exact ⟨x::A,B,rfl,⟨h.1,h1⟩,h2⟩
def Wand {T:Type} (Q:RowQ T) (w:World) (R:List Nat) (es:List (Ent T)) (P:World→List Nat→Prop):Prop :=
 ∀ (w':World) (SS:List (List Nat)),(∀ x∈R,w'.heap[x]? = w.heap[x]?)→Filled Q w' es SS→∃ S,P w' S∧S.Perm (R++SS.flatten)
theorem Wand.same {T:Type} {Q:RowQ T} {w w1:World} {R:List Nat} {es:List (Ent T)} {P:World→List Nat→Prop} (h:Wand Q w R es P) (hs:∀ x∈R,w1.heap[x]? = w.heap[x]?):Wand Q w1 R es P :=
 fun w' SS h1 h2=>h w' SS (fun x hx=>(h1 x hx).trans (hs x hx)) h2
theorem Wand.start {T:Type} (Q:RowQ T) (w:World) (e:Ent T):Wand Q w [] [e] (fun w' S=>Q w' e.len e.kid e.v S):=by
 intro w' SS _ h2
 cases SS with
 | nil=>exact h2.elim
 | cons x xs=>cases xs with
  | nil=>exact ⟨x,h2.1,by simp⟩
  | cons y ys=>exact h2.2.elim
theorem Wand.done {T:Type} {Q:RowQ T} {w:World} {R:List Nat} {P:World→List Nat→Prop} (h:Wand Q w R [] P):∃ S,P w S∧S.Perm R:=by
 obtain ⟨S,h1,h2⟩:=h w [] (fun _ _=>rfl) trivial
 exact ⟨S,h1,by simpa using h2⟩
theorem Wand.next {T:Type} {Q:RowQ T} {w:World} {R Ri:List Nat} {es en:List (Ent T)} {e:Ent T} {g:Nat} {P Pi:World→List Nat→Prop} (h:Wand Q w R (es++[e]) P) (hi:Wand Q w Ri en Pi)
  (hQ:∀ w' S,w'.heap[g]? = w.heap[g]?→Pi w' S→Q w' e.len e.kid e.v (g::S)):Wand Q w (R++g::Ri) (es++en) P:=by
 intro w' SS h1 h2
 obtain ⟨A,B,rfl,hA,hB⟩:=h2.parts
 obtain ⟨Si,hPi,hSi⟩:=hi w' B (fun x hx=>h1 x (by simp [hx])) hB
 obtain ⟨S,hP,hS⟩:=h w' (A++[g::Si]) (fun x hx=>h1 x (by simp [hx])) (hA.append (b:=[e]) (B:=[g::Si]) ⟨hQ w' Si (h1 g (by simp)) hPi,trivial⟩)
 refine ⟨S,hP,hS.trans ?_⟩
 rw [List.perm_iff_count] at hSi ⊢
 intro x
 have:=hSi x
 simp only [List.flatten_append,List.flatten_cons,List.flatten_nil,List.append_nil,List.count_append,List.count_cons] at this ⊢
 omega
theorem Wand.more {T:Type} {Q:RowQ T} {w:World} {R Rn:List Nat} {es en:List (Ent T)} {P P':World→List Nat→Prop} (h:Wand Q w R es P) (hn:∀ w' S SS,(∀ x∈Rn,w'.heap[x]? = w.heap[x]?)→P w' S→Filled Q w' en SS→P' w' (S++(Rn++SS.flatten))):Wand Q w (R++Rn) (es++en) P':=by
 intro w' SS h1 h2
 obtain ⟨A,B,rfl,hA,hB⟩:=h2.parts
 obtain ⟨S,hP,hS⟩:=h w' A (fun x hx=>h1 x (by simp [hx])) hA
 refine ⟨_,hn w' S B (fun x hx=>h1 x (by simp [hx])) hP hB,?_⟩
 rw [List.perm_iff_count] at hS ⊢
 intro x
 have:=hS x
 simp only [List.flatten_append,List.count_append] at this ⊢
 omega
structure Job (A:Type) where
 len:Nat
 kid:Nat→A
 fv:Value
 g:Nat
def Job.tv {A:Type} (e:Job A):Value:=.slice (some ⟨e.g,0,none⟩) e.len e.len
def Job.cells {A:Type} (e:Job A):List Value:=[e.fv,e.tv]
def Job.ent {A T:Type} (f:A→T) (e:Job A):Ent T:=⟨e.len,fun i=>f (e.kid i),e.tv⟩
def jc0 {A:Type} (st:List (Job A)):List Value:=st.flatMap Job.cells
theorem jeK {A:Type} (a b:List (Job A)):jc0 (a++b)=jc0 a++jc0 b:=by simp [jc0]
theorem jc1 {A:Type} (st:List (Job A)):(jc0 st).length=st.length*2:=by
 induction st with
 | nil=>rfl
 | cons t r ih=>simp only [jc0,List.flatMap_cons,List.length_append,List.length_cons] at ih ⊢;rw [ih];simp [Job.cells];omega
def sumJ (f:Nat→Nat):Nat→Nat
 | 0=>0
 | k+1=>sumJ f k+f k
def Job.total {A:Type} (count:A→Nat) (e:Job A):Nat:=sumJ (fun i=>count (e.kid i)) e.len
def jbu {A:Type} (count:A→Nat) (st:List (Job A)):Nat:=(st.map (Job.total count)).sum
theorem jbe {A:Type} (count:A→Nat) (a b:List (Job A)):jbu count (a++b)=jbu count a+jbu count b:=by simp [jbu]
theorem jdq {A:Type} (count:A→Nat) (e:Job A):jbu count [e]=e.total count:=by simp [jbu]
theorem jjU (f:Nat→Nat) (hf:∀ i,1≤f i) (k:Nat):k≤sumJ f k:=by
 induction k with
 | zero=>exact nlr _
 | succ k ih=>simp only [sumJ];have:=hf k;omega
theorem jpr (f:Nat→Nat) (j k:Nat) (h:j≤k):sumJ f j≤sumJ f k:=by
 induction k with
 | zero=>simp at h;subst h;exact nlr _
 | succ k ih =>
  rcases Nat.lt_or_ge j (k+1) with h1|h1
  ·have:=ih (by omega);simp only [sumJ];omega
  ·have:j=k+1:=by omega
   subst this;exact nlr _
theorem jpq (f:Nat→Nat) (j k:Nat) (h:j<k):f j≤sumJ f k:=by
 induction k with
 | zero=>omega
 | succ k ih =>
  simp only [sumJ]
  rcases Nat.lt_or_ge j k with h1|h1
  ·have:=ih h1;omega
  ·obtain rfl:j=k:=by omega
   omega
theorem jgC {A:Type} (count:A→Nat) (hc:∀ a,1≤count a) (st:List (Job A)) (h:∀ e∈st,0<e.len):st.length≤jbu count st:=by
 induction st with
 | nil=>simp
 | cons e r ih =>
  have h1:=ih (fun x hx=>h x (List.mem_cons_of_mem _ hx))
  have h2:=jjU (fun i=>count (e.kid i)) (fun i=>hc _) e.len
  have h3:=h e (List.mem_cons_self ..)
  simp only [jbu,List.map_cons,List.sum_cons,List.length_cons,Job.total] at h1 ⊢
  omega
structure Fr (C:List Nat) (w w':World):Prop where
 os:w'.os=w.os
 tape:w'.tape=w.tape
 output:w'.output=w.output
 size:w.heap.size≤w'.heap.size
 block:∀ g,g<w.heap.size→g ∉ C→w'.heap[g]? = w.heap[g]?
theorem Fr.refl (C:List Nat) (w:World):Fr C w w:=⟨rfl,rfl,rfl,nlr _,fun _ _ _=>rfl⟩
theorem Fr.trans {C:List Nat} {w w1 w2:World} (h:Fr C w w1) (h2:Fr C w1 w2):Fr C w w2 :=
 ⟨h2.os.trans h.os,h2.tape.trans h.tape,h2.output.trans h.output,Nat.le_trans h.size h2.size,fun g a b=>(h2.block g (nll a h.size) b).trans (h.block g a b)⟩
theorem Fr.below {w w':World} (h:Below w.heap.size w w') (C:List Nat):Fr C w w':=⟨h.os,h.tape,h.output,h.size,fun g a _=>h.block g a⟩
theorem Fr.grown {w w':World} {r:Option Nat} {C:List Nat} (h:w.grownBy w' r) (hg:∀ g∈r.toList,g∈C):Fr C w w':=⟨h.os,h.tape,h.output,h.size,fun k a b=>h.block k a (fun e=>b (hg k (by rw [←e];simp)))⟩
structure Env (Kp:World→Prop) (New:Nat→Prop):Prop where
 fr:∀ {C:List Nat} {W W':World},Kp W→Fr C W W'→(∀ x∈C,New x)→Kp W'
 new:∀ {W:World} {x:Nat},Kp W→W.heap.size≤x→New x
structure Kept (w:World) (R0 TB:Nat) (oR oT:Obj) (W:World):Prop where
 bel:Below w.heap.size w W
 res:W.heap[R0]? = some oR
 top:W.heap[TB]? = some oT
def NewB (w:World) (R0 TB:Nat) (x:Nat):Prop:=w.heap.size≤x∧x≠R0∧x≠TB
theorem Kept.env (w:World) (R0 TB:Nat) (oR oT:Obj):Env (Kept w R0 TB oR oT) (NewB w R0 TB) where
 fr:=fun {C W W'} h f hC=>⟨⟨f.os.trans h.bel.os,f.tape.trans h.bel.tape,f.output.trans h.bel.output,Nat.le_trans h.bel.size f.size,fun x hx=>(f.block x (nll hx h.bel.size) (fun hc=>by have:=(hC x hc).1;omega)).trans (h.bel.block x hx)⟩,
  (f.block R0 (aes.1 h.res).1 (fun hc=>(hC _ hc).2.1 rfl)).trans h.res,(f.block TB (aes.1 h.top).1 (fun hc=>(hC _ hc).2.2 rfl)).trans h.top⟩
 new:=fun {W x} h hx=>⟨Nat.le_trans h.bel.size hx,fun e=>by have:=(aes.1 h.res).1;omega,fun e=>by have:=(aes.1 h.top).1;omega⟩
theorem jmI {w w':World} {base e size n:Nat} {v:Value} {xs:List Value} (h:w.ownsRow base e size v n xs) (hb:∀ g,v.ownBlock=some g→w'.heap[g]? = w.heap[g]?):w'.ownsRow base e size v n xs:=by
 refine ⟨h.1,?_⟩
 rcases h.2 with hn|⟨g,cap,cur,rfl,hbg,hgg,rest⟩
 ·exact .inl hn
 ·exact .inr ⟨g,cap,cur,rfl,hbg,(hb g rfl).trans hgg,rest⟩
theorem jbi {w w':World} {base e size n g m cap:Nat} {xs:List Value} (h:w.ownsRow base e size (.slice (some ⟨g,0,none⟩) m cap) n xs) (hb:w'.heap[g]? = w.heap[g]?):w'.ownsRow base e size (.slice (some ⟨g,0,none⟩) m cap) n xs :=
 jmI h (fun x hx=>by simp only [Value.ownBlock,Option.some.injEq] at hx;subst hx;exact hb)
theorem jkH {A:Type} {W:World} {tL:TypeId} {gL cap:Nat} {r:List (Job A)} {e:Job A} (h:W.ownsRow 0 tL 2 (.slice (some ⟨gL,0,none⟩) (r++[e]).length cap) (r++[e]).length (jc0 (r++[e]))) :
  W.cell? ⟨gL,r.length*2,none⟩=some e.fv∧W.cell? ⟨gL,r.length*2+1,none⟩=some e.tv:=by
 have hc:∀ j,j<2→W.cell? ⟨gL,r.length*2+j,none⟩=(e.cells)[j]? := by
  intro j hj
  have h1:=h.cellAt (r.length*2+j) (by simp;omega)
  rw [h1,jeK,List.getElem?_append_right (by rw [jc1];omega),jc1]
  simp [jc0]
 exact ⟨hc 0 (by omega),hc 1 (by omega)⟩
theorem Fr.toBelow {w w':World} (h:Fr [] w w'):Below w.heap.size w w':=⟨h.os,h.tape,h.output,h.size,fun x hx=>h.block x hx (by simp)⟩
theorem Fr.setCell {cs:List Nat} {w w':World} (h:Fr cs w w') (a:Addr) (v:Value) (ha:w.heap.size≤a.block):Fr cs w (w'.setCell a v) :=
 ⟨h.os,h.tape,h.output,by have:=h.size;simp;omega,fun x hx hc=>(bhs w' a v x (by omega)).trans (h.block x hx hc)⟩
structure XLoop (cs:List Nat) (w wr:World) (B C R O:Nat) (oA:Obj) (op a n:Int) (s:ByteArray) (set:List Int) (sv:Value) (kid:Nat→X) (k:Nat) (lv:Value) (la:List XR) (SS:List (List Nat)):Prop where
 bel:Fr cs w wr
 size:B≤wr.heap.size
 ord:(∀ x∈cs,x<w.heap.size)∧w.heap.size≤C∧w.heap.size≤R∧w.heap.size≤O∧C<B∧R<B∧O<B∧C≠O∧R≠O
 arg:wr.heap[C]? = some oA
 res:Six wr R 0 0 0 ⟨#[]⟩ (.slice none 0 0) (.slice none 0 0) 27
 out:Six wr O op a n s sv lv 27
 sets:Own wr 0 sv set∧∀ g,sv.ownBlock=some g→w.heap.size≤g∧g<B∧g≠O∧g≠R
 rows:XBuild B wr kid k lv la SS
theorem XLoop.next {cs:List Nat} {w wr w1 w3:World} {B C R O:Nat} {oA:Obj} {op a n:Int} {s:ByteArray} {set:List Int} {sv:Value} {kid:Nat→X} {k:Nat} {lv:Value} {la:List XR} {SS:List (List Nat)}
  (hL:XLoop cs w wr B C R O oA op a n s set sv kid k lv la SS) {su v':Value} {T:List Nat} (hb:Fr cs wr w1) (hd:XOwn w1 (kid k) su v' T) (hn:T.Nodup) (hT:∀ x∈T,wr.heap.size≤x) {o:Obj} {g cap:Nat}
  (hown:w3.ownsRow 0 27 6 (.slice (some ⟨g,0,none⟩) (k+1) cap) (k+1) (jau la++jbP (kid k,su,v'))) (hg:(w1.alloc o).grownBy w3 lv.ownBlock) (hat:lv.ownBlock=some g∨g=w1.heap.size+1) :
  (w3.heap[O]? = wr.heap[O]?)∧XLoop cs w (w3.setCell ⟨O,5,none⟩ (.slice (some ⟨g,0,none⟩) (k+1) cap)) B C R O oA op a n s set sv kid (k+1) (.slice (some ⟨g,0,none⟩) (k+1) cap) (la++[(kid k,su,v')]) (SS++[T]):=by
 obtain ⟨o0,o1,o2,o3,o4,o5,o6,o7,o8⟩:=hL.ord
 have hs:=hL.size
 have hbs:=hb.size
 have hcs:∀ x,w.heap.size≤x→x ∉ cs:=fun x hx hc=>by have:=o0 x hc;omega
 have hws:=hL.bel.size
 have hA1:XBuild B w1 kid k lv la SS:=hL.rows.same (fun x hx hx'=>hb.block x hx' (hcs x (by omega)))
 have hlt:=hL.rows.rows.lt
 have hlv:∀ x,lv.ownBlock=some x→B≤x∧x<wr.heap.size:=fun x hx=>⟨(hL.rows.out x hx).2,(hL.rows.own.lt x hx).2⟩
 have hA3:=hA1.app (o:=o) (g:=g) (cap:=cap) hd hn (fun x hx hx'=>by have:=hT x hx;have:=hlt x hx';omega) (fun x hx e=>by have:=hT x hx;have:=(hlv x e).2;omega) (fun x hx=>by have:=hT x hx;omega) (by omega) hown hg hat
 have hs1:(w1.alloc o).heap.size=w1.heap.size+1:=by simp
 have low:∀ x,w.heap.size≤x→x<B→w3.heap[x]? = wr.heap[x]? := fun x hw hx =>
  (hg.block x (by omega) (fun e=>by have:=(hlv x e.symm).1;omega)).trans ((bha w1 o x (by omega)).trans (hb.block x (by omega) (hcs x hw)))
 have hset:∀ x,x≠O→(w3.setCell ⟨O,5,none⟩ (.slice (some ⟨g,0,none⟩) (k+1) cap)).heap[x]? = w3.heap[x]? := fun x hx=>bhs w3 ⟨O,5,none⟩ _ x hx
 have hgs:=hg.size
 have hO3:=low O o3 o6
 have e:(w3.setCell ⟨O,5,none⟩ (.slice (some ⟨g,0,none⟩) (k+1) cap)).heap.size=w3.heap.size:=by simp
 have hfr:Fr cs w w3:=⟨hg.os.trans (hb.os.trans hL.bel.os),hg.tape.trans (hb.tape.trans hL.bel.tape),hg.output.trans (hb.output.trans hL.bel.output),by omega,fun x hx hc=>(hg.block x (by omega) (fun e=>by have:=(hlv x e.symm).1;omega)).trans ((bha w1 o x (by omega)).trans ((hb.block x (by omega) hc).trans (hL.bel.block x hx hc)))⟩
 refine ⟨hO3,hfr.setCell _ _ (by exact o3),by omega,hL.ord,(hset C o7).trans ((low C o1 o4).trans hL.arg),(hset R o8).trans ((low R o2 o5).trans hL.res),?_,⟨hL.sets.1.sameX (fun x hx=>?_),hL.sets.2⟩,hA3.same (fun x hx _=>hset x (by omega))⟩
 ·have h1:Six w3 O op a n s sv lv 27:=hO3.trans hL.out
  exact h1.set5 _
 ·obtain ⟨q1,q2,q3,q4⟩:=hL.sets.2 x hx
  exact (hset x q3).trans (low x q1 q2)
theorem XLoop.done {cs:List Nat} {w wr:World} {B C R O:Nat} {oA:Obj} {op a n:Int} {s:ByteArray} {set:List Int} {sv:Value} {kid:Nat→X} {k:Nat} {lv:Value} {la:List XR} {SS:List (List Nat)}
  (hL:XLoop cs w wr B C R O oA op a n s set sv kid k lv la SS) (hp:s.size≤maxLen∧(-9223372036854775808≤n∧n≤9223372036854775807)∧set.length≤maxLen) :
  Fr cs w (put6 wr R op a n s sv lv)∧∃ S,XOwn (put6 wr R op a n s sv lv) (.mk op a n s set k kid) sv lv S∧S.Nodup∧∀ x∈S,w.heap.size≤x:=by
 obtain ⟨o0,o1,o2,o3,o4,o5,o6,o7,o8⟩:=hL.ord
 have hoth:=jaZ wr R op a n s sv lv
 obtain ⟨S,h1,h2,h3⟩:=hL.rows.xsown
 have hwB:w.heap.size≤B:=by omega
 refine ⟨(((((hL.bel.setCell _ _ (by exact o2)).setCell _ _ (by exact o2)).setCell _ _ (by exact o2)).setCell _ _ (by exact o2)).setCell _ _ (by exact o2)).setCell _ _ (by exact o2),sv.ownBlock.toList++S,XOwn.mk' hp (hL.sets.1.sameX (fun x hx=>hoth x (hL.sets.2 x hx).2.2.2)) (h1.same (fun x hx=>hoth x (by have:=h3 x hx;omega))),?_,?_⟩
 ·refine List.nodup_append.2 ⟨by cases sv.ownBlock <;> simp,h2,fun x hx y hy e=>?_⟩
  subst e
  simp only [Option.mem_toList] at hx
  have:=(hL.sets.2 x hx).2.1
  have:=h3 x hy
  omega
 ·intro x hx
  rcases lma.1 hx with hx|hx
  ·simp only [Option.mem_toList] at hx
   exact (hL.sets.2 x hx).1
  ·have:=h3 x hx;omega
theorem jnb (w:World) (oA:Obj) (op a n:Int) (s:ByteArray) (kid:Nat→X) :
  XLoop [] w (((w.alloc oA).alloc (.cells #[.int .i64 0,.int .i64 0,.int .i64 0,.string ⟨#[]⟩,.slice none 0 0,.slice none 0 0] 27)).alloc (.cells #[.int .i64 op,.int .i64 a,.int .i64 n,.string s,.slice none 0 0,.slice none 0 0] 27)) (w.heap.size+3) w.heap.size (w.heap.size+1) (w.heap.size+1+1) oA op a n s [] (.slice none 0 0) kid 0 (.slice none 0 0) [] []:=by
 obtain ⟨h1,h2,h3,h4,h5⟩:=jjV (brf (((w.alloc oA).alloc (.cells #[.int .i64 0,.int .i64 0,.int .i64 0,.string ⟨#[]⟩,.slice none 0 0,.slice none 0 0] 27)).alloc (.cells #[.int .i64 op,.int .i64 a,.int .i64 n,.string s,.slice none 0 0,.slice none 0 0] 27)).heap.size _)
 exact ⟨Fr.below h5 _,h4,⟨by simp,by omega,by omega,by omega,by omega,by omega,by omega,by omega,by omega⟩,h1,h2,h3,⟨⟨rfl,.inl ⟨rfl,rfl⟩⟩,fun g h=>by simp [Value.ownBlock] at h⟩,XBuild.nil _ _ _⟩
theorem XLoop.setIn {w W w2:World} {C R O:Nat} {oA:Obj} {op a n:Int} {s:ByteArray} {kid:Nat→X} {sv:Value} {xs:List Int} (h:XLoop [] w W W.heap.size C R O oA op a n s [] (.slice none 0 0) kid 0 (.slice none 0 0) [] []) (hb:Below W.heap.size W w2) (hs:Own w2 W.heap.size sv xs) :
  XLoop [] w (w2.setCell ⟨O,4,none⟩ sv) w2.heap.size C R O oA op a n s xs sv kid 0 (.slice none 0 0) [] []:=by
 obtain ⟨o0,o1,o2,o3,o4,o5,o6,o7,o8⟩:=h.ord
 have hbs:=hb.size
 have hws:=h.bel.size
 have hset:∀ x,x≠O→(w2.setCell ⟨O,4,none⟩ sv).heap[x]? = w2.heap[x]? := fun x hx=>bhs w2 ⟨O,4,none⟩ _ x hx
 refine ⟨(h.bel.trans (Fr.below hb [])).setCell _ _ (by exact o3),by simp,⟨o0,o1,o2,o3,by omega,by omega,by omega,o7,o8⟩,(hset C o7).trans ((hb.block C o4).trans h.arg),(hset R o8).trans ((hb.block R o5).trans h.res),(h.out.below hb).set4 sv,⟨(hs.mono (nzl _)).sameX (fun x hx=>hset x ?_),fun g hg=>?_⟩,XBuild.nil _ _ _⟩
 ·have:=(World.ownsRow.lt hs x hx).1;omega
 ·have:=World.ownsRow.lt hs g hg;omega
theorem XLoop.from {cs:List Nat} {w wr:World} {B B' C R O:Nat} {oA:Obj} {op a n:Int} {s:ByteArray} {set:List Int} {sv:Value} {kid:Nat→X} (h:XLoop cs w wr B C R O oA op a n s set sv kid 0 (.slice none 0 0) [] []) (hB:B≤B') (hs:B'≤wr.heap.size):XLoop cs w wr B' C R O oA op a n s set sv kid 0 (.slice none 0 0) [] [] :=
 ⟨h.bel,hs,⟨h.ord.1,h.ord.2.1,h.ord.2.2.1,h.ord.2.2.2.1,by have:=h.ord.2.2.2.2.1;omega,by have:=h.ord.2.2.2.2.2.1;omega,by have:=h.ord.2.2.2.2.2.2.1;omega,h.ord.2.2.2.2.2.2.2⟩,h.arg,h.res,h.out,⟨h.sets.1,fun g hg=>by have:=h.sets.2 g hg;omega⟩,XBuild.nil _ _ _⟩
theorem jbM {w:World} {base:Nat} {v:Value} {xs:List Int} (h:Own w base v xs):∃ p c,v=.slice p xs.length c:=(h.setB (nzl _)).shape
theorem jmZ {w W w2:World} {C R O gS:Nat} {oA:Obj} {op a n:Int} {s:ByteArray} {kid:Nat→X} {v:Value} {xs:List Int} (h:XLoop [] w W (w.heap.size+3) C R O oA op a n s [] (.slice none 0 0) kid 0 (.slice none 0 0) [] []) (hW:W.heap.size=w.heap.size+3) (hS:gS=w.heap.size+1+1+1)
  (hown:w2.ownsRow (w.heap.size+3) 3 1 v (0+xs.length) ([]++xs.map (Value.int .i64))) (hg:(W.alloc (.cells #[] 3)).grownBy w2 (Value.slice (some ⟨gS,0,none⟩) 0 0).ownBlock) :
  XLoop [] w (w2.setCell ⟨O,4,none⟩ v) w2.heap.size C R O oA op a n s xs v kid 0 (.slice none 0 0) [] []∧Six w2 O op a n s (.slice none 0 0) (.slice none 0 0) 27∧∃ p c,v=.slice p xs.length c:=by
 have ho:Own w2 (w.heap.size+3) v xs:=by
  have h1:=hown
  rw [Nat.zero_add,List.nil_append] at h1
  exact h1
 have hb:Below W.heap.size W w2:=by
  have h1:=hg.size
  have h2:(W.alloc (.cells #[] 3)).heap.size=W.heap.size+1:=by simp
  exact (newx W (.cells #[] 3)).trans ⟨hg.os,hg.tape,hg.output,by omega,fun x hx=>hg.block x (by omega) (by simp only [Value.ownBlock];intro e;injection e with e;omega)⟩
 have h0:XLoop [] w W W.heap.size C R O oA op a n s [] (.slice none 0 0) kid 0 (.slice none 0 0) [] []:=h.from (by omega) (by omega)
 exact ⟨h0.setIn hb (by rw [hW];exact ho),h.out.below hb,jbM ho⟩
theorem jfT {w w3:World} {oA:Obj} {op a n:Int} {s:ByteArray} {sv:Value} {xs:List Int} (kid:Nat→X) (hb:Below ((w.alloc oA).alloc (.cells #[.int .i64 0,.int .i64 0,.int .i64 0,.string ⟨#[]⟩,.slice none 0 0,.slice none 0 0] 27)).heap.size ((w.alloc oA).alloc (.cells #[.int .i64 0,.int .i64 0,.int .i64 0,.string ⟨#[]⟩,.slice none 0 0,.slice none 0 0] 27)) w3) (hs:Own w3 (w.heap.size+2) sv xs) :
  XLoop [] w (w3.alloc (.cells #[.int .i64 op,.int .i64 a,.int .i64 n,.string s,sv,.slice none 0 0] 27)) (w3.heap.size+1) w.heap.size (w.heap.size+1) w3.heap.size oA op a n s xs sv kid 0 (.slice none 0 0) [] []:=by
 obtain ⟨h1,h2,h4,h5⟩:=twoX hb
 have hn:=newx w3 (.cells #[.int .i64 op,.int .i64 a,.int .i64 n,.string s,sv,.slice none 0 0] 27)
 refine ⟨(Fr.below h5 _).trans (Fr.below hn _),by simp,⟨by simp,by omega,by omega,by omega,by omega,by omega,by omega,by omega,by omega⟩,(hn.block _ (by omega)).trans h1,(hn.block _ (by omega)).trans h2,han w3 _,⟨(hs.mono (nzl _)).sameX (fun g hg=>hn.block g (World.ownsRow.lt hs g hg).2),fun g hg=>by have:=World.ownsRow.lt hs g hg;omega⟩,XBuild.nil _ _ _⟩
theorem jd4 {w w3:World} {O:Nat} {oA:Obj} {op a n:Int} {s:ByteArray} {sv:Value} {xs:List Int} (kid:Nat→X) (hb:Below ((w.alloc oA).alloc (.cells #[.int .i64 0,.int .i64 0,.int .i64 0,.string ⟨#[]⟩,.slice none 0 0,.slice none 0 0] 27)).heap.size ((w.alloc oA).alloc (.cells #[.int .i64 0,.int .i64 0,.int .i64 0,.string ⟨#[]⟩,.slice none 0 0,.slice none 0 0] 27)) w3) (hs:Own w3 (w.heap.size+2) sv xs) (hO:w.heap.size+2≤O) (hz:Six w3 O 0 0 0 ⟨#[]⟩ (.slice none 0 0) (.slice none 0 0) 27) (hne:sv.ownBlock≠some O) :
  XLoop [] w (put6 w3 O op a n s sv (.slice none 0 0)) w3.heap.size w.heap.size (w.heap.size+1) O oA op a n s xs sv kid 0 (.slice none 0 0) [] []:=by
 obtain ⟨h1,h2,h4,h5⟩:=twoX hb
 have hlt:=hz.lt
 have hoth:=jaZ w3 O op a n s sv (.slice none 0 0)
 refine ⟨(((((((Fr.below h5 []).setCell _ _ (by show _≤O;omega)).setCell _ _ (by show _≤O;omega)).setCell _ _ (by show _≤O;omega)).setCell _ _ (by show _≤O;omega)).setCell _ _ (by show _≤O;omega)).setCell _ _ (by show _≤O;omega)),by simp,⟨by simp,by omega,by omega,by omega,by omega,by omega,by omega,by omega,by omega⟩,(hoth _ (by omega)).trans h1,(hoth _ (by omega)).trans h2,?_,⟨(hs.mono (nzl _)).sameX (fun g hg=>hoth g (fun e=>hne (by rw [hg,e]))),fun g hg=>?_⟩,XBuild.nil _ _ _⟩
 ·have z1:=heap_setCell_same w3 O 0 _ _ (.int .i64 op) hz
  have z2:=heap_setCell_same _ O 1 _ _ (.int .i64 a) z1
  have z3:=heap_setCell_same _ O 2 _ _ (.int .i64 n) z2
  have z4:=heap_setCell_same _ O 3 _ _ (.string s) z3
  have z5:=heap_setCell_same _ O 4 _ _ sv z4
  have z6:=heap_setCell_same _ O 5 _ _ (.slice none 0 0) z5
  exact z6
 ·have:=World.ownsRow.lt hs g hg
  have h9:g≠O:=fun e=>hne (by rw [hg,e])
  omega
theorem jcu {W:World} {B g:Nat} (h:W.heap[g]? = some (.cells #[] 3 (0,0))) (hB:B≤g):Own W B (.slice (some ⟨g,0,none⟩) 0 0) [] :=
 ⟨rfl,.inr ⟨g,0,#[],rfl,hB,h,nlr _,nzl _,rfl,rfl⟩⟩
theorem jcv {W0 W w4:World} {B g:Nat} {v:Value} {xs:List Int} (hb:Below W0.heap.size W0 W) (hB:W0.heap.size≤g) (hown:w4.ownsRow B 3 1 v (0+xs.length) ([]++xs.map (Value.int .i64))) (hg:W.grownBy w4 (Value.slice (some ⟨g,0,none⟩) 0 0).ownBlock):Own w4 B v xs∧Below W0.heap.size W0 w4:=by
 refine ⟨?_,hb.trans ⟨hg.os,hg.tape,hg.output,hg.size,fun x hx=>?_⟩⟩
 ·rw [Nat.zero_add,List.nil_append] at hown
  exact hown
 ·exact hg.block x (nll hx hb.size) (by simp only [Value.ownBlock];intro e;injection e with e;omega)
theorem jhc {w:World} {B O:Nat} {sv:Value} {xs:List Int} {a b c:Int} {s:ByteArray} {u v:Value} (h:Own w B sv xs) (h6:Six w O a b c s u v 27):sv.ownBlock≠some O:=by
 intro e
 rcases h.2 with ⟨h0,_⟩|⟨g,cap,cur,h0,_,hg,_⟩
 ·rw [h0] at e;simp [Value.ownBlock] at e
 ·rw [h0] at e
  simp only [Value.ownBlock,Option.some.injEq] at e
  subst e
  have h7:w.heap[g]? = _:=h6
  rw [hg] at h7
  injection h7 with h7
  injection h7 with _ h7
  exact absurd h7 (by decide)
theorem Six.grown {W w4:World} {O g:Nat} {a b c:Int} {s:ByteArray} {u v:Value} {ty:TypeId} (h:Six W O a b c s u v ty) (hg:W.grownBy w4 (Value.slice (some ⟨g,0,none⟩) 0 0).ownBlock) (hne:O≠g):Six w4 O a b c s u v ty :=
 (hg.block _ h.lt (by simp only [Value.ownBlock];intro e;injection e with e;exact hne e)).trans h
theorem jk2 {w wx:World} {O B C R:Nat} {oA:Obj} {op a n:Int} {s:ByteArray} {set:List Int} {sv:Value} {kid:Nat→X} (h:XLoop [] w wx B C R O oA op a n s set sv kid 0 (.slice none 0 0) [] []) :
  ∃ (O' B':Nat) (sv':Value),Value.pointer (some ⟨O,0,none⟩)=.pointer (some ⟨O',0,none⟩)∧XLoop [] w wx B' C R O' oA op a n s set sv' kid 0 (.slice none 0 0) [] []:=⟨_,_,_,rfl,h⟩
theorem jhf {w:World} {o g:Nat} {a b c:Int} {s:ByteArray} {u v:Value} {ty:TypeId} (h:Six w o a b c s u v ty) (a' b' c':Int) (s':ByteArray) (u' v':Value) (hne:o≠g):Six (put6 w g a' b' c' s' u' v') o a b c s u v ty:=(jaZ w g a' b' c' s' u' v' o hne).trans h
theorem jcf {w:World} {g:Nat} {a b c:Int} {s:ByteArray} {u v:Value} {ty:TypeId} (h:Six w g a b c s u v ty) :
  w.cell? ⟨g,0,none⟩=some (.int .i64 a)∧w.cell? ⟨g,1,none⟩=some (.int .i64 b)∧w.cell? ⟨g,2,none⟩=some (.int .i64 c)∧w.cell? ⟨g,3,none⟩=some (.string s)∧w.cell? ⟨g,4,none⟩=some u :=
 ⟨h.cells.1,h.cells.2.1,h.cells.2.2.1,h.cells.2.2.2.1,h.cells.2.2.2.2.1⟩
def X.Small:X→Prop
 | .no=>True
 | .mk _ _ _ _ set len kid=>set.length≤4194304∧∀ i,i<len→(kid i).Small
def allX (p:Nat→Bool):Nat→Bool
 | 0=>true
 | k+1=>allX p k&&p k
theorem allX_true {p:Nat→Bool} {k:Nat}:allX p k=true↔∀ i,i<k→p i=true:=by
 induction k with
 | zero=>simp [allX]
 | succ k ih =>
  simp only [allX,Bool.and_eq_true,ih]
  constructor
  ·rintro ⟨h1,h2⟩ i hi
   rcases Nat.lt_or_ge i k with h|h
   ·exact h1 i h
   ·obtain rfl:i=k:=by omega
    exact h2
  ·intro h
   exact ⟨fun i hi=>h i (by omega),h k (by omega)⟩
theorem jgg {p:Nat→Bool} {n k:Nat} (hk:k<n) (h:p k=false):allX p n=false:=by
 cases e:allX p n with
 | false=>rfl
 | true=>rw [allX_true] at e;rw [e k hk] at h;cases h
def jek (a b:X):Bool:=(a.op==b.op)&&((a.n==b.n)&&((a.s.toList==b.s.toList)&&(jcw a.set b.set&&(a.len==b.len))))
def sameX:X→X→Bool
 | .no,b=>jek .no b
 | .mk op a n s set len kid,b=>jek (.mk op a n s set len kid) b&&allX (fun i=>sameX (kid i) (b.kid i)) len
theorem je5 (a b:X):sameX a b=(jek a b&&allX (fun i=>sameX (a.kid i) (b.kid i)) a.len):=by
 cases a with
 | no=>simp [sameX,X.len,allX]
 | mk op a n s set len kid=>rfl
theorem jj6 {a b:ByteArray} (h:a.toList=b.toList):a=b:=by
 rw [ByteArray.toList_eq,ByteArray.toList_eq] at h
 cases a;cases b;simp only at h;congr;exact Array.toList_inj.1 h
theorem jft (a b:X):(jek a b=true∧a.op=b.op∧a.n=b.n∧a.s=b.s∧jcw a.set b.set=true∧a.len=b.len) ∨
  (jek a b=false∧(a.op≠b.op∨(a.op=b.op∧(a.n≠b.n∨(a.n=b.n∧((a.s.toList==b.s.toList)=false∨(a.s=b.s∧(jcw a.set b.set=false∨(jcw a.set b.set=true∧a.len≠b.len))))))))):=by
 unfold jek
 by_cases h1:a.op=b.op
 ·by_cases h2:a.n=b.n
  ·by_cases h3:a.s.toList=b.s.toList
   ·have h3':a.s=b.s:=jj6 h3
    cases h5:jcw a.set b.set with
    | false=>exact .inr (by simp [h1,h2,h3'])
    | true =>
     by_cases h4:a.len=b.len
     ·exact .inl (by simp [h1,h2,h3',h4])
     ·exact .inr (by simp [h1,h2,h3',h4])
   ·exact .inr (by simp [h1,h2,h3])
  ·exact .inr (by simp [h1,h2])
 ·exact .inr (by simp [h1])
theorem jeA (t:X):sameX t t=true:=by
 induction t with
 | no=>simp [sameX,jek,jhW]
 | mk op a n s set len kid ih =>
  rw [je5]
  have h1:jek (.mk op a n s set len kid) (.mk op a n s set len kid)=true:=by simp [jek,jhW]
  rw [h1,Bool.true_and,allX_true]
  exact fun i _=>ih i
def X.setsB:X→Bool
 | .no=>true
 | .mk op _ _ _ set len kid=>allX (fun i=>(kid i).setsB) len&&((decide (op=2)&&setB set)||decide (set.length=0))
theorem joo:setB []=true:=by simp [setB]
def X.SetsLe (m:Nat):X→Prop
 | .no=>True
 | .mk _ _ _ _ set len kid=>set.length≤m∧∀ i,i<len→(kid i).SetsLe m
inductive D where
 | no
 | mk (op at_ n:Int) (s:ByteArray) (len:Nat) (kid:Nat→D)
namespace D
def op:D→Int | .no=>0 | .mk x _ _ _ _ _=>x
def at_:D→Int | .no=>0 | .mk _ x _ _ _ _=>x
def n:D→Int | .no=>0 | .mk _ _ x _ _ _=>x
def s:D→ByteArray | .no=>⟨#[]⟩ | .mk _ _ _ x _ _=>x
def len:D→Nat | .no=>0 | .mk _ _ _ _ x _=>x
def kid:D→Nat→D | .no=>fun _=>.no | .mk _ _ _ _ _ x=>x
end D
instance : Inhabited D := ⟨.no⟩
def jao (f:Nat→Nat):Nat→Nat
 | 0=>0
 | k+1=>jao f k+f k
theorem jos (f:Nat→Nat) (j k:Nat) (h:j≤k):jao f j≤jao f k:=by
 induction k with
 | zero=>simp at h;subst h;exact nlr _
 | succ k ih =>
  rcases Nat.lt_or_ge j (k+1) with h1|h1
  ·have:=ih (by omega);simp only [jao];omega
  ·have:j=k+1:=by omega
   subst this;exact nlr _
theorem jbU (f:Nat→Nat) (j k:Nat) (h:j<k):jao f j+f j≤jao f k:=jos f (j+1) k h
def D.count:D→Nat | .no=>1 | .mk _ _ _ _ len kid=>1+jao (fun i=>(kid i).count) len
def D.weight:D→Nat | .no=>0 | .mk _ _ _ s len kid=>s.size+(len+jao (fun i=>(kid i).weight) len)
def jah (len:Nat) (kid:Nat→D):Nat:=len+jao (fun i=>(kid i).weight) len
theorem D.weight_eq (t:D):t.weight=t.s.size+jah t.len t.kid:=by cases t <;> rfl
theorem D.count_eq (t:D):t.count=1+jao (fun i=>(t.kid i).count) t.len:=by cases t <;> rfl
theorem D.count_weight (t:D):t.count≤1+t.weight:=by
 induction t with
 | no=>simp [count]
 | mk op a n s len kid ih =>
  unfold count weight
  have:∀ k,jao (fun i=>(kid i).count) k≤k+jao (fun i=>(kid i).weight) k:=by
   intro k
   induction k with
   | zero=>simp [jao]
   | succ k ihk=>simp only [jao];have:=ih k;omega
  have:=this len
  omega
structure Head (w:World) (b p:Nat) (t:D) (v:Value):Prop where
 c0:w.cell? ⟨b,p,none⟩=some (.int .i64 t.op)
 c1:w.cell? ⟨b,p+1,none⟩=some (.int .i64 t.at_)
 c2:w.cell? ⟨b,p+2,none⟩=some (.int .i64 t.n)
 c3:w.cell? ⟨b,p+3,none⟩=some (.string t.s)
 c4:w.cell? ⟨b,p+4,none⟩=some v
def D.InB (B:Nat) (w:World):D→Value→Prop
 | .no,_=>False
 | .mk _ _ n s len kid,v=>(s.size≤maxLen∧-9223372036854775808≤n∧n≤9223372036854775807) ∧
  ((len=0∧∃ p cap,v=.slice p 0 cap) ∨
   ∃ (b o cap:Nat) (V:Nat→Value),v=.slice (some ⟨b,o,none⟩) len cap∧B≤b∧len≤cap∧cap≤maxLen ∧
    ∀ i,i<len→Head w b (o+i*5) (kid i) (V i)∧(kid i).InB B w (V i))
abbrev D.In (w:World) (t:D) (v:Value):Prop:=t.InB 0 w v
def SlB (B:Nat) (w:World) (len:Nat) (kid:Nat→D) (v:Value):Prop :=
 (len=0∧∃ p cap,v=.slice p 0 cap) ∨
  ∃ (b o cap:Nat) (V:Nat→Value),v=.slice (some ⟨b,o,none⟩) len cap∧B≤b∧len≤cap∧cap≤maxLen ∧
   ∀ i,i<len→Head w b (o+i*5) (kid i) (V i)∧(kid i).InB B w (V i)
abbrev Sl (w:World) (len:Nat) (kid:Nat→D) (v:Value):Prop:=SlB 0 w len kid v
theorem D.InB.sl {B:Nat} {w:World} {t:D} {v:Value} (h:t.InB B w v):SlB B w t.len t.kid v:=by
 cases t <;> unfold D.InB at h <;> first|exact h.elim|exact h.2
theorem D.InB.size {B:Nat} {w:World} {t:D} {v:Value} (h:t.InB B w v):t.s.size≤maxLen:=by
 cases t <;> unfold D.InB at h <;> first|exact h.elim|exact h.1.1
theorem D.InB.num {B:Nat} {w:World} {t:D} {v:Value} (h:t.InB B w v):-9223372036854775808≤t.n∧t.n≤9223372036854775807:=by
 cases t <;> unfold D.InB at h <;> first|exact h.elim|exact h.1.2
theorem D.InB.mk' {B:Nat} {w:World} {op a n:Int} {s:ByteArray} {len:Nat} {kid:Nat→D} {v:Value} (h0:s.size≤maxLen) (h1:-9223372036854775808≤n∧n≤9223372036854775807) (h:SlB B w len kid v):(D.mk op a n s len kid).InB B w v:=by
 unfold D.InB;exact ⟨⟨h0,h1⟩,h⟩
theorem SlB.shape {B:Nat} {w:World} {len:Nat} {kid:Nat→D} {v:Value} (h:SlB B w len kid v):∃ p cap,v=.slice p len cap:=by
 rcases h with ⟨rfl,p,cap,rfl⟩|⟨b,o,cap,V,rfl,_⟩
 ·exact ⟨_,_,rfl⟩
 ·exact ⟨_,_,rfl⟩
theorem Head.kept {w w':World} {b p:Nat} {t:D} {v:Value} (h:Head w b p t v) (hk:∀ a u,a.block=b→w.cell? a=some u→w'.cell? a=some u):Head w' b p t v :=
 ⟨hk _ _ rfl h.c0,hk _ _ rfl h.c1,hk _ _ rfl h.c2,hk _ _ rfl h.c3,hk _ _ rfl h.c4⟩
theorem D.InB.kept {B:Nat} {w w':World} (hk:∀ a u,B≤a.block→w.cell? a=some u→w'.cell? a=some u) (t:D):∀ {v:Value},t.InB B w v→t.InB B w' v:=by
 induction t with
 | no=>intro v h;exact h.elim
 | mk op a n s len kid ih =>
  intro v h
  unfold D.InB at h ⊢
  refine ⟨h.1,?_⟩
  rcases h.2 with h0|⟨b,o,cap,V,h1,hB,h2,h3,h4⟩
  ·exact .inl h0
  ·exact .inr ⟨b,o,cap,V,h1,hB,h2,h3,fun i hi=>⟨(h4 i hi).1.kept (fun a u ha=>hk a u (by omega)),ih i (h4 i hi).2⟩⟩
theorem SlB.kept {B:Nat} {w w':World} (hk:∀ a u,B≤a.block→w.cell? a=some u→w'.cell? a=some u) {len:Nat} {kid:Nat→D} {v:Value} (h:SlB B w len kid v):SlB B w' len kid v:=by
 rcases h with h0|⟨b,o,cap,V,h1,hB,h2,h3,h4⟩
 ·exact .inl h0
 ·exact .inr ⟨b,o,cap,V,h1,hB,h2,h3,fun i hi=>⟨(h4 i hi).1.kept (fun a u ha=>hk a u (by omega)),D.InB.kept hk _ (h4 i hi).2⟩⟩
theorem D.InB.mono {B B':Nat} (hB:B'≤B) {w:World} (t:D):∀ {v:Value},t.InB B w v→t.InB B' w v:=by
 induction t with
 | no=>intro v h;exact h.elim
 | mk op a n s len kid ih =>
  intro v h
  unfold D.InB at h ⊢
  refine ⟨h.1,?_⟩
  rcases h.2 with h0|⟨b,o,cap,V,h1,hb,h2,h3,h4⟩
  ·exact .inl h0
  ·exact .inr ⟨b,o,cap,V,h1,by omega,h2,h3,fun i hi=>⟨(h4 i hi).1,ih i (h4 i hi).2⟩⟩
theorem jaG {w w':World} (hb:Below w.heap.size w w') (a:Addr) (u:Value) (h:w.cell? a=some u):w'.cell? a=some u :=
 (hb.cell (wbl w a h)).trans h
theorem D.InB.below {B:Nat} {w w':World} (hb:Below w.heap.size w w') {t:D} {v:Value} (h:t.InB B w v):t.InB B w' v:=D.InB.kept (fun a u _=>jaG hb a u) t h
theorem SlB.below {B:Nat} {w w':World} (hb:Below w.heap.size w w') {len:Nat} {kid:Nat→D} {v:Value} (h:SlB B w len kid v):SlB B w' len kid v:=SlB.kept (fun a u _=>jaG hb a u) h
theorem Head.below {w w':World} (hb:Below w.heap.size w w') {b p:Nat} {t:D} {v:Value} (h:Head w b p t v):Head w' b p t v:=h.kept (fun a u _=>jaG hb a u)
theorem SlB.at {B:Nat} {w:World} {len:Nat} {kid:Nat→D} {v:Value} (h:SlB B w len kid v):∃ p cap,v=.slice p len cap∧len≤maxLen ∧
  ∀ i,i<len→∃ b o u,p=some ⟨b,o,none⟩∧Head w b (o+i*5) (kid i) u∧(kid i).InB B w u:=by
 rcases h with ⟨rfl,p,cap,rfl⟩|⟨b,o,cap,V,rfl,hB,h1,h2,h3⟩
 ·exact ⟨p,cap,rfl,nzl _,fun i hi=>by omega⟩
 ·exact ⟨_,cap,rfl,Nat.le_trans h1 h2,fun i hi=>⟨b,o,V i,rfl,h3 i hi⟩⟩
theorem newb (w:World) (o:Obj):Below w.heap.size w (w.alloc o):=(brf _ _).alloc (nlr _) o
def stxD (set:List Int):D→X
 | .no=>.no
 | .mk op a n s len kid=>.mk op a n s (if op=2 then set else []) len (fun i=>stxD set (kid i))
def datX:X→D
 | .no=>.no
 | .mk op a n s _ len kid=>.mk op a n s len (fun i=>datX (kid i))
theorem jfh (set:List Int) (d:D):datX (stxD set d)=d:=by
 induction d with
 | no=>rfl
 | mk op a n s len kid ih =>
  show D.mk op a n s len (fun i=>datX (stxD set (kid i)))=_
  congr 1
  funext i
  exact ih i
theorem jps (f:Nat→Nat) (k:Nat):sumX f k=jao f k:=by
 induction k with
 | zero=>rfl
 | succ k ih=>simp only [sumX,jao,ih]
theorem jgj (t:X):(datX t).count=t.count:=by
 induction t with
 | no=>rfl
 | mk op a n s set len kid ih =>
  have e1:(datX (.mk op a n s set len kid)).count=1+jao (fun i=>(datX (kid i)).count) len:=rfl
  have e2:(X.mk op a n s set len kid).count=1+sumX (fun i=>(kid i).count) len:=rfl
  rw [e1,e2,jps]
  simp only [ih]
theorem jfU (set:List Int) (d:D):(stxD set d).SetsLe set.length:=by
 induction d with
 | no=>trivial
 | mk op a n s len kid ih =>
  refine ⟨?_,fun i _=>ih i⟩
  by_cases h:op=2
  ·simp only [if_pos h];exact Nat.le_refl _
  ·simp only [if_neg h];exact Nat.zero_le _
theorem jgo (n:Int):bits .and .i64 n 255=n % 256:=by
 have hm:(BitVec.ofInt 64 255).toNat=2 ^ 8-1:=by decide
 have key:(BitVec.ofInt 64 n &&& BitVec.ofInt 64 255).toNat=(n % ((2 ^ 64:Nat):Int)).toNat % 2 ^ 8:=by
  rw [BitVec.toNat_and,BitVec.toNat_ofInt,hm,Nat.and_two_pow_sub_one_eq_mod]
 show IntKind.i64.wrap ((BitVec.ofInt 64 n &&& BitVec.ofInt 64 255).toNat:Nat)=n % 256
 rw [key,IntKind.wrap_i64]
 omega
theorem jnE (c:Nat) (a:Option Addr) (len cap:Nat) (i h:Int) (w:World)
  (h0:w.cell? ⟨c,0,none⟩=some (.slice a len cap)) (h1:w.cell? ⟨c,1,none⟩=some (.int .i64 i)) (h2:w.cell? ⟨c,2,none⟩=some (.int .i64 h))
  (f2:w.frozen? ⟨c,2,none⟩=false) (hi:¬ i<(len:Int)) :
  Calls Tryz.prog 31 #[.pointer (some ⟨c,0,none⟩)] w fun e w'=>(∃ x:Int,0≤x∧x≤255∧e=.returned (.int .i64 x))∧∃ v n,w'=(w.setCell ⟨c,2,none⟩ (.int .i64 v)).drewN n:=by
 have e:=jgo
 go_enter Tryz.func31,Tryz.ntmps31
 go_wp2
 go_quiet (fail)
 go_wp2
 go_quiet (fail)
 go_wp2
 go_ret
 exact ⟨⟨_,by omega,by omega,rfl⟩,_,_,by rw [World.drewN_drewN]⟩
theorem joX (c:Nat) (b off len cap:Nat) (i h z:Int) (w:World)
  (h0:w.cell? ⟨c,0,none⟩=some (.slice (some ⟨b,off,none⟩) len cap)) (h1:w.cell? ⟨c,1,none⟩=some (.int .i64 i)) (h2:w.cell? ⟨c,2,none⟩=some (.int .i64 h))
  (f1:w.frozen? ⟨c,1,none⟩=false) (f2:w.frozen? ⟨c,2,none⟩=false) (hi0:0≤i) (hi:i<(len:Int)) (hl:(len:Int)≤1048576)
  (hbc:b≠c) (hz:w.cell? ⟨b,off+i.toNat,none⟩=some (.int .u8 z)) :
  Calls Tryz.prog 31 #[.pointer (some ⟨c,0,none⟩)] w fun e w'=>(∃ x:Int,0≤x∧x≤255∧e=.returned (.int .i64 x))∧∃ v n,w'=((w.setCell ⟨c,2,none⟩ (.int .i64 v)).drewN n).setCell ⟨c,1,none⟩ (.int .i64 (i+1)):=by
 have e:=jgo
 go_enter Tryz.func31,Tryz.ntmps31
 go_wp2
 go_quiet (fail)
 go_wp2
 go_quiet (fail)
 go_wp2
 go_quiet (fail)
 go_wp2
 go_ret
 exact ⟨⟨_,by omega,by omega,rfl⟩,_,_,rfl⟩
structure Ext (c:Nat) (w w':World):Prop where
 os:w'.os=w.os
 tape:w'.tape=w.tape
 output:w'.output=w.output
 size:w.heap.size≤w'.heap.size
 block:∀ k,k<w.heap.size→k≠c→w'.heap[k]? = w.heap[k]?
theorem Ext.refl (c:Nat) (w:World):Ext c w w:=⟨rfl,rfl,rfl,nlr _,fun _ _ _=>rfl⟩
theorem Ext.trans {c:Nat} {w w1 w2:World} (h:Ext c w w1) (g:Ext c w1 w2):Ext c w w2 :=
 ⟨g.os.trans h.os,g.tape.trans h.tape,g.output.trans h.output,Nat.le_trans h.size g.size,fun k hk hc=>(g.block k (nll hk h.size) hc).trans (h.block k hk hc)⟩
theorem Ext.set {c:Nat} {w w1:World} (h:Ext c w w1) (o:Nat) (v:Value):Ext c w (w1.setCell ⟨c,o,none⟩ v) :=
 h.trans ⟨rfl,rfl,rfl,by simp,fun k _ hc=>bhs _ _ _ _ hc⟩
theorem Ext.drewN {c:Nat} {w w1:World} (h:Ext c w w1) (n:Nat):Ext c w (w1.drewN n):=⟨h.os,h.tape,h.output,h.size,h.block⟩
theorem Ext.alloc {c:Nat} {w w1:World} (h:Ext c w w1) (o:Obj):Ext c w (w1.alloc o) :=
 h.trans ⟨rfl,rfl,rfl,by simp,fun k hk _=>bha _ _ _ (by omega)⟩
theorem Ext.of_below {c B:Nat} {w w1:World} (h:Below B w w1) (hB:w.heap.size≤B):Ext c w w1 :=
 ⟨h.os,h.tape,h.output,h.size,fun k hk _=>h.block k (by omega)⟩
theorem jio {w:World} {b:Nat} {cs:Array Value} {t:TypeId} {fr:Nat×Nat} (h:w.heap[b]? = some (.cells cs t fr)) (o:Nat):w.cell? ⟨b,o,none⟩=cs[o]? := by
 simp [World.cell?,h]
theorem ja6 {w w':World} {b:Nat} (h:w'.heap[b]? = w.heap[b]?) (o:Nat):w'.cell? ⟨b,o,none⟩=w.cell? ⟨b,o,none⟩:=by
 simp [World.cell?,h]
theorem jhF {w:World} {b:Nat} {cs:Array Value} {t:TypeId} (h:w.heap[b]? = some (.cells cs t (0,0))) (o:Nat):w.frozen? ⟨b,o,none⟩=false:=by
 simp [World.frozen?,h]
theorem jgO {w:World} {b o:Nat} {v:Value} (h:w.cell? ⟨b,o,none⟩=some v):b<w.heap.size:=by
 rcases Nat.lt_or_ge b w.heap.size with hl|hl
 ·exact hl
 ·simp [World.cell?,Array.getElem?_eq_none hl] at h
def CodeOk (a:Option Addr) (len B:Nat) (w:World):Prop :=
 len≤1048576∧(len=0∨∃ b off,a=some ⟨b,off,none⟩∧b<B∧∀ j,j<len→∃ z:Int,0≤z∧z≤255∧w.cell? ⟨b,off+j,none⟩=some (.int .u8 z))
theorem CodeOk.keep {a:Option Addr} {len B:Nat} {w w':World} (h:CodeOk a len B w) (hb:∀ k,k<B→k<w.heap.size→w'.heap[k]? = w.heap[k]?):CodeOk a len B w':=by
 obtain ⟨hl,h|⟨b,off,rfl,hlt,hz⟩⟩:=h
 ·exact ⟨hl,.inl h⟩
 ·refine ⟨hl,.inr ⟨b,off,rfl,hlt,fun j hj=>?_⟩⟩
  obtain ⟨z,z0,z1,hc⟩:=hz j hj
  exact ⟨z,z0,z1,by rw [ja6 (hb b hlt (jgO hc))];exact hc⟩
def CurAt (c:Nat) (a:Option Addr) (len cap:Nat) (w:World):Prop :=
 CodeOk a len c w∧∃ i h:Int,0≤i∧w.heap[c]? = some (.cells #[.slice a len cap,.int .i64 i,.int .i64 h] 62 (0,0))
theorem CurAt.keep {c d:Nat} {a:Option Addr} {len cap:Nat} {w w':World} (h:CurAt c a len cap w) (he:Ext d w w') (hd:c<d):CurAt c a len cap w':=by
 obtain ⟨hc,i,hh,h0,hb⟩:=h
 have hl:c<w.heap.size:=by
  rcases Nat.lt_or_ge c w.heap.size with hl|hl
  ·exact hl
  ·rw [agn hl] at hb;cases hb
 exact ⟨hc.keep fun k hk hs=>he.block k hs (by omega),i,hh,h0,by rw [he.block c hl (by omega)];exact hb⟩
theorem CurAt.lt {c:Nat} {a:Option Addr} {len cap:Nat} {w:World} (h:CurAt c a len cap w):c<w.heap.size:=by
 obtain ⟨_,_,_,_,hb⟩:=h
 rcases Nat.lt_or_ge c w.heap.size with hl|hl
 ·exact hl
 ·rw [agn hl] at hb;cases hb
theorem jcn (c:Nat) (a:Option Addr) (len cap:Nat) (w:World) (hc:CurAt c a len cap w) :
  Calls Tryz.prog 31 #[.pointer (some ⟨c,0,none⟩)] w fun e w'=>(∃ x:Int,0≤x∧x≤255∧e=.returned (.int .i64 x))∧Ext c w w'∧CurAt c a len cap w':=by
 obtain ⟨hk,i,h,h0,hb⟩:=hc
 have c0:=jio hb 0
 have c1:=jio hb 1
 have c2:=jio hb 2
 have f1:=jhF hb 1
 have f2:=jhF hb 2
 by_cases hi:i<(len:Int)
 ·obtain ⟨hl,hz|⟨b,off,rfl,hlt,hz⟩⟩:=hk
  ·omega
  obtain ⟨z,z0,z1,hcz⟩:=hz i.toNat (by omega)
  refine (joX c b off len cap i h z w c0 c1 c2 f1 f2 h0 hi (by omega) (by omega) hcz).mono fun e w' ⟨he,v,n,hw⟩=>⟨he,?_⟩
  subst hw
  have hx:=(((Ext.refl c w).set 2 (.int .i64 v)).drewN n).set 1 (.int .i64 (i+1))
  refine ⟨hx,(show CodeOk (some ⟨b,off,none⟩) len c w from ⟨hl,.inr ⟨b,off,rfl,hlt,hz⟩⟩).keep fun k hk hs=>hx.block k hs (by omega),i+1,v,by omega,?_⟩
  have e1:=Joins.block_setCell (i:=2) hb (.int .i64 v)
  have e2:=Joins.block_setCell (i:=1) e1 (.int .i64 (i+1))
  show ((w.setCell ⟨c,2,none⟩ (.int .i64 v)).setCell ⟨c,1,none⟩ (.int .i64 (i+1))).heap[c]? = _
  rw [e2];rfl
 ·refine (jnE c a len cap i h w c0 c1 c2 f2 hi).mono fun e w' ⟨he,v,n,hw⟩=>⟨he,?_⟩
  subst hw
  have hx:=(((Ext.refl c w).set 2 (.int .i64 v)).drewN n)
  refine ⟨hx,hk.keep fun k hk hs=>hx.block k hs (by omega),i,v,h0,?_⟩
  have e1:=Joins.block_setCell (i:=2) hb (.int .i64 v)
  show (w.setCell ⟨c,2,none⟩ (.int .i64 v)).heap[c]? = _
  rw [e1];rfl
theorem X.weight_sets {m:Nat} (t:X):t.SetsLe m→t.weight≤(m+1)*(datX t).weight+m:=by
 induction t with
 | no=>intro _;exact nzl _
 | mk op a n s set len kid ih =>
  intro h
  have e1:(datX (.mk op a n s set len kid)).weight=s.size+(len+jao (fun i=>(datX (kid i)).weight) len):=rfl
  have e2:(X.mk op a n s set len kid).weight=s.size+(set.length+(len+sumX (fun i=>(kid i).weight) len)):=rfl
  have hs:∀ k,k≤len→sumX (fun i=>(kid i).weight) k≤(m+1)*jao (fun i=>(datX (kid i)).weight) k+m*k:=by
   intro k
   induction k with
   | zero=>intro _;exact nzl _
   | succ k ihk =>
    intro hk
    have h1:=ihk (by omega)
    have h2:=ih k (h.2 k (by omega))
    have a1:sumX (fun i=>(kid i).weight) (k+1)=sumX (fun i=>(kid i).weight) k+(kid k).weight:=rfl
    have a2:jao (fun i=>(datX (kid i)).weight) (k+1)=jao (fun i=>(datX (kid i)).weight) k+(datX (kid k)).weight:=rfl
    rw [a1,a2,Nat.mul_add,Nat.mul_succ]
    omega
  have h3:=hs len (nlr _)
  have h4:=h.1
  rw [e1,e2,Nat.mul_add,Nat.mul_add]
  have h5:(m+1)*len=m*len+len:=Nat.succ_mul _ _
  have h6:s.size≤(m+1)*s.size:=Nat.le_mul_of_pos_left _ (by omega)
  omega
theorem Fr.ext {c:Nat} {w w':World} (h:Ext c w w'):Fr [c] w w':=⟨h.os,h.tape,h.output,h.size,fun g hg hc=>h.block g hg (fun e=>hc (by simp [e]))⟩
theorem Fr.toExt {c:Nat} {w w':World} (h:Fr [c] w w'):Ext c w w':=⟨h.os,h.tape,h.output,h.size,fun g hg hc=>h.block g hg (by simp [hc])⟩
theorem X.At.ext {B c:Nat} {w w':World} (he:Ext c w w') (hc:c<B) {t:X} {sv v:Value} (h:t.At B w sv v):t.At B w' sv v :=
 X.At.kept (nlr _) (fun a u ha hu=>(wcb (he.block a.block (wbl w a hu) (by omega))).trans hu) h
theorem XLoop.beside {c:Nat} {w wr:World} {B C R O:Nat} {oA:Obj} {op a n:Int} {s:ByteArray} {set:List Int} {sv:Value} {kid:Nat→X} {k:Nat} {lv:Value} {la:List XR} {SS:List (List Nat)}
  (h:XLoop [] w wr B C R O oA op a n s set sv kid k lv la SS) (hc:c<w.heap.size):XLoop [c] w wr B C R O oA op a n s set sv kid k lv la SS :=
 ⟨⟨h.bel.os,h.bel.tape,h.bel.output,h.bel.size,fun g hg _=>h.bel.block g hg (by simp)⟩,h.size,⟨by simpa using hc,h.ord.2⟩,h.arg,h.res,h.out,h.sets,h.rows⟩
theorem XLoop.kids {cs:List Nat} {w wr:World} {B C R O:Nat} {oA:Obj} {op a n:Int} {s:ByteArray} {set:List Int} {sv:Value} {kid kid':Nat→X} {k:Nat} {lv:Value} {la:List XR} {SS:List (List Nat)}
  (h:XLoop cs w wr B C R O oA op a n s set sv kid k lv la SS) (e:∀ i,i<k→kid' i=kid i):XLoop cs w wr B C R O oA op a n s set sv kid' k lv la SS:=by
 have hn:=h.rows.num
 refine ⟨h.bel,h.size,h.ord,h.arg,h.res,h.out,h.sets,h.rows.own,hn,⟨h.rows.rows.len,fun i q hq=>?_,fun i hi=>?_,h.rows.rows.nd,h.rows.rows.ge⟩,h.rows.out⟩
 ·have hi:i<la.length:=by
   rcases Nat.lt_or_ge i la.length with hi|hi
   ·exact hi
   ·rw [lgn hi] at hq;cases hq
  rw [e i (by omega)]
  exact h.rows.rows.ks i q hq
 ·rw [e i (by omega)]
  exact h.rows.rows.each i hi
theorem XLoop.fr {cs:List Nat} {w wr w2:World} {B C R O:Nat} {oA:Obj} {op a n:Int} {s:ByteArray} {set:List Int} {sv:Value} {kid:Nat→X} {k:Nat} {lv:Value} {la:List XR} {SS:List (List Nat)}
  (h:XLoop cs w wr B C R O oA op a n s set sv kid k lv la SS) (hb:Fr cs wr w2):XLoop cs w w2 B C R O oA op a n s set sv kid k lv la SS:=by
 obtain ⟨o0,o1,o2,o3,o4,o5,o6,o7,o8⟩:=h.ord
 have hs:=h.size
 have hbs:=hb.size
 have hcs:∀ x,w.heap.size≤x→x ∉ cs:=fun x hx hc=>by have:=o0 x hc;omega
 have low:∀ x,w.heap.size≤x→x<wr.heap.size→w2.heap[x]? = wr.heap[x]? := fun x hx hx'=>hb.block x hx' (hcs x hx)
 exact ⟨h.bel.trans hb,by omega,h.ord,(low C o1 (by omega)).trans h.arg,(low R o2 (by omega)).trans h.res,(low O o3 (by omega)).trans h.out,
  ⟨h.sets.1.sameX (fun x hx=>low x (h.sets.2 x hx).1 (by have:=(h.sets.2 x hx).2.1;omega)),h.sets.2⟩,h.rows.same (fun x hx hx'=>low x (by omega) hx')⟩
theorem XLoop.turnC {cs:List Nat} {w W w2:World} {B C R O:Nat} {oA:Obj} {op a n:Int} {s:ByteArray} {kid:Nat→X} {sv sv':Value} {xs ys:List Int} (h:XLoop cs w W B C R O oA op a n s xs sv kid 0 (.slice none 0 0) [] []) (hb:Fr cs W w2) (hs:Own w2 W.heap.size sv' ys) :
  Six w2 O op a n s sv (.slice none 0 0) 27∧XLoop cs w (w2.setCell ⟨O,4,none⟩ sv') w2.heap.size C R O oA op a n s ys sv' kid 0 (.slice none 0 0) [] []:=by
 have h2:=h.fr hb
 obtain ⟨o0,o1,o2,o3,o4,o5,o6,o7,o8⟩:=h.ord
 have hbs:=hb.size
 have hsz:=h.size
 have hset:∀ x,x≠O→(w2.setCell ⟨O,4,none⟩ sv').heap[x]? = w2.heap[x]? := fun x hx=>bhs w2 ⟨O,4,none⟩ _ x hx
 refine ⟨h2.out,h2.bel.setCell _ _ (by exact o3),by simp,⟨o0,o1,o2,o3,by omega,by omega,by omega,o7,o8⟩,(hset C o7).trans h2.arg,(hset R o8).trans h2.res,h2.out.set4 sv',⟨(hs.mono (nzl _)).sameX (fun x hx=>hset x ?_),fun g hg=>?_⟩,XBuild.nil _ _ _⟩
 ·have:=(World.ownsRow.lt hs x hx).1;omega
 ·have:=World.ownsRow.lt hs g hg
  have:=h.bel.size
  omega
theorem XsB.atB {R:World→Value→List Int→Prop} {B:Nat} {w:World} {len:Nat} {kid:Nat→X} {v:Value} (h:XsB R B w len kid v):∃ p cap,v=.slice p len cap∧len≤maxLen ∧
  ∀ i,i<len→∃ b o sv u,p=some ⟨b,o,none⟩∧B≤b∧Head6 w b (o+i*6) (kid i) sv u∧(kid i).InB R B w sv u:=by
 rcases h with ⟨rfl,p,cap,rfl⟩|⟨b,o,cap,U,V,rfl,hB,h1,h2,h3⟩
 ·exact ⟨p,cap,rfl,nzl _,fun i hi=>by omega⟩
 ·exact ⟨_,cap,rfl,Nat.le_trans h1 h2,fun i hi=>⟨b,o,U i,V i,rfl,hB,h3 i hi⟩⟩
theorem Head6.ext {c:Nat} {w w':World} (he:Ext c w w') {b p:Nat} {t:X} {sv v:Value} (hb:c<b) (h:Head6 w b p t sv v):Head6 w' b p t sv v :=
 h.kept (fun a u ha hu=>(wcb (he.block a.block (wbl w a hu) (by omega))).trans hu)
theorem jhu {d d':X} (h:datX d'=datX d):d'.op=d.op∧d'.at_=d.at_∧d'.n=d.n∧d'.s=d.s:=by
 have e0:∀ t,(datX t).op=t.op:=fun t=>by cases t <;> rfl
 have e1:∀ t,(datX t).at_=t.at_:=fun t=>by cases t <;> rfl
 have e2:∀ t,(datX t).n=t.n:=fun t=>by cases t <;> rfl
 have e3:∀ t,(datX t).s=t.s:=fun t=>by cases t <;> rfl
 exact ⟨by rw [←e0 d',h,e0 d],by rw [←e1 d',h,e1 d],by rw [←e2 d',h,e2 d],by rw [←e3 d',h,e3 d]⟩
theorem jmv {d d':X} (h:datX d'=datX d) (su v:Value):jbP (d',su,v)=[.int .i64 d.op,.int .i64 d.at_,.int .i64 d.n,.string d.s,su,v]:=by
 obtain ⟨h0,h1,h2,h3⟩:=jhu h
 simp only [jbP,h0,h1,h2,h3]
def jeL (kid:Nat→X) (k:Nat) (t:X):Nat→X:=fun i=>if i=k then t else kid i
theorem jfy (kid:Nat→X) (k:Nat) (t:X):jeL kid k t k=t:=if_pos rfl
theorem jhI (kid:Nat→X) (k:Nat) (t:X) (i:Nat) (h:i<k):jeL kid k t i=kid i:=if_neg (by omega)
def KidsLike (kid kid':Nat→X) (k:Nat):Prop:=(∀ i,datX (kid' i)=datX (kid i))∧∀ i,i<k→(kid' i).SetsLe 8
theorem KidsLike.nil (kid:Nat→X):KidsLike kid kid 0:=⟨fun _=>rfl,fun i hi=>by omega⟩
theorem KidsLike.put {kid kid':Nat→X} {k:Nat} {t:X} (h:KidsLike kid kid' k) (ht:datX t=datX (kid k)) (hs:t.SetsLe 8):KidsLike kid (jeL kid' k t) (k+1):=by
 refine ⟨fun i=>?_,fun i hi=>?_⟩
 ·by_cases e:i=k
  ·subst e;rw [jfy];exact ht
  ·unfold jeL;rw [if_neg e];exact h.1 i
 ·by_cases e:i=k
  ·subst e;rw [jfy];exact hs
  ·rw [jhI _ _ _ _ (by omega)];exact h.2 i (by omega)
theorem KidsLike.mk {kid kid':Nat→X} {k:Nat} (h:KidsLike kid kid' k) (op a n:Int) (s:ByteArray) (set:List Int) {Y:List Int} (hY:Y.length≤8):datX (.mk op a n s Y k kid')=datX (.mk op a n s set k kid)∧(X.mk op a n s Y k kid').SetsLe 8:=by
 refine ⟨?_,hY,h.2⟩
 show D.mk op a n s k (fun i=>datX (kid' i))=D.mk op a n s k (fun i=>datX (kid i))
 rw [show (fun i=>datX (kid' i))=(fun i=>datX (kid i)) from funext h.1]
theorem XLoop.nextAny {cs:List Nat} {w wr w1 w3:World} {B C R O:Nat} {oA:Obj} {op a n:Int} {s:ByteArray} {set:List Int} {sv:Value} {kid:Nat→X} {k:Nat} {lv:Value} {la:List XR} {SS:List (List Nat)}
  (hL:XLoop cs w wr B C R O oA op a n s set sv kid k lv la SS) {t':X} {su v':Value} {T:List Nat} (hb:Fr cs wr w1) (hd:XOwn w1 t' su v' T) (hn:T.Nodup) (hT:∀ x∈T,wr.heap.size≤x) {o:Obj} {g cap:Nat}
  (hown:w3.ownsRow 0 27 6 (.slice (some ⟨g,0,none⟩) (k+1) cap) (k+1) (jau la++jbP (t',su,v'))) (hg:(w1.alloc o).grownBy w3 lv.ownBlock) (hat:lv.ownBlock=some g∨g=w1.heap.size+1) :
  (w3.heap[O]? = wr.heap[O]?)∧XLoop cs w (w3.setCell ⟨O,5,none⟩ (.slice (some ⟨g,0,none⟩) (k+1) cap)) B C R O oA op a n s set sv (jeL kid k t') (k+1) (.slice (some ⟨g,0,none⟩) (k+1) cap) (la++[(t',su,v')]) (SS++[T])∧∀ x,x<w.heap.size→(w3.setCell ⟨O,5,none⟩ (.slice (some ⟨g,0,none⟩) (k+1) cap)).heap[x]? = w1.heap[x]? := by
 have hk:jeL kid k t' k=t':=jfy kid k t'
 have h:=(hL.kids (kid':=jeL kid k t') (fun i hi=>jhI _ _ _ _ hi)).next (su:=su) (v':=v') (T:=T) hb (by rw [hk];exact hd) hn hT (o:=o) (g:=g) (cap:=cap) (by rw [hk];exact hown) hg hat
 rw [hk] at h
 refine ⟨h.1,h.2,fun x hx=>?_⟩
 obtain ⟨o0,o1,o2,o3,o4,o5,o6,o7,o8⟩:=hL.ord
 have h1:=hL.bel.size
 have h2:=hb.size
 exact (bhs w3 ⟨O,5,none⟩ _ x (by show x≠O;omega)).trans ((hg.block x (by simp;omega) (fun e=>by have:=(hL.rows.out x e.symm).2;omega)).trans (bha w1 o x (by omega)))
end Go.Proofs.YtjmlfacbcfbhdaaGreatDoor
