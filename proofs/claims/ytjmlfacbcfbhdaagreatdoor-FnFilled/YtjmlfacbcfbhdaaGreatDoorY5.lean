/- spec.l2Word at every text: the word of which it is the digits and true, or false. Condition: the text is no longer than a text can be. -/
import Derived.Test.YtjmlfacbcfbhdaaGreatDoorYA
import Derived.Test.YtjmlfacbcfbhdaaGreatDoorY0
import Derived.Test.YtjmlfacbcfbhdaaGreatDoorY2
import Derived.Test.YtjmlfacbcfbhdaaGreatDoorRows
import Derived.WalkKit
import Derived.ProofKit
import Derived.OwnWalk
import Derived.Below
import Derived.Laws.BytesArg
import Derived.Laws.IdiomStrings
set_option maxRecDepth 100000
set_option maxHeartbeats 8000000
namespace Go.Proofs.YtjmlfacbcfbhdaaGreatDoor
open Go.ChangeShapes Go.WideShapes Go.ChangeAt Go.RowKit
def jci (p:Nat→Bool):Nat→Bool
 | 0=>true
 | k+1=>jci p k&&p k
theorem jcj {p:Nat→Bool} {k:Nat}:jci p k=true↔∀ i,i<k→p i=true:=by
 induction k with
 | zero=>simp [jci]
 | succ k ih =>
  simp only [jci,Bool.and_eq_true,ih]
  constructor
  ·rintro ⟨h1,h2⟩ i hi
   rcases Nat.lt_or_ge i k with h|h
   ·exact h1 i h
   ·obtain rfl:i=k:=by omega
    exact h2
  ·intro h
   exact ⟨fun i hi=>h i (by omega),h k (by omega)⟩
theorem jdy {p:Nat→Bool} {n k:Nat} (hk:k<n) (h:p k=false):jci p n=false:=by
 cases e:jci p n with
 | false=>rfl
 | true=>rw [jcj] at e;rw [e k hk] at h;cases h
def fB (a op:Int) (wb sb e n0 l0:Bool):Bool :=
 decide (0≤a)&&(if op=1 then wb&&(e&&l0) else if op=2 then sb&&(n0&&l0) else if op=3 then n0&&e else false)
def jbH (t:D):Bool:=fB t.at_ t.op (decide (-1073741824≤t.n∧t.n≤1073741823)) (symB t.s.data.toList) (t.s.toList == []) (t.n==0) ((t.len:Int)==0)
def jaU:D→Bool
 | .no=>jbH .no
 | .mk op a n s len kid=>jci (fun i=>jaU (kid i)) len&&jbH (.mk op a n s len kid)
theorem jmS (t:D):jaU t=(jci (fun i=>jaU (t.kid i)) t.len&&jbH t):=by
 cases t with
 | no=>simp [jaU,D.len,jci]
 | mk op a n s len kid=>rfl
def jfG (f:Nat→Nat):Nat→Nat
 | 0=>0
 | k+1=>max (jfG f k) (f k)
theorem jjE {f:Nat→Nat} {k m:Nat}:jfG f k≤m↔∀ i,i<k→f i≤m:=by
 induction k with
 | zero=>simp [jfG]
 | succ k ih =>
  simp only [jfG,Nat.max_le,ih]
  constructor
  ·rintro ⟨h1,h2⟩ i hi
   rcases Nat.lt_or_ge i k with h|h
   ·exact h1 i h
   ·obtain rfl:i=k:=by omega
    exact h2
  ·intro h
   exact ⟨fun i hi=>h i (by omega),h k (by omega)⟩
def D.deep:D→Nat
 | .no=>1
 | .mk _ _ _ _ len kid=>jfG (fun i=>(kid i).deep) len+1
theorem D.deep_eq (t:D):t.deep=jfG (fun i=>(t.kid i).deep) t.len+1:=by cases t <;> rfl
theorem D.deep_count (t:D):t.deep≤t.count:=by
 induction t with
 | no=>simp [deep,count]
 | mk op a n s len kid ih =>
  unfold deep count
  have:jfG (fun i=>(kid i).deep) len≤jao (fun i=>(kid i).count) len:=by
   rw [jjE]
   intro i hi
   have:=jbU (fun i=>(kid i).count) i len hi
   have:=ih i
   omega
  omega
def jef (len:Nat) (kid:Nat→D):Bool :=
 jci (fun i=>decide ((kid i).deep≤20)&&jaU (kid i)) len&&decide (jao (fun i=>(kid i).count) len≤1500)
def jdO (g:D→Nat→Option Nat) (kid:Nat→D) (left:Nat):Nat→Option Nat
 | 0=>some left
 | k+1=>(jdO g kid left k).bind (g (kid k))
def look:Nat→Nat→Nat→(Nat→D)→Option Nat
 | 0,left,len,_=>if len=0 then some left else none
 | nest+1,left,len,kid=>if left<len then none else jdO (fun d l=>if jbH d=true then look nest l d.len d.kid else none) kid (left-len) len
theorem jmp (nest:Nat):∀ left len kid,look nest left len kid=if (∀ i,i<len→jaU (kid i)=true∧(kid i).deep≤nest)∧jao (fun i=>(kid i).count) len≤left then some (left-jao (fun i=>(kid i).count) len) else none:=by
 induction nest with
 | zero =>
  intro left len kid
  unfold look
  by_cases h:len=0
  ·subst h;simp [jao]
  ·rw [if_neg h,if_neg]
   rintro ⟨h1,_⟩
   have:=(h1 0 (by omega)).2
   rw [D.deep_eq] at this
   omega
 | succ nest ih =>
  intro left len kid
  have hone:∀ d l,(if jbH d=true then look nest l d.len d.kid else none)=if (jaU d=true∧d.deep≤nest+1)∧d.count-1≤l then some (l-(d.count-1)) else none:=by
   intro d l
   rw [ih,D.count_eq d,D.deep_eq d,jmS d]
   have e:1+jao (fun i=>(d.kid i).count) d.len-1=jao (fun i=>(d.kid i).count) d.len:=by omega
   rw [e]
   have hd:jfG (fun i=>(d.kid i).deep) d.len+1≤nest+1↔∀ i,i<d.len→(d.kid i).deep≤nest:=by
    rw [←jjE (f:=fun i=>(d.kid i).deep)];omega
   by_cases hf:jbH d=true
   ·rw [if_pos hf]
    by_cases hc:(∀ i,i<d.len→jaU (d.kid i)=true∧(d.kid i).deep≤nest)∧jao (fun i=>(d.kid i).count) d.len≤l
    ·rw [if_pos hc,if_pos]
     refine ⟨⟨?_,hd.2 fun i hi=>(hc.1 i hi).2⟩,hc.2⟩
     rw [Bool.and_eq_true,jcj]
     exact ⟨fun i hi=>(hc.1 i hi).1,hf⟩
    ·rw [if_neg hc,if_neg]
     rintro ⟨⟨h1,h3⟩,h2⟩
     rw [Bool.and_eq_true,jcj] at h1
     exact hc ⟨fun i hi=>⟨h1.1 i hi,hd.1 h3 i hi⟩,h2⟩
   ·rw [if_neg hf,if_neg]
    rintro ⟨⟨h1,_⟩,_⟩
    rw [Bool.and_eq_true] at h1
    exact hf h1.2
  have hpos:∀ d:D,1≤d.count:=fun d=>by rw [D.count_eq];omega
  have hfold:∀ l k,jdO (fun d l=>if jbH d=true then look nest l d.len d.kid else none) kid l k=if (∀ i,i<k→jaU (kid i)=true∧(kid i).deep≤nest+1)∧jao (fun i=>(kid i).count) k≤l+k then some (l+k-jao (fun i=>(kid i).count) k) else none:=by
   intro l k
   induction k with
   | zero=>simp [jdO,jao]
   | succ k ihk =>
    unfold jdO
    rw [ihk]
    have hp:=hpos (kid k)
    by_cases h1:(∀ i,i<k→jaU (kid i)=true∧(kid i).deep≤nest+1)∧jao (fun i=>(kid i).count) k≤l+k
    ·rw [if_pos h1,Option.bind_some,hone]
     have h2:=h1.2
     by_cases h3:(jaU (kid k)=true∧(kid k).deep≤nest+1)∧(kid k).count-1≤l+k-jao (fun i=>(kid i).count) k
     ·rw [if_pos h3,if_pos]
      ·simp only [jao];congr 1;have:=h3.2;omega
      ·refine ⟨fun i hi=>?_,?_⟩
       ·rcases Nat.lt_or_ge i k with h|h
        ·exact h1.1 i h
        ·obtain rfl:i=k:=by omega
         exact h3.1
       ·simp only [jao];have:=h3.2;omega
     ·rw [if_neg h3,if_neg]
      rintro ⟨h4,h5⟩
      apply h3
      refine ⟨h4 k (by omega),?_⟩
      simp only [jao] at h5;omega
    ·rw [if_neg h1,if_neg]
     ·rfl
     ·rintro ⟨h4,h5⟩
      apply h1
      refine ⟨fun i hi=>h4 i (by omega),?_⟩
      simp only [jao] at h5;omega
  unfold look
  have hlen:len≤jao (fun i=>(kid i).count) len:=by
   clear hfold hone
   induction len with
   | zero=>simp
   | succ k ihk=>simp only [jao];have:=hpos (kid k);omega
  by_cases hl:left<len
  ·rw [if_pos hl,if_neg]
   rintro ⟨_,h⟩;omega
  ·rw [if_neg hl,hfold,show left-len+len=left from by omega]
theorem jkM (len:Nat) (kid:Nat→D):jef len kid=(look 20 1500 len kid).isSome:=by
 rw [jmp]
 unfold jef
 by_cases h:(∀ i,i<len→jaU (kid i)=true∧(kid i).deep≤20)∧jao (fun i=>(kid i).count) len≤1500
 ·rw [if_pos h,Option.isSome_some,Bool.and_eq_true,jcj]
  exact ⟨fun i hi=>by rw [Bool.and_eq_true];exact ⟨dqt (h.1 i hi).2,(h.1 i hi).1⟩,dqt h.2⟩
 ·rw [if_neg h,Option.isSome_none,Bool.eq_false_iff,Ne,Bool.and_eq_true,jcj]
  rintro ⟨h1,h2⟩
  apply h
  refine ⟨fun i hi=>?_,of_decide_eq_true h2⟩
  have:=h1 i hi
  rw [Bool.and_eq_true] at this
  exact ⟨this.2,of_decide_eq_true this.1⟩
def TokW (l:List Tok):Prop:=∀ t∈l,t.kind=4→t.text.size≤12
def wsum (ds:List D):Nat:=(ds.map fun d=>d.weight+1).sum
theorem jie (ds:List D) (d:D):wsum (ds++[d])=wsum ds+(d.weight+1):=by simp [wsum]
def Wt (o:List Tok→Rdr D):Prop:=∀ l d r,TokW l→o l=.ok d r→d.weight+1+13*r.length≤13*l.length
theorem TokW.suffix {a r:List Tok} (h:TokW (a++r)):TokW r:=fun t ht=>h t (List.mem_append_right _ ht)
theorem jo7 {E:Int} {o:List Tok→Rdr D} (ho:Wt o) (hl:Less o):∀ (m:Nat) (acc:List D) (l:List Tok) (ds:List D) (r:List Tok),TokW l→jb4 E o m acc l=.ok ds r→wsum ds+13*r.length+13≤wsum acc+13*l.length:=by
 intro m
 induction m with
 | zero=>intro acc l ds r _ h;simp [jb4] at h
 | succ m ih =>
  intro acc l ds r hw h
  cases l with
  | nil=>simp [jb4] at h
  | cons t l =>
   unfold jb4 at h
   split at h
   ·injection h with h1 h2
    subst h1 h2
    simp;omega
   ·cases e:o (t::l) with
    | bad p=>rw [e] at h;simp at h
    | ok d r1 =>
     rw [e] at h
     have h1:=ho _ _ _ hw e
     obtain ⟨_,a,ha⟩:=hl _ _ _ e
     have h2:=ih _ _ _ _ (by rw [ha] at hw;exact hw.suffix) h
     rw [jie] at h2
     omega
theorem jnt (ds:List D):ds.length+(ds.map D.weight).sum=wsum ds:=by
 unfold wsum
 induction ds with
 | nil=>rfl
 | cons d ds ih=>simp only [List.map_cons,List.sum_cons,List.length_cons] at ih ⊢;omega
theorem jhw (t:Tok) (ds:List D):(jir t ds).weight=wsum ds:=by
 have e:(jir t ds).weight=0+(ds.length+jao (fun i=>(jav ds i).weight) ds.length):=rfl
 rw [e,jh7 ds D.weight,Nat.zero_add,jnt]
theorem jpV (E:Int):∀ f,Wt (one E f):=by
 intro f
 induction f with
 | zero=>intro l d r _ h;simp [one] at h
 | succ f ih =>
  intro l d r hw h
  cases l with
  | nil=>simp [one] at h
  | cons t l =>
   have ht:=hw t (by simp)
   unfold one at h
   split at h
   ·injection h with h1 h2;subst h1 h2
    have:(dNum t).weight=0:=rfl
    simp;omega
   ·split at h
    ·rename_i hk
     injection h with h1 h2;subst h1 h2
     have e:(dSym t).weight=t.text.size+0:=rfl
     have:=ht hk
     simp;omega
    ·split at h
     ·simp at h
     ·cases e:jb4 E (one E f) (l.length+1) [] l with
      | bad p=>rw [e] at h;simp at h
      | ok ds r1 =>
       rw [e] at h
       simp only at h
       injection h with h1 h2
       subst h1 h2
       have h3:=jo7 ih (je1 E f) _ _ _ _ _ (fun t' ht'=>hw t' (by simp [ht'])) e
       rw [jhw]
       simp [wsum] at h3 ⊢
       omega
theorem jph {o:List Tok→Rdr D} (ho:Wt o) (hl:Less o):∀ (m:Nat) (acc:List D) (l:List Tok) (ds:List D) (r:List Tok),TokW l→jfM o m acc l=.ok ds r→wsum ds≤wsum acc+13*l.length:=by
 intro m
 induction m with
 | zero=>intro acc l ds r _ h;simp [jfM] at h;rw [h.1];omega
 | succ m ih =>
  intro acc l ds r hw h
  cases l with
  | nil=>simp [jfM] at h;rw [h.1];omega
  | cons t l =>
   unfold jfM at h
   cases e:o (t::l) with
   | bad p=>rw [e] at h;simp at h
   | ok d r1 =>
    rw [e] at h
    have h1:=ho _ _ _ hw e
    obtain ⟨_,a,ha⟩:=hl _ _ _ e
    have h2:=ih _ _ _ _ (by rw [ha] at hw;exact hw.suffix) h
    rw [jie] at h2
    omega
theorem jiI (ds:List D):jah ds.length (jav ds)=wsum ds:=by
 unfold jah
 rw [jh7 ds D.weight,jnt]
theorem jmN (E:Int) (ts:List Tok) (ds:List D) (r:List Tok) (hw:TokW ts) (hl:ts.length≤4000) (h:jew E ts=.ok ds r):jah ds.length (jav ds)≤52000:=by
 rw [jiI]
 have:=jph (jpV E (ts.length+1)) (je1 E (ts.length+1)) _ _ _ _ _ hw h
 simp [wsum] at this ⊢
 omega
theorem joO (s:ByteArray):TokW (toks s).1:=by
 intro t ht hk
 obtain ⟨i,hi,rfl⟩:=List.mem_iff_getElem.1 ht
 have:=((jda s).1 i _ (lgg hi)).2.sym hk
 unfold symB at this
 simp only [Bool.and_eq_true,decide_eq_true_eq] at this
 have h2:=this.1.1.2
 simpa using h2
def jeR (s:ByteArray):Rdr (List D) :=
 if (toks s).2 = -1 then match jew s.size (toks s).1 with
  | .bad p=>.bad p
  | .ok ds _=>if jef ds.length (jav ds)=true then .ok ds [] else .bad 0
 else .bad (toks s).2
theorem jpt (s:ByteArray) (hs:s.size≤4000):joU (toks s).1:=by
 intro t ht
 obtain ⟨i,hi,rfl⟩:=List.mem_iff_getElem.1 ht
 have:=((jda s).1 i _ (lgg hi)).2
 exact ⟨this.kind,this.n,by have:=this.fit;omega⟩
theorem jic (s:ByteArray) (hs:¬ s.size≤4000):toks s=([],0):=by unfold toks;rw [if_neg hs]
theorem jhb (W:World) (c:Int) (b:UInt8) (hb:(b.toNat:Int)=c) :
  Sem.run Tryz.prog (convert 22 9 (Value.slice (some ⟨W.heap.size,0,none⟩) 1 1)) (W.alloc (.cells #[.int .u8 c] 5)) =
   .ok (.string ⟨#[b]⟩) (W.alloc (.cells #[.int .u8 c] 5)):=by
 have:=run_convert_bytes_back (P:=Tryz.prog) (W.alloc (.cells #[.int .u8 c] 5)) 22 9 5 ⟨W.heap.size,0,none⟩ 1 [b] Tryz.underlying22 Tryz.underlying5 Tryz.underlying9 (fun j hj=>by
  have hj0:j=0:=by simp at hj;omega
  subst hj0
  rw [show (⟨W.heap.size,0,none⟩:Addr).add 0=⟨W.heap.size,0,none⟩ from rfl,World.cell?_alloc_mark]
  simp [hb])
 simpa using this
theorem jeg (k:Nat):((48+UInt8.ofNat (k % 10)).toNat:Int)=48+(k:Int) % 10:=by
 have e:UInt8.ofNat (48+k % 10)=48+UInt8.ofNat (k % 10):=by rw [UInt8.ofNat_add];rfl
 rw [←e,UInt8.toNat_ofNat'];omega
theorem jkd (n:Nat) (h0:0<n) (h1:n<9223372036854775808) (w:World) :
  Calls Tryz.prog 109 #[.int .i64 n] w fun e w'=>e=.returned (.string ⟨(Lib.decDigits n).toArray⟩)∧Below w.heap.size w w':=by
 have t0:((n:Int)==0)=false:=by simp;omega
 have t9:decide ((n:Int)<0)=false:=by simp
 go_enter Tryz.func109,Tryz.ntmps109
 go_wp2
 go_loopw [0,4,5] (fun x o d w1=>∃ (k:Nat) (l:List UInt8),k≤n∧x=.int .i64 k∧o=.string ⟨l.toArray⟩∧decD k++l=Lib.decDigits n∧Below w.heap.size w w1) (fun x _ _ _=>(intOf x).toNat)
 case atStart=>exact ⟨n,[],nlr _,rfl,rfl,by rw [jeW n h0];simp,brf _ _⟩
 case round =>
  obtain ⟨k,l,hk,rfl,rfl,hl,hg⟩:=hrel
  have hlen:=jlM k n l (by omega) hl
  have HL:Hid (decD k++l=Lib.decDigits n):=hl
  clear hl
  by_cases hz:k=0
  ·subst hz
   go_wp2
   go_ret
   have e:=HL.out
   rw [jfj,List.nil_append] at e
   subst e
   exact ⟨rfl,hg⟩
  ·have t1:((k:Int) != 0)=true:=by simp;omega
   have t2:¬ ((k:Int) % 10<0):=by omega
   have hr:=jhb wr (48+(k:Int) % 10) _ (jeg k)
   go_wp2
   refine ⟨⟨k / 10,(48+UInt8.ofNat (k % 10))::l,by omega,by simp,by rw [jeZ],jgL k n (by omega) l HL.out,hg.alloc hg.size _⟩,?_⟩
   simp [intOf];omega
theorem jkc (n:Nat) (h0:0<n) (h1:n≤9223372036854775808) (w:World) :
  Calls Tryz.prog 109 #[.int .i64 (-(n:Int))] w fun e w'=>e=.returned (.string ⟨(45::Lib.decDigits n).toArray⟩)∧Below w.heap.size w w':=by
 have t0:(-(n:Int)==0)=false:=by simp;omega
 have t9:decide (-(n:Int)<0)=true:=by simp;omega
 go_enter Tryz.func109,Tryz.ntmps109
 go_wp2
 go_loopw [0,4,5] (fun x o d w1=>∃ (k:Nat) (l:List UInt8),k≤n∧x=.int .i64 (-(k:Int))∧o=.string ⟨l.toArray⟩∧decD k++l=Lib.decDigits n∧Below w.heap.size w w1) (fun x _ _ _=>(-(intOf x)).toNat)
 case atStart=>exact ⟨n,[],nlr _,rfl,rfl,by rw [jeW n h0];simp,brf _ _⟩
 case round =>
  obtain ⟨k,l,hk,rfl,rfl,hl,hg⟩:=hrel
  have hlen:=jlM k n l (by omega) hl
  have HL:Hid (decD k++l=Lib.decDigits n):=hl
  clear hl
  by_cases hz:k=0
  ·subst hz
   go_wp2
   go_ret
   have e:=HL.out
   rw [jfj,List.nil_append] at e
   subst e
   exact ⟨by rw [←jeZ];rfl,hg⟩
  ·have t1:(-(k:Int) != 0)=true:=by simp;omega
   by_cases t2:0<(k:Int) % 10
   ·have hr:=jhb wr (48+(k:Int) % 10) _ (jeg k)
    go_wp2
    refine ⟨⟨k / 10,(48+UInt8.ofNat (k % 10))::l,by omega,by simp,by rw [jeZ],jgL k n (by omega) l HL.out,hg.alloc hg.size _⟩,?_⟩
    simp [intOf];omega
   ·have hr:=jhb wr (48 + -((k:Int) % 10)) (48+UInt8.ofNat (k % 10)) (by rw [jeg k];omega)
    go_wp2
    refine ⟨⟨k / 10,(48+UInt8.ofNat (k % 10))::l,by omega,by simp,by rw [jeZ],jgL k n (by omega) l HL.out,hg.alloc hg.size _⟩,?_⟩
    simp [intOf];omega
theorem jis (w:World) :
  Calls Tryz.prog 109 #[.int .i64 0] w fun e w'=>e=.returned (.string ⟨#[48]⟩)∧Below w.heap.size w w':=by
 go_enter Tryz.func109,Tryz.ntmps109
 go_wp2
 go_ret
 exact ⟨rfl,brf _ _⟩
theorem jbn (n:Int) (h0:-9223372036854775808≤n) (h1:n≤9223372036854775807) (w:World) :
  Calls Tryz.prog 109 #[.int .i64 n] w fun e w'=>e=.returned (.string ⟨(Lib.itoa n).toArray⟩)∧Below w.heap.size w w':=by
 rcases Int.lt_trichotomy n 0 with h|h|h
 ·have:=jkc n.natAbs (by omega) (by omega) w
  rw [show -(n.natAbs:Int)=n from by omega] at this
  unfold Lib.itoa
  rw [if_pos h]
  exact this
 ·subst h
  have:=jis w
  unfold Lib.itoa
  rw [if_neg (by omega),show (0:Int).toNat=0 from rfl,Lib.decDigits_one (by omega)]
  exact this
 ·have:=jkd n.toNat (by omega) (by omega) w
  rw [show (n.toNat:Int)=n from by omega] at this
  unfold Lib.itoa
  rw [if_neg (by omega)]
  exact this
def sg (m:Bool) (r:List UInt8):Int:=if m then -(val r:Int) else val r
theorem jfP (r:List UInt8):sg true r = -(val r:Int):=rfl
theorem jd0 (r:List UInt8):sg false r=(val r:Int):=rfl
def mg (m:Bool) (r:List UInt8):Option Int :=
 if Lib.decDigits (val r)=r∧(m=true→val r≠0)∧-1073741824≤sg m r∧sg m r≤1073741823 then some (sg m r) else none
theorem jjI {m:Bool} {r:List UInt8} {v:Int} (h1:Lib.decDigits (val r)=r) (h2:m=true→val r≠0) (h3:-1073741824≤v) (h4:v≤1073741823) (h5:v=sg m r):mg m r=some v:=by
 subst h5
 unfold mg
 rw [if_pos ⟨h1,h2,h3,h4⟩]
theorem jc3 {m:Bool} {r:List UInt8} {v:Int} (h:mg m r=some v):Lib.decDigits (val r)=r∧(m=true→val r≠0)∧-1073741824≤v∧v≤1073741823∧v=sg m r:=by
 unfold mg at h
 split at h
 ·rename_i hc
  injection h with h
  obtain ⟨h1,h2,h3,h4⟩:=hc
  rw [h] at h3 h4
  exact ⟨h1,h2,h3,h4,h.symm⟩
 ·cases h
theorem jn4 {m:Bool} {r:List UInt8} {v:Int} (h:mg m r=some v):val r≤1073741824:=by
 obtain ⟨_,_,h3,h4,h5⟩:=jc3 h
 cases m <;> simp only [jfP,jd0] at h5 <;> omega
theorem jjF {m:Bool} {r:List UInt8} (h:r.length<1∨10<r.length):mg m r=none:=by
 cases e:mg m r with
 | none=>rfl
 | some v =>
  have hv:=jn4 e
  have hd:=(jc3 e).1
  have h1:=jep (val r)
  have h2:=jg4 9 (val r) (by omega)
  rw [hd] at h1 h2
  omega
theorem jmu {m:Bool} {r:List UInt8} (c:UInt8) (hc:c∈r) (h:¬ jcm c):mg m r=none:=by
 cases e:mg m r with
 | none=>rfl
 | some v =>
  have hd:=(jc3 e).1
  rw [←hd] at hc
  exact absurd (jdN _ c hc) h
theorem jjG {m:Bool} {r:List UInt8} (h:¬ Lib.decDigits (val r)=r):mg m r=none:=by
 cases e:mg m r with
 | none=>rfl
 | some v=>exact absurd (jc3 e).1 h
theorem jpa {r:List UInt8} (h:val r=0):mg true r=none:=by
 cases e:mg true r with
 | none=>rfl
 | some v=>exact absurd h ((jc3 e).2.1 rfl)
theorem jjH {m:Bool} {r:List UInt8} (h:¬ (-1073741824≤sg m r∧sg m r≤1073741823)):mg m r=none:=by
 cases e:mg m r with
 | none=>rfl
 | some v =>
  obtain ⟨_,_,h3,h4,h5⟩:=jc3 e
  subst h5
  exact absurd ⟨h3,h4⟩ h
theorem jjk {l:List UInt8} (h:l.head? = some 45):jbf l=mg true l.tail:=by
 have hl:l=45::l.tail:=by
  cases l with
  | nil=>simp at h
  | cons c r=>simp at h;subst h;rfl
 cases e:mg true l.tail with
 | some v =>
  obtain ⟨h1,h2,h3,h4,h5⟩:=jc3 e
  have h2:=h2 rfl
  rw [jfP] at h5
  refine jjX h3 h4 ?_
  rw [jeY v (by omega)]
  have e3:v.natAbs=val l.tail:=by omega
  rw [e3,h1]
  exact hl.symm
 | none =>
  refine jgF fun v h0 h1 h2=>?_
  by_cases hv:v<0
  ·rw [jeY v hv] at h2
   have h3:l.tail=Lib.decDigits v.natAbs:=by rw [←h2];rfl
   have h4:val l.tail=v.natAbs:=by rw [h3,jbV]
   have:=jjI (m:=true) (r:=l.tail) (v:=v) (by rw [h4,h3]) (fun _=>by omega) h0 h1 (by rw [jfP];omega)
   rw [e] at this
   cases this
  ·rw [jcb v (by omega)] at h2
   rw [←h2] at h
   exact jds _ h
theorem jgG {l:List UInt8} (h:l.head?≠some 45):jbf l=mg false l:=by
 cases e:mg false l with
 | some v =>
  obtain ⟨h1,_,h3,h4,h5⟩:=jc3 e
  rw [jd0] at h5
  refine jjX h3 h4 ?_
  rw [jcb v (by omega)]
  have e3:v.toNat=val l:=by omega
  rw [e3,h1]
 | none =>
  refine jgF fun v h0 h1 h2=>?_
  by_cases hv:v<0
  ·rw [jeY v hv] at h2
   rw [←h2] at h
   exact h rfl
  ·rw [jcb v (by omega)] at h2
   have h4:val l=v.toNat:=by rw [←h2,jbV]
   have:=jjI (m:=false) (r:=l) (v:=v) (by rw [h4];exact h2) (by simp) h0 h1 (by rw [jd0];omega)
   rw [e] at this
   cases this
theorem jd5 (s:ByteArray) (k:Nat) (h:k<s.size):s.data.toList.take (k+1)=s.data.toList.take k++[s[k]]:=by
 rw [List.take_succ_eq_append_getElem (by simpa using h)];rfl
theorem jeV (s:ByteArray) (k:Nat) (h:k<s.size):s[k]∈s.data.toList:=by
 have:s[k]=s.data.toList[k]'(by simpa using h):=rfl
 rw [this];exact List.getElem_mem _
theorem jbd (c:UInt8) (w:World):Calls Tryz.prog 106 #[.int .u8 c.toNat] w fun e w'=>e=.returned (.bool (digB c))∧w'=w:=by
 have hc:c.toNat<256:=c.toNat_lt
 by_cases h1:(48:Int)≤c.toNat
 ·by_cases h2:(c.toNat:Int)≤57
  ·have HN:Hid (digB c=true):=show digB c=true by unfold digB;simp only [Bool.and_eq_true,decide_eq_true_eq];omega
   go_enter Tryz.func106,Tryz.ntmps106
   go_wp2
   go_ret
   exact ⟨by rw [HN.out];rfl,rfl⟩
  ·have HN:Hid (digB c=false):=show digB c=false by unfold digB;rw [Bool.and_eq_false_iff,decide_eq_false_iff_not,decide_eq_false_iff_not];omega
   go_enter Tryz.func106,Tryz.ntmps106
   go_wp2
   go_ret
   exact ⟨by rw [HN.out];rfl,rfl⟩
 ·have HN:Hid (digB c=false):=show digB c=false by unfold digB;rw [Bool.and_eq_false_iff,decide_eq_false_iff_not,decide_eq_false_iff_not];omega
  go_enter Tryz.func106,Tryz.ntmps106
  go_wp2
  go_ret
  exact ⟨by rw [HN.out];rfl,rfl⟩
theorem jjs {c:UInt8} (h:digB c=true):jcm c:=by
 unfold digB at h;unfold jcm;simp only [Bool.and_eq_true,decide_eq_true_eq] at h;exact h
theorem jlU {c:UInt8} (h:digB c=false):¬ jcm c:=by
 intro hd;unfold jcm at hd;unfold digB at h;rw [Bool.and_eq_false_iff,decide_eq_false_iff_not,decide_eq_false_iff_not] at h;omega
theorem jf3 (l:List UInt8) (k:Nat) (hd:∀ c∈l.take k,jcm c):val (l.take k)<10 ^ (l.take k).length:=by
 have key:∀ (m:List UInt8),(∀ c∈m,jcm c)→∀ a j,a<10 ^ j→jf2 a m<10 ^ (j+m.length):=by
  intro m
  induction m with
  | nil=>intro _ a j h;exact h
  | cons c r ih =>
   intro hm a j h
   have hc:=hm c List.mem_cons_self
   unfold jcm at hc
   have:=ih (fun d h=>hm d (List.mem_cons_of_mem _ h)) (a*10+(c.toNat-48)) (j+1) (by rw [Nat.pow_succ];omega)
   rw [show j+(c::r).length=j+1+r.length from by simp;omega]
   exact this
 have:=key (l.take k) hd 0 0 (by omega)
 simpa [val] using this
def IsWord (o:Option Int) (e:Ending):Prop:=∃ n:Int,e=.returned (.tuple #[.int .i64 n,.bool o.isSome])∧∀ v,o=some v→n=v
theorem IsWord.no {o:Option Int} {e:Ending} (n:Int) (h:o=none) (he:e=.returned (.tuple #[.int .i64 n,.bool false])):IsWord o e:=by
 subst h;exact ⟨n,he,by simp⟩
theorem IsWord.yes {o:Option Int} {e:Ending} (n:Int) (h:o=some n) (he:e=.returned (.tuple #[.int .i64 n,.bool true])):IsWord o e:=by
 subst h;exact ⟨n,he,by simp⟩
theorem jia (s:ByteArray):(s.extract 1 s.size).data.toList=s.data.toList.tail:=by
 rw [ByteArray.data_extract,Array.toList_extract]
 simp only [List.extract]
 rw [List.take_of_length_le (by simp)]
 simp
theorem jhG (s:ByteArray) (h:0<s.size):s.data.toList.head? = some s[0]:=by
 have:s[0]=s.data.toList[0]'(by simpa using h):=rfl
 rw [this,List.head?_eq_getElem?,lgg]
theorem jlz (s:ByteArray) (w:World) (hs:s.size≤maxLen) (h0:0<s.size) (hm:(s[0].toNat:Int)=45) :
  Calls Tryz.prog 100 #[.string s] w fun e w'=>IsWord (jbf s.data.toList) e∧Below w.heap.size w w':=by
 unfold maxLen at hs
 have HW0:Hid (jbf s.data.toList=mg true (s.extract 1 s.size).data.toList):=by
  rw [jia]
  refine jjk ?_
  rw [jhG s h0]
  congr 1
  exact UInt8.toNat_inj.1 (by rw [show (45:UInt8).toNat=45 from rfl];omega)
 have hl:(s.extract 1 s.size).data.toList.length=s.size-1:=by simp
 have hz:(0:Int)<s.size:=by omega
 by_cases h1:((s.size-1:Nat):Int)<1
 ·have HN:Hid (jbf s.data.toList=none):=by rw [HW0.out];exact jjF (by omega)
  clear HW0 hl
  go_enter Tryz.func100,Tryz.ntmps100
  go_wp2
  go_ret2
  exact ⟨.no _ HN.out rfl,brf _ _⟩
 by_cases h2:(10:Int)<((s.size-1:Nat):Int)
 ·have HN:Hid (jbf s.data.toList=none):=by rw [HW0.out];exact jjF (by omega)
  clear HW0 hl
  go_enter Tryz.func100,Tryz.ntmps100
  go_wp2
  go_ret2
  exact ⟨.no _ HN.out rfl,brf _ _⟩
 clear hl
 have hsz:(s.extract 1 s.size).size=s.size-1:=by simp
 go_enter Tryz.func100,Tryz.ntmps100
 go_wp2
 generalize s.extract 1 s.size=r at HW0 hsz ⊢
 have HW:Hid (jbf s.data.toList=mg true r.data.toList):=HW0
 have hr10:r.size≤10:=by omega
 clear HW0 h1 h2 hsz
 go_loop [5,6] (fun x i=>∃ k:Nat,k≤r.size∧i=.int .i64 k∧(∀ c∈r.data.toList.take k,jcm c)∧x=.int .i64 (val (r.data.toList.take k))) (fun _ i=>r.size-(intOf i).toNat)
 case atStart=>exact ⟨0,nzl _,rfl,by simp,rfl⟩
 case round =>
  obtain ⟨k,hk,rfl,hd,rfl⟩:=hrel
  have hlen:(r.data.toList.take k).length=k:=by rw [List.length_take];simp;omega
  have hv:=jf3 r.data.toList k hd
  rw [hlen] at hv
  have hp:10 ^ k≤10 ^ 10:=Nat.pow_le_pow_right (by omega) (by omega)
  have hv2:val (r.data.toList.take k)<10000000000:=by omega
  clear hv hp hlen
  have HD:Hid (∀ c∈r.data.toList.take k,jcm c):=hd
  clear hd
  by_cases hlt:(k:Int)<r.size
  ·have hlt':k<r.size:=by omega
   have HT:Hid (r.data.toList.take (k+1)=r.data.toList.take k++[r[k]]):=jd5 r k hlt'
   have HM:Hid (r[k]∈r.data.toList):=jeV r k hlt'
   cases hdg:digB r[k] with
   | false =>
    have HN:Hid (jbf s.data.toList=none):=by rw [HW.out];exact jmu r[k] HM.out (jlU hdg)
    go_wp2_with (go_at_call 106;refine (jbd r[k] _).mono ?_;rintro e w1 ⟨rfl,rfl⟩)
    go_ret2
    exact ⟨.no _ HN.out rfl,brf _ _⟩
   | true =>
   have hig:=jjs hdg
   unfold jcm at hig
   go_wp2_with (go_at_call 106;refine (jbd r[k] _).mono ?_;rintro e w1 ⟨rfl,rfl⟩)
   refine ⟨⟨k+1,by omega,by go_num,?_,?_⟩,by simp [intOf];omega⟩
   ·rw [HT.out]
    intro c hc
    rcases lma.1 hc with hc|hc
    ·exact HD.out c hc
    ·simp only [List.mem_singleton] at hc
     subst hc
     unfold jcm;omega
   ·rw [HT.out,jeE]
    have:(((val (List.take k r.data.toList)*10+(r[k].toNat-48):Nat)):Int)=10 * ↑(val (List.take k r.data.toList)) + ↑r[k].toNat-48:=by omega
    rw [this]
  ·have hke:k=r.size:=by omega
   subst hke
   rw [List.take_of_length_le (by simp)] at hv2 ⊢
   have hvn:∃ n:Nat,val r.data.toList=n:=⟨_,rfl⟩
   obtain ⟨n,hn⟩:=hvn
   have HV:Hid (val r.data.toList=n):=hn
   rw [hn] at hv2 ⊢
   clear hn HD
   have hst:r.toList=r.data.toList:=ByteArray.toList_eq r
   by_cases hd:Lib.decDigits n=r.data.toList
   ·have ht:(Lib.itoa (n:Int)==r.toList)=true:=by
     rw [jcb _ (by omega),hst,Int.toNat_natCast,hd];simp
    have HD:Hid (Lib.decDigits (val r.data.toList)=r.data.toList):=by rw [HV.out];exact hd
    clear hd hst
    by_cases hz:n=0
    ·have hz':((n:Int)==0)=true:=by rw [hz];rfl
     have HN:Hid (jbf s.data.toList=none):=by rw [HW.out];exact jpa (by rw [HV.out];exact hz)
     clear hz
     go_wp2_with (first|(go_at_call 109;refine (jbn _ (by omega) (by omega) _).mono ?_;rintro e w1 ⟨rfl,hb1⟩)|go_in)
     go_ret2
     exact ⟨.no _ HN.out rfl,hb1⟩
    have hz':((n:Int)==0)=false:=by simp;omega
    by_cases hr:(n:Int)≤1073741824
    ·have HN:Hid (jbf s.data.toList=some (-(n:Int))):=by
      rw [HW.out];exact jjI HD.out (fun _=>by rw [HV.out];exact hz) (by omega) (by omega) (by rw [jfP,HV.out])
     go_wp2_with (first|(go_at_call 109;refine (jbn _ (by omega) (by omega) _).mono ?_;rintro e w1 ⟨rfl,hb1⟩)|go_in)
     go_ret2
     exact ⟨.yes _ HN.out (by simp),hb1⟩
    ·have HN:Hid (jbf s.data.toList=none):=by rw [HW.out];exact jjH (by rw [jfP,HV.out];omega)
     go_wp2_with (first|(go_at_call 109;refine (jbn _ (by omega) (by omega) _).mono ?_;rintro e w1 ⟨rfl,hb1⟩)|go_in)
     go_ret2
     exact ⟨.no _ HN.out rfl,hb1⟩
   ·have HN:Hid (jbf s.data.toList=none):=by rw [HW.out];exact jjG (by rw [HV.out];exact hd)
    have ht:(Lib.itoa (n:Int)==r.toList)=false:=by
     rw [jcb _ (by omega),hst,Int.toNat_natCast];simp [hd]
    clear hd hst
    go_wp2_with (first|(go_at_call 109;refine (jbn _ (by omega) (by omega) _).mono ?_;rintro e w1 ⟨rfl,hb1⟩)|go_in)
    go_ret2
    exact ⟨.no _ HN.out rfl,hb1⟩
theorem jnr (s:ByteArray) (w:World) (hs:s.size≤maxLen) (h0:0<s.size) (hm:¬ (s[0].toNat:Int)=45) :
  Calls Tryz.prog 100 #[.string s] w fun e w'=>IsWord (jbf s.data.toList) e∧Below w.heap.size w w':=by
 unfold maxLen at hs
 have HW0:Hid (jbf s.data.toList=mg false s.data.toList):=by
  refine jgG ?_
  rw [jhG s h0]
  intro e
  injection e with e
  exact hm (by rw [e];rfl)
 have hl:s.data.toList.length=s.size:=by simp
 have hz:(0:Int)<s.size:=by omega
 have h1:¬ (s.size:Int)<1:=by omega
 have hm':((s[0].toNat:Int)==45)=false:=by simpa using hm
 by_cases h2:(10:Int)<(s.size:Int)
 ·have HN:Hid (jbf s.data.toList=none):=by rw [HW0.out];exact jjF (by omega)
  clear HW0 hl
  go_enter Tryz.func100,Tryz.ntmps100
  go_wp2
  go_ret2
  exact ⟨.no _ HN.out rfl,brf _ _⟩
 clear hl
 go_enter Tryz.func100,Tryz.ntmps100
 go_wp2
 have HW:Hid (jbf s.data.toList=mg false s.data.toList):=HW0
 have hr10:s.size≤10:=by omega
 clear HW0 hm' h1 h2
 go_loop [5,6] (fun x i=>∃ k:Nat,k≤s.size∧i=.int .i64 k∧(∀ c∈s.data.toList.take k,jcm c)∧x=.int .i64 (val (s.data.toList.take k))) (fun _ i=>s.size-(intOf i).toNat)
 case atStart=>exact ⟨0,nzl _,rfl,by simp,rfl⟩
 case round =>
  obtain ⟨k,hk,rfl,hd,rfl⟩:=hrel
  have hlen:(s.data.toList.take k).length=k:=by rw [List.length_take];simp;omega
  have hv:=jf3 s.data.toList k hd
  rw [hlen] at hv
  have hp:10 ^ k≤10 ^ 10:=Nat.pow_le_pow_right (by omega) (by omega)
  have hv2:val (s.data.toList.take k)<10000000000:=by omega
  clear hv hp hlen
  have HD:Hid (∀ c∈s.data.toList.take k,jcm c):=hd
  clear hd
  by_cases hlt:(k:Int)<s.size
  ·have hlt':k<s.size:=by omega
   have HT:Hid (s.data.toList.take (k+1)=s.data.toList.take k++[s[k]]):=jd5 s k hlt'
   have HM:Hid (s[k]∈s.data.toList):=jeV s k hlt'
   cases hdg:digB s[k] with
   | false =>
    have HN:Hid (jbf s.data.toList=none):=by rw [HW.out];exact jmu s[k] HM.out (jlU hdg)
    go_wp2_with (go_at_call 106;refine (jbd s[k] _).mono ?_;rintro e w1 ⟨rfl,rfl⟩)
    go_ret2
    exact ⟨.no _ HN.out rfl,brf _ _⟩
   | true =>
   have hig:=jjs hdg
   unfold jcm at hig
   go_wp2_with (go_at_call 106;refine (jbd s[k] _).mono ?_;rintro e w1 ⟨rfl,rfl⟩)
   refine ⟨⟨k+1,by omega,by go_num,?_,?_⟩,by simp [intOf];omega⟩
   ·rw [HT.out]
    intro c hc
    rcases lma.1 hc with hc|hc
    ·exact HD.out c hc
    ·simp only [List.mem_singleton] at hc
     subst hc
     unfold jcm;omega
   ·rw [HT.out,jeE]
    have:(((val (List.take k s.data.toList)*10+(s[k].toNat-48):Nat)):Int)=10 * ↑(val (List.take k s.data.toList)) + ↑s[k].toNat-48:=by omega
    rw [this]
  ·have hke:k=s.size:=by omega
   subst hke
   rw [List.take_of_length_le (by simp)] at hv2 ⊢
   have hvn:∃ n:Nat,val s.data.toList=n:=⟨_,rfl⟩
   obtain ⟨n,hn⟩:=hvn
   have HV:Hid (val s.data.toList=n):=hn
   rw [hn] at hv2 ⊢
   clear hn HD
   have hst:s.toList=s.data.toList:=ByteArray.toList_eq s
   by_cases hd:Lib.decDigits n=s.data.toList
   ·have ht:(Lib.itoa (n:Int)==s.toList)=true:=by
     rw [jcb _ (by omega),hst,Int.toNat_natCast,hd];simp
    have HD:Hid (Lib.decDigits (val s.data.toList)=s.data.toList):=by rw [HV.out];exact hd
    clear hd hst
    by_cases hr:(n:Int)≤1073741823
    ·have HN:Hid (jbf s.data.toList=some (n:Int)):=by
      rw [HW.out];exact jjI HD.out (by simp) (by omega) (by omega) (by rw [jd0,HV.out])
     go_wp2_with (first|(go_at_call 109;refine (jbn _ (by omega) (by omega) _).mono ?_;rintro e w1 ⟨rfl,hb1⟩)|go_in)
     go_ret2
     exact ⟨.yes _ HN.out (by simp),hb1⟩
    ·have HN:Hid (jbf s.data.toList=none):=by rw [HW.out];exact jjH (by rw [jd0,HV.out];omega)
     go_wp2_with (first|(go_at_call 109;refine (jbn _ (by omega) (by omega) _).mono ?_;rintro e w1 ⟨rfl,hb1⟩)|go_in)
     go_ret2
     exact ⟨.no (n:Int) HN.out (by simp;omega),hb1⟩
   ·have HN:Hid (jbf s.data.toList=none):=by rw [HW.out];exact jjG (by rw [HV.out];exact hd)
    have ht:(Lib.itoa (n:Int)==s.toList)=false:=by
     rw [jcb _ (by omega),hst,Int.toNat_natCast];simp [hd]
    clear hd hst
    go_wp2_with (first|(go_at_call 109;refine (jbn _ (by omega) (by omega) _).mono ?_;rintro e w1 ⟨rfl,hb1⟩)|go_in)
    go_ret2
    exact ⟨.no _ HN.out rfl,hb1⟩
theorem jh6 (s:ByteArray) (w:World) (hs:s.size≤maxLen) :
  Calls Tryz.prog 100 #[.string s] w fun e w'=>IsWord (jbf s.data.toList) e∧Below w.heap.size w w':=by
 by_cases h0:0<s.size
 ·by_cases hm:(s[0].toNat:Int)=45
  ·exact jlz s w hs h0 hm
  ·exact jnr s w hs h0 hm
 ·have hl:s.data.toList.length=s.size:=by simp
  have hn:s.data.toList=[]:=List.eq_nil_of_length_eq_zero (by omega)
  have HN:Hid (jbf s.data.toList=none):=by
   rw [hn,jgG (by simp)];exact jjF (by simp)
  clear hn hl
  have h1:¬ (0:Int)<s.size:=by omega
  have h2:(s.size:Int)<1:=by omega
  go_enter Tryz.func100,Tryz.ntmps100
  go_wp2
  go_ret2
  exact ⟨.no _ HN.out rfl,brf _ _⟩
end Go.Proofs.YtjmlfacbcfbhdaaGreatDoor
