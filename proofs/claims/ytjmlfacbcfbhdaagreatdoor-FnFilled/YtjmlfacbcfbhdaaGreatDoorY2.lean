/- (*impl.datReader).readOne. Conditions: as of readKids; the tokens are right. -/
import Derived.Test.YtjmlfacbcfbhdaaGreatDoorYA
import Derived.Test.YtjmlfacbcfbhdaaGreatDoorY1
import Derived.Test.YtjmlfacbcfbhdaaGreatDoorY0
import Derived.Test.YtjmlfacbcfbhdaaGreatDoorRows
import Derived.Lib.ItoaNum
import Derived.Lib.ItoaLen
import Derived.WalkKit
import Derived.ProofKit
import Derived.Below
import Derived.Deep.RegionHeld3
import Derived.Lib.AtoiAll
import Derived.Laws.RangeAny
import Derived.Lib.Strings
import Derived.OwnWalk
import Derived.Deep.AppendLies
import Derived.WalkLawsBesides
import Derived.Deep.LoopGhost
import Derived.BigQuiet
import Derived.Deep.QuietTactic
import Derived.Deep.RegionWith
import Derived.Deep.Cut
import Derived.RegionDies
set_option maxRecDepth 100000
set_option maxHeartbeats 8000000
namespace Go.Proofs.YtjmlfacbcfbhdaaGreatDoor
open Go.ChangeShapes Go.WideShapes Go.ChangeAt Go.RowKit
def decD (k:Nat):List UInt8:=if k=0 then [] else Lib.decDigits k
theorem jfj:decD 0=[]:=by simp [decD]
theorem jeW (k:Nat) (h:0<k):decD k=Lib.decDigits k:=by
 unfold decD;rw [if_neg (by omega)]
theorem jlT (k:Nat) (h:0<k):decD k=decD (k / 10)++[UInt8.ofNat (48+k % 10)]:=by
 rw [jeW k h]
 by_cases hs:k<10
 ·rw [Lib.decDigits_one hs]
  have e:k / 10=0:=by omega
  have e2:k % 10=k:=by omega
  rw [e,e2,jfj];rfl
 ·rw [Lib.decDigits,dif_neg hs,jeW (k / 10) (by omega)]
theorem jgL (k n:Nat) (h:0<k) (l:List UInt8) (hl:decD k++l=Lib.decDigits n) :
  decD (k / 10)++((48+UInt8.ofNat (k % 10))::l)=Lib.decDigits n:=by
 have e:UInt8.ofNat (48+k % 10)=48+UInt8.ofNat (k % 10):=by rw [UInt8.ofNat_add];rfl
 rw [←hl,jlT k h,e];simp
theorem jlM (k n:Nat) (l:List UInt8) (hn:n<18446744073709551616) (hl:decD k++l=Lib.decDigits n):l.length≤20:=by
 have h1:=congrArg List.length hl
 rw [lla,Lib.decDigits_length] at h1
 have:=Lib.nDigits_le20 n hn
 omega
theorem jeZ (c:UInt8) (l:List UInt8):((⟨#[c]⟩:ByteArray)++⟨l.toArray⟩)=⟨(c::l).toArray⟩:=by
 apply ByteArray.ext
 simp [ByteArray.data_append]
structure FrS (w w':World) (S:List Nat):Prop where
 os:w'.os=w.os
 tape:w'.tape=w.tape
 output:w'.output=w.output
 size:w.heap.size≤w'.heap.size
 block:∀ g,g<w.heap.size→g ∉ S→w'.heap[g]? = w.heap[g]?
theorem FrS.trans {w w1 w2:World} {S:List Nat} (h:FrS w w1 S) (h2:FrS w1 w2 S):FrS w w2 S :=
 ⟨h2.os.trans h.os,h2.tape.trans h.tape,h2.output.trans h.output,Nat.le_trans h.size h2.size,fun g a b=>(h2.block g (nll a h.size) b).trans (h.block g a b)⟩
theorem FrS.below {w w':World} (h:Below w.heap.size w w') (S:List Nat):FrS w w' S:=⟨h.os,h.tape,h.output,h.size,fun g a _=>h.block g a⟩
def jf2 (a:Nat):List UInt8→Nat
 | []=>a
 | c::r=>jf2 (a*10+(c.toNat-48)) r
def val (l:List UInt8):Nat:=jf2 0 l
def jcm (c:UInt8):Prop:=48≤c.toNat∧c.toNat≤57
theorem jge (l:List UInt8) (c:UInt8):∀ a,jf2 a (l++[c])=jf2 a l*10+(c.toNat-48):=by
 induction l with
 | nil=>intro a;rfl
 | cons d r ih=>intro a;exact ih _
theorem jeE (l:List UInt8) (c:UInt8):val (l++[c])=val l*10+(c.toNat-48):=jge l c 0
theorem jgU (u:Nat) (h:u<10):(UInt8.ofNat (48+u)).toNat=48+u:=by
 rw [UInt8.toNat_ofNat'];omega
theorem jbV (v:Nat):val (Lib.decDigits v)=v:=by
 induction v using Nat.strongRecOn with
 | _ v ih =>
  by_cases h:v<10
  ·rw [Lib.decDigits_one h]
   show 0*10+((UInt8.ofNat (48+v)).toNat-48)=v
   rw [jgU v h];omega
  ·rw [Lib.decDigits,dif_neg h,jeE,ih (v / 10) (by omega),jgU _ (by omega)]
   omega
theorem jdN (v:Nat):∀ c∈Lib.decDigits v,jcm c:=by
 induction v using Nat.strongRecOn with
 | _ v ih =>
  intro c hc
  by_cases h:v<10
  ·rw [Lib.decDigits_one h] at hc
   simp only [List.mem_singleton] at hc
   subst hc
   unfold jcm
   rw [jgU v h];omega
  ·rw [Lib.decDigits,dif_neg h] at hc
   rcases lma.1 hc with hc|hc
   ·exact ih (v / 10) (by omega) c hc
   ·simp only [List.mem_singleton] at hc
    subst hc
    unfold jcm
    rw [jgU _ (by omega)];omega
theorem jg4 (k:Nat):∀ v,v<10 ^ (k+1)→(Lib.decDigits v).length≤k+1:=by
 induction k with
 | zero =>
  intro v hv
  rw [Lib.decDigits_one (by omega)];simp
 | succ k ih =>
  intro v hv
  by_cases h:v<10
  ·rw [Lib.decDigits_one h];simp
  ·rw [Lib.decDigits,dif_neg h,lla]
   have:=ih (v / 10) (by rw [Nat.pow_succ] at hv;omega)
   simp;omega
theorem jep (v:Nat):1≤(Lib.decDigits v).length:=by
 by_cases h:v<10
 ·rw [Lib.decDigits_one h];simp
 ·rw [Lib.decDigits,dif_neg h,lla];simp
theorem jcb (n:Int) (h0:0≤n):Lib.itoa n=Lib.decDigits n.toNat:=by
 unfold Lib.itoa
 rw [if_neg (by omega)]
def sval (l:List UInt8):Int:=if l.head? = some 45 then -(val l.tail:Int) else val l
def jbf (l:List UInt8):Option Int :=
 if -1073741824≤sval l∧sval l≤1073741823∧Lib.itoa (sval l)=l then some (sval l) else none
theorem jeY (n:Int) (h:n<0):Lib.itoa n=45::Lib.decDigits n.natAbs:=by
 unfold Lib.itoa
 rw [if_pos h]
theorem jds (v:Nat):(Lib.decDigits v).head?≠some 45:=by
 intro h
 have hm:(45:UInt8)∈Lib.decDigits v:=List.mem_of_mem_head? h
 have:=jdN v 45 hm
 unfold jcm at this
 simp at this
theorem jnc (v:Int):sval (Lib.itoa v)=v:=by
 unfold sval
 by_cases h:v<0
 ·rw [jeY v h]
  simp only [List.head?_cons,if_true,List.tail_cons,jbV]
  omega
 ·rw [jcb v (by omega),if_neg (jds _),jbV]
  omega
theorem jjX {l:List UInt8} {v:Int} (h0:-1073741824≤v) (h1:v≤1073741823) (h:Lib.itoa v=l):jbf l=some v:=by
 have e:sval l=v:=by rw [←h,jnc]
 unfold jbf
 rw [e,if_pos ⟨h0,h1,h⟩]
theorem jgH {l:List UInt8} {v:Int} (h:jbf l=some v):-1073741824≤v∧v≤1073741823∧Lib.itoa v=l:=by
 unfold jbf at h
 split at h
 ·rename_i hc
  injection h with h
  rw [←h];exact hc
 ·cases h
theorem jgF {l:List UInt8} (h:∀ v,-1073741824≤v→v≤1073741823→Lib.itoa v≠l):jbf l=none:=by
 cases e:jbf l with
 | none=>rfl
 | some v=>obtain ⟨h0,h1,h2⟩:=jgH e;exact absurd h2 (h v h0 h1)
def ja1 (c:UInt8):Bool:=(97≤c.toNat&&c.toNat≤122)||(48≤c.toNat&&c.toNat≤57)||([43,45,42,60,61,63,46,95]:List UInt8).contains c
def digB (c:UInt8):Bool:=48≤c.toNat&&c.toNat≤57
def jbF:List UInt8→Bool
 | []=>false
 | c::r=>digB c||(c==45&&(match r with | []=>false|d::_=>digB d))
def symB (l:List UInt8):Bool:=decide (1≤l.length)&&decide (l.length≤12) && !jbF l&&l.all ja1
def jbD (c:UInt8):Bool:=c==32||c==10||c==40||c==41
structure Tok where
 kind:Int
 at_:Nat
 n:Int
 text:ByteArray
def Tok.cells (t:Tok):List Value:=[.int .i64 t.kind,.int .i64 t.at_,.int .i64 t.n,.string t.text]
def rows (ts:List Tok):List Value:=ts.flatMap Tok.cells
theorem ji2 (a b:List Tok):rows (a++b)=rows a++rows b:=by simp [rows]
def jcS (x:ByteArray) (b:Nat):Option Tok :=
 match jbf x.data.toList with
 | some v=>some ⟨3,b,v,x⟩
 | none=>if symB x.data.toList then some ⟨4,b,0,x⟩ else none
def jf6 (c:UInt8) (p:Nat):List Tok:=if c==40 then [⟨1,p,0,⟨#[40]⟩⟩] else if c==41 then [⟨2,p,0,⟨#[41]⟩⟩] else []
def scan (s:ByteArray):Nat→List Tok→Nat→Nat→List Tok×Int
 | 0,acc,b,p=>if b=p then (acc,-1) else match jcS (s.extract b p) b with|none=>([],b)|some t=>(acc++[t],-1)
 | n+1,acc,b,p =>
  if jbD (s.get! p) then
   (if b=p then scan s n (acc++jf6 (s.get! p) p) (p+1) (p+1)
    else match jcS (s.extract b p) b with|none=>([],b)|some t=>scan s n (acc++[t]++jf6 (s.get! p) p) (p+1) (p+1))
  else scan s n acc b (p+1)
def toks (s:ByteArray):List Tok×Int:=if s.size≤4000 then scan s s.size [] 0 0 else ([],0)
def rest (s:ByteArray) (acc:List Tok) (b p:Nat):List Tok×Int:=scan s (s.size-p) acc b p
theorem jdP (s:ByteArray) (p:Nat) (h:p<s.size):s.get! p=s[p]'h:=get_at s p h
theorem jk8 (s:ByteArray) (h:s.size≤4000):toks s=rest s [] 0 0:=by
 unfold toks rest
 rw [if_pos h];rfl
theorem jdY (s:ByteArray) (acc:List Tok) (p:Nat) (h:p<s.size) (hp:jbD (s[p]'h)=true) :
  rest s acc p p=rest s (acc++jf6 (s[p]'h) p) (p+1) (p+1):=by
 unfold rest
 have e:s.size-p=(s.size-(p+1))+1:=by omega
 rw [e]
 conv=>lhs;unfold scan
 rw [jdP s p h,if_pos hp,if_pos rfl]
theorem jk7 (s:ByteArray) (acc:List Tok) (b p:Nat) (h:p<s.size) (hp:jbD (s[p]'h)=false) :
  rest s acc b p=rest s acc b (p+1):=by
 unfold rest
 have e:s.size-p=(s.size-(p+1))+1:=by omega
 rw [e]
 conv=>lhs;unfold scan
 rw [jdP s p h,if_neg (by simp [hp])]
theorem ji1 (s:ByteArray) (acc:List Tok) (b p k:Nat) (h:p+k≤s.size) (hp:∀ j (hj:j<k),jbD (s[p+j]'(by omega))=false) :
  rest s acc b p=rest s acc b (p+k):=by
 induction k with
 | zero=>rfl
 | succ k ih =>
  rw [ih (by omega) (fun j hj=>hp j (by omega)),jk7 s acc b (p+k) (by omega) (hp k (by omega))]
  rfl
theorem joh (s:ByteArray) (acc:List Tok) (b p:Nat) (hb:b<p) (hp:∀ h:p<s.size,jbD (s[p]'h)=true) :
  rest s acc b p=match jcS (s.extract b p) b with|none=>([],(b:Int))|some t=>rest s (acc++[t]) p p:=by
 unfold rest
 by_cases h:p<s.size
 ·have e:s.size-p=(s.size-(p+1))+1:=by omega
  rw [e]
  conv=>lhs;unfold scan
  rw [jdP s p h,if_pos (hp h),if_neg (by omega)]
  cases jcS (s.extract b p) b with
  | none=>rfl
  | some t =>
   simp only
   conv=>rhs;unfold scan
   rw [jdP s p h,if_pos (hp h),if_pos rfl]
 ·have e:s.size-p=0:=by omega
  rw [e]
  conv=>lhs;unfold scan
  rw [if_neg (by omega)]
  cases jcS (s.extract b p) b with
  | none=>rfl
  | some t =>
   simp only
   conv=>rhs;unfold scan
   rw [if_pos rfl]
theorem jmR (s:ByteArray) (acc:List Tok):rest s acc s.size s.size=(acc,-1):=by
 unfold rest
 have e:s.size-s.size=0:=by omega
 rw [e]
 unfold scan
 rw [if_pos rfl]
theorem jpL (c:UInt8) (h:128≤c.toNat):jbD c=false:=by
 unfold jbD
 have:∀ d:UInt8,d.toNat<128→(c==d)=false:=by
  intro d hd
  rw [beq_eq_false_iff_ne]
  rintro rfl;omega
 rw [this 32 (by decide),this 10 (by decide),this 40 (by decide),this 41 (by decide)];rfl
theorem jmx (c:UInt8) (h:128≤c.toNat):ja1 c=false:=by
 unfold ja1
 have:∀ d:UInt8,d.toNat<128→(c==d)=false:=by
  intro d hd
  rw [beq_eq_false_iff_ne]
  rintro rfl;omega
 simp only [List.contains_cons,List.contains_nil]
 rw [this 43 (by decide),this 45 (by decide),this 42 (by decide),this 60 (by decide),this 61 (by decide),this 63 (by decide),this 46 (by decide),this 95 (by decide)]
 simp;omega
inductive Rdr (α:Type) where
 | bad (p:Int)
 | ok (a:α) (r:List Tok)
def dNum (t:Tok):D:=.mk 1 t.at_ t.n ⟨#[]⟩ 0 (fun _=>.no)
def dSym (t:Tok):D:=.mk 2 t.at_ 0 t.text 0 (fun _=>.no)
def jav (ds:List D):Nat→D:=fun i=>ds.getD i .no
def jir (t:Tok) (ds:List D):D:=.mk 3 t.at_ 0 ⟨#[]⟩ ds.length (jav ds)
def jb4 (E:Int) (one:List Tok→Rdr D):Nat→List D→List Tok→Rdr (List D)
 | 0,_,_=>.bad E
 | _+1,_,[]=>.bad E
 | m+1,acc,t::r=>if t.kind=2 then .ok acc r else match one (t::r) with
  | .bad p=>.bad p
  | .ok d r1=>jb4 E one m (acc++[d]) r1
def one (E:Int):Nat→List Tok→Rdr D
 | 0,_=>.bad E
 | _+1,[]=>.bad E
 | f+1,t::r =>
  if t.kind=3 then .ok (dNum t) r else if t.kind=4 then .ok (dSym t) r else if t.kind=2 then .bad t.at_
  else match jb4 E (one E f) (r.length+1) [] r with
   | .bad p=>.bad p
   | .ok ds r1=>.ok (jir t ds) r1
def jfM (one:List Tok→Rdr D):Nat→List D→List Tok→Rdr (List D)
 | 0,acc,_=>.ok acc []
 | _+1,acc,[]=>.ok acc []
 | m+1,acc,t::r=>match one (t::r) with
  | .bad p=>.bad p
  | .ok d r1=>jfM one m (acc++[d]) r1
def Less (one:List Tok→Rdr D):Prop:=∀ l d r,one l=.ok d r→r.length<l.length∧∃ a,l=a++r
theorem jkE {E:Int} {o:List Tok→Rdr D} (ho:Less o):∀ (m:Nat) (acc:List D) (l:List Tok) (ds:List D) (r:List Tok),jb4 E o m acc l=.ok ds r→r.length<l.length∧∃ a,l=a++r:=by
 intro m
 induction m with
 | zero=>intro acc l ds r h;simp [jb4] at h
 | succ m ih =>
  intro acc l ds r h
  cases l with
  | nil=>simp [jb4] at h
  | cons t l =>
   unfold jb4 at h
   split at h
   ·injection h with h1 h2
    subst h2
    exact ⟨by simp,[t],rfl⟩
   ·cases e:o (t::l) with
    | bad p=>rw [e] at h;simp at h
    | ok d r1 =>
     rw [e] at h
     obtain ⟨h1,a,ha⟩:=ho _ _ _ e
     obtain ⟨h2,b,hb⟩:=ih _ _ _ _ h
     exact ⟨by omega,a++b,by rw [ha,hb];simp⟩
theorem je1 (E:Int):∀ f,Less (one E f):=by
 intro f
 induction f with
 | zero=>intro l d r h;simp [one] at h
 | succ f ih =>
  intro l d r h
  cases l with
  | nil=>simp [one] at h
  | cons t l =>
   unfold one at h
   split at h
   ·injection h with h1 h2;subst h2;exact ⟨by simp,[t],rfl⟩
   ·split at h
    ·injection h with h1 h2;subst h2;exact ⟨by simp,[t],rfl⟩
    ·split at h
     ·simp at h
     ·cases e:jb4 E (one E f) (l.length+1) [] l with
      | bad p=>rw [e] at h;simp at h
      | ok ds r1 =>
       rw [e] at h
       simp only at h
       injection h with h1 h2
       subst h2
       obtain ⟨h3,a,ha⟩:=jkE ih _ _ _ _ _ e
       exact ⟨by simp;omega,t::a,by rw [ha];rfl⟩
def jew (E:Int) (ts:List Tok):Rdr (List D):=jfM (one E (ts.length+1)) (ts.length+1) [] ts
theorem jlj (ds:List D) (f:D→Nat):∀ k,k≤ds.length→jao (fun i=>f (jav ds i)) k=((ds.take k).map f).sum:=by
 intro k
 induction k with
 | zero=>intro _;simp [jao]
 | succ k ih =>
  intro h
  have hk:k<ds.length:=by omega
  simp only [jao]
  rw [ih (by omega),List.take_succ_eq_append_getElem hk,List.map_append,List.sum_append]
  congr 1
  simp [jav,List.getD,List.getElem?_eq_getElem hk]
theorem jh7 (ds:List D) (f:D→Nat):jao (fun i=>f (jav ds i)) ds.length=(ds.map f).sum:=by
 have:=jlj ds f ds.length (nlr _)
 rw [List.take_length] at this
 exact this
structure Stands (s:ByteArray) (t:Tok):Prop where
 fit:t.at_+t.text.size≤s.size
 pos:1≤t.text.size
 text:s.extract t.at_ (t.at_+t.text.size)=t.text
 sym:t.kind=4→symB t.text.data.toList=true
 num:t.kind=3→-1073741824≤t.n∧t.n≤1073741823∧Lib.itoa t.n=t.text.data.toList
 n:-1073741824≤t.n∧t.n≤1073741823
 kind:1≤t.kind∧t.kind≤4
def jfl (ts:List Tok) (i:Nat):Nat:=if i=0 then 0 else match ts[i-1]? with|some t=>t.at_+t.text.size|none=>0
def Chain (s:ByteArray) (ts:List Tok):Prop:=∀ i t,ts[i]? = some t→jfl ts i≤t.at_∧Stands s t
theorem jeJ (ts r:List Tok) (i:Nat) (h:i≤ts.length):jfl (ts++r) i=jfl ts i:=by
 unfold jfl
 split
 ·rfl
 ·rw [List.getElem?_append_left (by omega)]
theorem jeh (ts:List Tok) (t:Tok):jfl (ts++[t]) (ts++[t]).length=t.at_+t.text.size:=by
 unfold jfl
 rw [if_neg (by simp)]
 simp
theorem Chain.snoc {s:ByteArray} {ts:List Tok} (h:Chain s ts) {t:Tok} (he:jfl ts ts.length≤t.at_) (ht:Stands s t):Chain s (ts++[t]):=by
 intro i u hu
 rcases Nat.lt_trichotomy i ts.length with hi|hi|hi
 ·rw [List.getElem?_append_left hi] at hu
  rw [jeJ _ _ _ (by omega)]
  exact h i u hu
 ·subst hi
  simp at hu
  subst hu
  rw [jeJ _ _ _ (by omega)]
  exact ⟨he,ht⟩
 ·rw [lgn (by simp;omega)] at hu
  cases hu
theorem jcH (s:ByteArray) (b p:Nat) (hb:b≤p) (hp:p≤s.size):(s.extract b p).size=p-b:=by
 simp;omega
theorem jfS {s:ByteArray} {b p:Nat} (hb:b<p) (hp:p≤s.size) {t:Tok} (h:jcS (s.extract b p) b=some t):Stands s t∧t.at_=b∧t.at_+t.text.size=p:=by
 have hsz:=jcH s b p (by omega) hp
 unfold jcS at h
 cases e:jbf (s.extract b p).data.toList with
 | some v =>
  rw [e] at h
  simp only [Option.some.injEq] at h
  subst h
  obtain ⟨h0,h1,h2⟩:=jgH e
  refine ⟨⟨by simp only [hsz];omega,by simp only [hsz];omega,?_,by simp,fun _=>⟨h0,h1,h2⟩,⟨h0,h1⟩,by simp⟩,rfl,by simp only [hsz];omega⟩
  simp only [hsz]
  congr 1;omega
 | none =>
  rw [e] at h
  simp only at h
  split at h
  ·rename_i hs
   simp only [Option.some.injEq] at h
   subst h
   refine ⟨⟨by simp only [hsz];omega,by simp only [hsz];omega,?_,fun _=>hs,by simp,by simp,by simp⟩,rfl,by simp only [hsz];omega⟩
   simp only [hsz]
   congr 1;omega
  ·cases h
theorem jfm (s:ByteArray) (p:Nat) (h:p<s.size):s.extract p (p+1)=⟨#[s[p]'h]⟩:=by
 apply ByteArray.ext
 rw [ByteArray.data_extract]
 apply Array.ext
 ·simp;have:s.size=s.data.size:=rfl;omega
 ·intro i h1 h2
  have:i=0:=by simp at h2;omega
  subst this
  simp
  rfl
theorem jff {s:ByteArray} {ts:List Tok} (h:Chain s ts) {p:Nat} (hp:p<s.size) (he:jfl ts ts.length≤p) :
  Chain s (ts++jf6 (s[p]'hp) p)∧jfl (ts++jf6 (s[p]'hp) p) (ts++jf6 (s[p]'hp) p).length≤p+1∧(ts++jf6 (s[p]'hp) p).length≤ts.length+1:=by
 unfold jf6
 split
 ·rename_i hc
  have hc:s[p]'hp=40:=by simpa using hc
  refine ⟨h.snoc he ⟨?_,?_,?_,by simp,by simp,by simp,by simp⟩,by rw [jeh];exact nlr _,by simp⟩
  ·show p+1≤s.size;omega
  ·exact nlr _
  ·show s.extract p (p+1)=_
   rw [jfm s p hp,hc]
 ·split
  ·rename_i hc
   have hc:s[p]'hp=41:=by simpa using hc
   refine ⟨h.snoc he ⟨?_,?_,?_,by simp,by simp,by simp,by simp⟩,by rw [jeh];exact nlr _,by simp⟩
   ·show p+1≤s.size;omega
   ·exact nlr _
   ·show s.extract p (p+1)=_
    rw [jfm s p hp,hc]
  ·simp only [List.append_nil]
   exact ⟨h,by omega,by omega⟩
theorem jmX (s:ByteArray) (n:Nat):∀ (acc:List Tok) (b p:Nat),n=s.size-p→b≤p→p≤s.size→jfl acc acc.length≤b→acc.length≤b→Chain s acc →
  Chain s (scan s n acc b p).1∧(scan s n acc b p).1.length≤s.size∧((scan s n acc b p).2 = -1∨((scan s n acc b p).1=[]∧0≤(scan s n acc b p).2∧(scan s n acc b p).2≤s.size)):=by
 induction n with
 | zero =>
  intro acc b p hn hb hp he hl hc
  unfold scan
  split
  ·exact ⟨hc,by simp only [];omega,.inl rfl⟩
  ·cases e:jcS (s.extract b p) b with
   | none=>exact ⟨by intro i t h;simp at h,by simp,.inr ⟨rfl,by simp only [];omega,by simp only [];omega⟩⟩
   | some t =>
    obtain ⟨h1,h2,h3⟩:=jfS (by omega) hp e
    refine ⟨hc.snoc (by omega) h1,by simp only [List.length_append,List.length_singleton];omega,.inl rfl⟩
 | succ n ih =>
  intro acc b p hn hb hp he hl hc
  have hlt:p<s.size:=by omega
  unfold scan
  rw [jdP s p hlt]
  split
  ·split
   ·obtain ⟨h1,h2,h3⟩:=jff hc hlt (by omega)
    exact ih _ _ _ (by omega) (by omega) (by omega) (by omega) (by omega) h1
   ·cases e:jcS (s.extract b p) b with
    | none=>exact ⟨by intro i t h;simp at h,by simp,.inr ⟨rfl,by simp only [];omega,by simp only [];omega⟩⟩
    | some t =>
     obtain ⟨h1,h2,h3⟩:=jfS (by omega) hp e
     have hc2:=hc.snoc (by omega) h1
     have he2:=jeh acc t
     have hl2:(acc++[t]).length=acc.length+1:=by simp
     obtain ⟨h4,h5,h6⟩:=jff hc2 hlt (by omega)
     exact ih _ _ _ (by omega) (by omega) (by omega) (by omega) (by omega) h4
  ·exact ih _ _ _ (by omega) (by omega) (by omega) he hl hc
theorem jda (s:ByteArray):Chain s (toks s).1∧(toks s).1.length≤4000∧((toks s).2 = -1∨((toks s).1=[]∧0≤(toks s).2∧(toks s).2≤4000)):=by
 unfold toks
 split
 ·obtain ⟨h1,h2,h3⟩:=jmX s s.size [] 0 0 (by omega) (by omega) (by omega) (by simp [jfl]) (by simp) (by intro i t h;simp at h)
  refine ⟨h1,by omega,?_⟩
  rcases h3 with h3|⟨h3,h4,h5⟩
  ·exact .inl h3
  ·exact .inr ⟨h3,h4,by omega⟩
 ·exact ⟨by intro i t h;simp at h,by simp,.inr ⟨rfl,by simp,by simp⟩⟩
theorem jk0 {c:UInt8} (h:jbD c=true):c.toNat=32∨c.toNat=10∨c=40∨c=41:=by
 unfold jbD at h
 simp only [Bool.or_eq_true,beq_iff_eq] at h
 rcases h with ((h|h)|h)|h
 ·left;rw [h];rfl
 ·right;left;rw [h];rfl
 ·right;right;left;exact h
 ·right;right;right;exact h
theorem jpd {c:UInt8} (h:jbD c=false):c.toNat≠32∧c.toNat≠10∧c.toNat≠40∧c.toNat≠41:=by
 have key:∀ d:UInt8,jbD d=true→c.toNat≠d.toNat:=by
  intro d hd e
  have:c=d:=UInt8.toNat_inj.1 e
  subst this
  rw [hd] at h;cases h
 exact ⟨key 32 (by decide),key 10 (by decide),key 40 (by decide),key 41 (by decide)⟩
theorem jfe {c:UInt8} (h:c.toNat=32∨c.toNat=10) (p:Nat):jf6 c p=[]:=by
 unfold jf6
 have key:∀ d:UInt8,d.toNat≠32→d.toNat≠10→(c==d)=false:=by
  intro d h1 h2
  rw [beq_eq_false_iff_ne]
  rintro rfl;omega
 rw [key 40 (by decide) (by decide),key 41 (by decide) (by decide)];rfl
def TokCells (w:World) (v:Value) (ts:List Tok):Prop :=
 (v=.slice none 0 0∧ts=[])∨∃ g cap,v=.slice (some ⟨g,0,none⟩) ts.length cap∧ts.length≤cap∧∀ j u,(rows ts)[j]? = some u→w.cell? ⟨g,j,none⟩=some u
theorem TokCells.of_own {w:World} {base:Nat} {v:Value} {ts:List Tok} (h:w.ownsRow base 166 4 v ts.length (rows ts)):TokCells w v ts:=by
 rcases h.2 with ⟨h1,h2⟩|⟨g,cap,cur,rfl,_,hgg,hcap,_,_,htake⟩
 ·exact .inl ⟨h1,List.eq_nil_of_length_eq_zero h2⟩
 ·refine .inr ⟨g,cap,rfl,hcap,?_⟩
  intro j u hu
  rw [crw w g j cur _ _ hgg]
  rw [←htake,List.getElem?_take] at hu
  split at hu
  ·simpa using hu
  ·cases hu
theorem TokCells.below {w w':World} {v:Value} {ts:List Tok} (h:TokCells w v ts) (hb:Below w.heap.size w w'):TokCells w' v ts:=by
 rcases h with h|⟨g,cap,h1,h2,h3⟩
 ·exact .inl h
 ·refine .inr ⟨g,cap,h1,h2,fun j u hu=>?_⟩
  have:=h3 j u hu
  exact (hb.cell (wbl w _ this)).trans this
theorem jpj (ts:List Tok) (k:Nat) (h:k<ts.length):(rows ts)[k*4]? = some (.int .i64 ts[k].kind)∧(rows ts)[k*4+1]? = some (.int .i64 ts[k].at_)∧(rows ts)[k*4+2]? = some (.int .i64 ts[k].n)∧(rows ts)[k*4+3]? = some (.string ts[k].text):=by
 induction ts generalizing k with
 | nil=>simp at h
 | cons t r ih =>
  cases k with
  | zero=>exact ⟨rfl,rfl,rfl,rfl⟩
  | succ k =>
   have:=ih k (by simpa using h)
   have e:∀ j,(rows (t::r))[(k+1)*4+j]? = (rows r)[k*4+j]? := by
    intro j
    have:rows (t::r)=t.cells++rows r:=rfl
    rw [this,List.getElem?_append_right (by simp [Tok.cells];omega)]
    congr 1
    simp [Tok.cells];omega
   have e0:=e 0;have e1:=e 1;have e2:=e 2;have e3:=e 3
   simp only [Nat.add_zero] at e0
   rw [e0,e1,e2,e3]
   exact this
theorem jdu (acc:List D) (d:D) (i:Nat) (h:i<acc.length):jav (acc++[d]) i=jav acc i:=by
 unfold jav
 simp [List.getD,List.getElem?_append_left h]
theorem jdt (acc:List D) (d:D):jav (acc++[d]) acc.length=d:=by
 unfold jav
 simp [List.getD]
structure Acc (B:Nat) (w:World) (acc:List D) (lv:Value) (la:List (D×Value)) (SS:List (List Nat)):Prop where
 own:w.ownsRow 0 72 5 lv acc.length (jaF la)
 len:la.length=acc.length
 sl:SS.length=acc.length
 each:∀ i,i<acc.length→∃ u T,la[i]? = some (jav acc i,u)∧SS[i]? = some T∧DOwn w (jav acc i) u T
 nd:SS.flatten.Nodup
 out:∀ g,lv.ownBlock=some g→g ∉ SS.flatten∧B≤g
 up:∀ x∈SS.flatten,B≤x
theorem Acc.nil (B:Nat) (w:World):Acc B w [] (.slice none 0 0) [] [] :=
 ⟨⟨rfl,.inl ⟨rfl,rfl⟩⟩,rfl,rfl,fun i hi=>by simp at hi,by simp,fun g h=>by simp [Value.ownBlock] at h,fun x hx=>by simp at hx⟩
theorem Acc.lt {B:Nat} {w:World} {acc:List D} {lv:Value} {la:List (D×Value)} {SS:List (List Nat)} (h:Acc B w acc lv la SS):∀ x∈SS.flatten,x<w.heap.size:=by
 intro x hx
 obtain ⟨T,hT,hxT⟩:=List.mem_flatten.1 hx
 obtain ⟨i,hi,rfl⟩:=List.mem_iff_getElem.1 hT
 obtain ⟨u,T',k1,k2,k3⟩:=h.each i (by have:=h.sl;omega)
 rw [lgg hi] at k2
 injection k2 with k2
 exact k3.there _ x (by rw [←k2];exact hxT)
theorem Acc.same {B:Nat} {w w':World} {acc:List D} {lv:Value} {la:List (D×Value)} {SS:List (List Nat)} (h:Acc B w acc lv la SS) (hs:∀ x,B≤x→x<w.heap.size→w'.heap[x]? = w.heap[x]?):Acc B w' acc lv la SS :=
 ⟨jdl h.own (fun g hg=>hs g (h.out g hg).2 (h.own.lt g hg).2),h.len,h.sl,fun i hi=>by
  obtain ⟨u,T,k1,k2,k3⟩:=h.each i hi
  exact ⟨u,T,k1,k2,k3.same _ (fun x hx=>hs x (h.up x (jaQ k2 hx)) (k3.there _ x hx))⟩,h.nd,h.out,h.up⟩
theorem Acc.app {B:Nat} {w w3:World} {acc:List D} {lv v:Value} {la:List (D×Value)} {SS:List (List Nat)} {d:D} {T:List Nat} {o:Obj} {g cap:Nat} (h:Acc B w acc lv la SS) (hd:DOwn w d v T) (hT:T.Nodup) (hTS:∀ x∈T,x ∉ SS.flatten) (hTl:∀ x∈T,lv.ownBlock≠some x) (hTB:∀ x∈T,B≤x) (hB:B≤w.heap.size)
  (hown:w3.ownsRow 0 72 5 (.slice (some ⟨g,0,none⟩) (acc.length+1) cap) (acc.length+1) (jaF la++jaW (d,v))) (hg:(w.alloc o).grownBy w3 lv.ownBlock) (hat:lv.ownBlock=some g∨g=w.heap.size+1) :
  Acc B w3 (acc++[d]) (.slice (some ⟨g,0,none⟩) (acc.length+1) cap) (la++[(d,v)]) (SS++[T]):=by
 have hlt:=h.lt
 have hTt:=hd.there
 have hsz:(w.alloc o).heap.size=w.heap.size+1:=by simp
 have keep:∀ x,x<w.heap.size→lv.ownBlock≠some x→w3.heap[x]? = w.heap[x]? := fun x hx hne =>
  (hg.block x (by omega) (fun e=>hne e.symm)).trans (bha w o x hx)
 have hfl:(SS++[T]).flatten=SS.flatten++T:=by simp
 refine ⟨by rw [lla];rw [jb6];exact hown,by simp [h.len],by simp [h.sl],fun i hi=>?_,?_,?_,?_⟩
 ·rw [lla,List.length_singleton] at hi
  rcases Nat.lt_or_ge i acc.length with hia|hia
  ·obtain ⟨u,U,k1,k2,k3⟩:=h.each i hia
   rw [jdu acc d i hia]
   refine ⟨u,U,by rw [List.getElem?_append_left (by rw [h.len];exact hia)];exact k1,by rw [List.getElem?_append_left (by rw [h.sl];exact hia)];exact k2,?_⟩
   exact k3.same _ (fun x hx=>keep x (k3.there _ x hx) (fun e=>(h.out x e).1 (jaQ k2 hx)))
  ·obtain rfl:i=acc.length:=by omega
   rw [jdt]
   refine ⟨v,T,?_,?_,hd.same _ (fun x hx=>keep x (hTt x hx) (hTl x hx))⟩
   ·rw [List.getElem?_append_right (by rw [h.len];exact nlr _),h.len,Nat.sub_self];rfl
   ·rw [List.getElem?_append_right (by rw [h.sl];exact nlr _),h.sl,Nat.sub_self];rfl
 ·rw [hfl,List.nodup_append]
  exact ⟨h.nd,hT,fun a ha b hb e=>hTS b hb (by rw [←e];exact ha)⟩
 ·intro x hx
  simp only [Value.ownBlock,Option.some.injEq] at hx
  subst hx
  rw [hfl,lma]
  rcases hat with hat|hat
  ·exact ⟨fun hx=>hx.elim (h.out g hat).1 (fun hx=>hTl g hx hat),(h.out g hat).2⟩
  ·refine ⟨fun hx=>?_,by omega⟩
   rcases hx with hx|hx
   ·have:=hlt g hx;omega
   ·have:=hTt g hx;omega
 ·intro x hx
  rw [hfl,lma] at hx
  exact hx.elim (h.up x) (hTB x)
theorem Acc.sown {B:Nat} {w:World} {acc:List D} {lv:Value} {la:List (D×Value)} {SS:List (List Nat)} (h:Acc B w acc lv la SS) (hl:lv=.slice none 0 0∨acc≠[]):∃ S,SOwn w acc.length (jav acc) lv S∧S.Nodup∧∀ x∈S,B≤x:=by
 rcases h.own.2 with ⟨h1,h2⟩|⟨g,cap,cur,h1,hb,hg,hc,hm,hs,ht⟩
 ·exact ⟨[],.inl ⟨h2,h1,rfl⟩,by simp,fun x hx=>by simp at hx⟩
 ·subst h1
  refine ⟨g::SS.flatten,.inr ⟨g,cap,la,SS,rfl,h.own,h.len,h.sl,fun i q hq=>?_,rfl,h.each⟩,List.nodup_cons.2 ⟨(h.out g rfl).1,h.nd⟩,fun x hx=>?_⟩
  ·have hi:i<acc.length:=by have:=(List.getElem?_eq_some_iff.1 hq).1;have:=h.len;omega
   obtain ⟨u,T,k1,_,_⟩:=h.each i hi
   rw [hq] at k1
   injection k1 with k1
   rw [k1]
  ·rcases List.mem_cons.1 hx with rfl|hx
   ·exact (h.out x rfl).2
   ·exact h.up x hx
def joU (ts:List Tok):Prop:=∀ t∈ts,(1≤t.kind∧t.kind≤4)∧(-1073741824≤t.n∧t.n≤1073741823)∧t.text.size≤4000
theorem FrS.below0 {w0 w w':World} {K:Nat} (hb:Below w0.heap.size w0 w) (h:FrS w w' [K]) (hK:w0.heap.size≤K):Below w0.heap.size w0 w' :=
 hb.trans ⟨h.os,h.tape,h.output,h.size,fun k hk=>h.block k (by have:=hb.size;omega) (by simp only [List.mem_singleton];omega)⟩
theorem jnh {w:World} {tv:Value} {ts:List Tok} (h:TokCells w tv ts) (i:Nat) (hi:i<ts.length):∃ g cap,tv=.slice (some ⟨g,0,none⟩) ts.length cap∧w.cell? ⟨g,i*4,none⟩=some (.int .i64 ts[i].kind)∧w.cell? ⟨g,i*4+1,none⟩=some (.int .i64 ts[i].at_)∧w.cell? ⟨g,i*4+2,none⟩=some (.int .i64 ts[i].n)∧w.cell? ⟨g,i*4+3,none⟩=some (.string ts[i].text):=by
 rcases h with ⟨_,h⟩|⟨g,cap,h1,h2,h3⟩
 ·subst h;simp at hi
 ·obtain ⟨r0,r1,r2,r3⟩:=jpj ts i hi
  exact ⟨g,cap,h1,h3 _ _ r0,h3 _ _ r1,h3 _ _ r2,h3 _ _ r3⟩
theorem jfi:(Tryz.prog.info? 72).map (fun i=>(i.zero,i.size,i.bytes))=some (some (.agg #[.int .i64 0,.int .i64 0,.int .i64 0,.string ⟨#[]⟩,.slice none 0 0]),5,64):=by kernel_rfl
theorem jnI (w:World) (t:Tok) (h:-1073741824≤t.n∧t.n≤1073741823):DOwn w (dNum t) (.slice none 0 0) []:=by
 refine ⟨⟨nzl _,?_,?_⟩,.inl ⟨rfl,rfl,rfl⟩⟩
 ·omega
 ·omega
theorem jnM (w:World) (t:Tok) (h:t.text.size≤4000):DOwn w (dSym t) (.slice none 0 0) []:=by
 refine ⟨⟨by unfold maxLen;omega,by omega,by omega⟩,.inl ⟨rfl,rfl,rfl⟩⟩
theorem jlV {w:World} {t:Tok} {ds:List D} {v:Value} {T:List Nat} (h:SOwn w ds.length (jav ds) v T):DOwn w (jir t ds) v T:=by
 refine ⟨⟨nzl _,by omega,by omega⟩,h⟩
theorem jhX {w:World} {N x:Nat} {v0 v1 v2 v3 v4:Value} (h:x≠N) :
  (((((w.setCell ⟨N,0,none⟩ v0).setCell ⟨N,1,none⟩ v1).setCell ⟨N,2,none⟩ v2).setCell ⟨N,3,none⟩ v3).setCell ⟨N,4,none⟩ v4).heap[x]? = w.heap[x]? := by
 rw [bhs _ _ _ _ h,bhs _ _ _ _ h,bhs _ _ _ _ h,bhs _ _ _ _ h,bhs _ _ _ _ h]
end Go.Proofs.YtjmlfacbcfbhdaaGreatDoor
