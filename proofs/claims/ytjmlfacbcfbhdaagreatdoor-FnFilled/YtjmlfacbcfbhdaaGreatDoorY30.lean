/- strings.ContainsRune on a short text of one-byte signs: at a sign of one byte, whether it is there; at any other, no. No conditions on the world. -/
import Derived.Test.YtjmlfacbcfbhdaaGreatDoorYA
import Derived.Test.YtjmlfacbcfbhdaaGreatDoorY25
import Derived.Test.YtjmlfacbcfbhdaaGreatDoorRows
import Derived.Test.YtjmlfacbcfbhdaaGreatDoorStrs
import Derived.Laws.Runes
import Derived.Laws.RangeAny
import Derived.Lib.IndexLaws
import Derived.WalkKit
import Derived.ProofKit
import Derived.Below
import Derived.BigQuiet
import Derived.Deep.QuietTactic
import Derived.WalkMore
set_option maxRecDepth 100000
set_option maxHeartbeats 8000000
namespace Go.Proofs.YtjmlfacbcfbhdaaGreatDoor
open Go.ChangeShapes Go.WideShapes Go.ChangeAt Go.RowKit Go.Shelf
end Go.Proofs.YtjmlfacbcfbhdaaGreatDoor
namespace Go.Proofs.YtjmlfacbcfbhdaaGreatDoor
open Go.ChangeShapes Go.WideShapes Go.ChangeAt Go.RowKit Go.Shelf
def jcT (base:Nat→List G) (pre:List G):Nat→List G:=fun j=>base j++(if j<pre.length then [pre.getD j .no] else [])
theorem jnn (base:Nat→List G):jcT base []=base:=by
 funext j;simp [jcT]
theorem jly (base:Nat→List G) (pre:List G) (g:G):upd (jcT base pre) pre.length (jcT base pre pre.length++[g])=jcT base (pre++[g]):=by
 funext j
 unfold upd jcT
 by_cases hj:j=pre.length
 ·subst hj
  simp
 ·rw [if_neg hj]
  rcases Nat.lt_or_ge j pre.length with h|h
  ·rw [if_pos h,if_pos (by simp;omega)]
   simp [List.getD_eq_getElem?_getD,List.getElem?_append_left h]
  ·rw [if_neg (by omega),if_neg (by simp;omega)]
section
variable {W0 : World} {A L l : Nat} {v : Value} {p : X} {su u : Value} {J : Inv G} {pre0 : List G} {Y : Nat → Prop} {marks : List Nat} {ns : List (ByteArray × Int)} {K M : Nat} {rec : LoopState → Option Code → Loop} {base : Nat → List G}
end
end Go.Proofs.YtjmlfacbcfbhdaaGreatDoor
namespace Go.Proofs.YtjmlfacbcfbhdaaGreatDoor
open Go.ChangeShapes Go.WideShapes Go.ChangeAt Go.RowKit Go.Shelf
section
variable {W0 : World} {A L l g0 cv : Nat} {p : X} {su u : Value} {J : Inv G} {pre0 : List G} {Y : Nat → Prop} {marks : List Nat} {ns : List (ByteArray × Int)} {K M : Nat} {rec : LoopState → Option Code → Loop} {base : Nat → List G} {pre : List G} {W Wc D : World} {Y2 : Nat → Prop} {Z : List Nat} {q : GR} {gv : Nat → Value} {ll : Nat → List GR} {SSs : Nat → List (List Nat)}
end
end Go.Proofs.YtjmlfacbcfbhdaaGreatDoor
namespace Go.Proofs.YtjmlfacbcfbhdaaGreatDoor
open Go.ChangeShapes Go.WideShapes Go.ChangeAt Go.RowKit
theorem jmj (l:List UInt8) (c:UInt8):decide (0≤Lib.indexByte l c)=l.contains c:=by
 induction l with
 | nil=>rfl
 | cons b r ih =>
  have hge:=Lib.indexByte_ge r c
  unfold Lib.indexByte
  rw [List.contains_cons]
  by_cases hb:b=c
  ·subst hb;simp
  ·have h1:(b==c)=false:=beq_eq_false_iff_ne.2 hb
   have h2:(c==b)=false:=beq_eq_false_iff_ne.2 (fun e=>hb e.symm)
   rw [h1,h2,←ih]
   simp only [Bool.false_eq_true,if_false,Bool.false_or]
   by_cases h3:Lib.indexByte r c = -1
   ·simp [h3]
   ·have h4:(Lib.indexByte r c == -1)=false:=beq_eq_false_iff_ne.2 h3
    rw [h4]
    simp only [Bool.false_eq_true,if_false,decide_eq_decide]
    omega
theorem jnX (l:List UInt8) (c:UInt8) (h:∀ b∈l,b≠c):Lib.indexByte l c = -1:=by
 induction l with
 | nil=>rfl
 | cons b r ih =>
  unfold Lib.indexByte
  rw [beq_eq_false_iff_ne.2 (h b List.mem_cons_self),ih (fun d hd=>h d (List.mem_cons_of_mem _ hd))]
  rfl
theorem jde (w:World) (t:ByteArray) (pos:Nat):Below w.heap.size w (w.iter t pos) :=
 ⟨rfl,rfl,rfl,by simp [World.iter],fun k hk=>(World.grownBy_alloc w _ none).block k hk (by simp)⟩
theorem below_drewN (w:World) (k:Nat):Below w.heap.size w (w.drewN k):=⟨rfl,rfl,rfl,nlr _,fun _ _=>rfl⟩
theorem jhs (t:ByteArray) (r:Nat) (hr:r<128) (w:World) :
  Calls Tryz.prog 97 #[.string t,.int .i32 r] w fun e w'=>e=.returned (.bool (t.data.toList.contains (UInt8.ofNat r)))∧w'=w:=by
 refine (Tryz.strings_ContainsRune_ascii t r w (by omega) (by omega)).mono fun e w' ⟨he,hw⟩=>⟨?_,hw⟩
 rw [he,jmj]
 rfl
theorem jol (t:ByteArray) (ht:∀ b∈t.data.toList,b.toNat<128) (w:World) :
  Calls Tryz.prog 108 #[.string t,.int .i32 65533] w fun e w'=>e=.returned (.int .i64 (-1))∧Below w.heap.size w w':=by
 have HT:Hid (∀ b∈t.data.toList,b.toNat<128):=ht
 clear ht
 go_enter Tryz.func108,Tryz.ntmps108
 go_wp2
 go_loopw [5] (fun _ w'=>∃ pos:Nat,pos≤t.size∧w'=w.iter t pos) (fun _ w'=>t.size-w'.iterPos w.heap.size)
 case atStart=>exact ⟨0,nzl _,rfl⟩
 case round =>
  obtain ⟨pos,hpos,rfl⟩:=hrel
  by_cases hp:pos<t.size
  ·have hb:(t[pos]).toNat<128:=HT.out _ (by have:t[pos]=t.data.toList[pos]'(by simpa using hp):=rfl;rw [this];exact List.getElem_mem _)
   have hnx:∀ ty,(Instr.next (.pointer (some ⟨w.heap.size,0,none⟩)) true ty).run Tryz.prog (w.iter t pos)=_:=fun ty=>run_next_ascii w t pos ty hp hb
   have hne:((t[pos].toNat:Int)==65533)=false:=by simp;omega
   go_wp2
   go_roundw
   case rel=>exact ⟨pos+1,by omega,rfl⟩
   case measure=>simp;omega
  ·have hnx:∀ ty,(Instr.next (.pointer (some ⟨w.heap.size,0,none⟩)) true ty).run Tryz.prog (w.iter t pos)=_:=fun ty=>run_next_end w t pos ty hp
   go_wp2
   go_ret
   exact ⟨rfl,jde _ _ _⟩
theorem jkx (t e:ByteArray) (m:Nat) (hml:m<e.size) (h:Lib.indexByte (t.extract (m+1) t.size).data.toList (e[m]'hml) = -1) (w:World) :
  Calls Tryz.prog 113 #[.string (t.extract (m+1) t.size),.int .u8 ((e[m]'hml).toNat)] w fun e w'=>e=.returned (.int .i64 (-1))∧w'=w:=by
 refine (Tryz.strings_IndexByte _ _ w).mono fun e' w' ⟨he,hw⟩=>⟨?_,hw⟩
 rw [he,Int.toNat_natCast]
 have:Nat.toUInt8 (e[m]'hml).toNat=e[m]'hml:=by simp
 rw [this,h]
theorem jmU (t:ByteArray) (ht:∀ b∈t.data.toList,b.toNat<128) (r:Int) (h1:128≤r) (h2:r≤1114111) (h3:r≠65533) (hv:Utf8.valid r=true) (w:World) :
  Calls Tryz.prog 108 #[.string t,.int .i32 r] w fun e w'=>e=.returned (.int .i64 (-1))∧Below w.heap.size w w':=by
 have HT:Hid (∀ b∈t.data.toList,b.toNat<128):=ht
 clear ht
 obtain ⟨hz1,hz2,hz3⟩:=encode_facts r hv h1
 have HL:Hid (∀ h:(Utf8.encode r).size-1<(Utf8.encode r).size,128≤((Utf8.encode r)[(Utf8.encode r).size-1]'h).toNat):=hz3
 clear hz3
 have h3':(r==65533)=false:=by simpa using h3
 rw [validRune_eq] at hv
 unfold validRune at hv
 have hr:r<55296∨(57343<r∧¬ r<55296):=by simp at hv;omega
 clear hv
 rcases hr with hr|⟨hr,hr'⟩
 all_goals
  go_enter Tryz.func108,Tryz.ntmps108
  go_wp2_with (first|(go_at_call 114;go_in))
  go_step3
  go_wp2
  generalize Utf8.encode r=e at hz1 hz2 HL ⊢
  obtain ⟨m,hm⟩:∃ m,e.size=m+1:=⟨e.size-1,by omega⟩
  have hml:m<e.size:=by omega
  have hE:128≤(e[m]'hml).toNat:=by
   have:=HL.out (by omega)
   have e2:e.size-1=m:=by omega
   simp only [e2] at this
   exact this
  have e3:((e.size:Int)-1)=(m:Int):=by omega
  rw [e3]
  have hm4:m<4:=by omega
  have HM:Hid (e.size=m+1):=hm
  clear HL hz1 hz2 e3 hm
  go_loop [9] (fun i=>i=.int .i64 m) (fun _=>0)
  case atStart=>rfl
  case round =>
   obtain rfl:=hrel
   by_cases hlt:(m:Int)<t.size
   ·have hlt':m<t.size:=by omega
    have hb:(t[m]).toNat<128:=HT.out _ (by have:t[m]=t.data.toList[m]'(by simpa using hlt'):=rfl;rw [this];exact List.getElem_mem _)
    have hne:(((t[m]'hlt').toNat:Int) != ((e[m]'hml).toNat:Int))=true:=by
     rw [bne_iff_ne];omega
    have HX:Hid (Lib.indexByte (t.extract (m+1) t.size).data.toList (e[m]'hml) = -1):=jnX _ _ (fun b hb e=>by
     have:=HT.out b (mem_extract hb);rw [e] at this;omega)
    have hlm:(m:Int)<e.size:=by omega
    have hle:(m:Int)+1≤t.size:=by omega
    have hl0:(0:Int)≤(m:Int)+1:=by omega
    have hwr:IntKind.i64.wrap ((m:Int)+1)=(m:Int)+1:=wrap_small _ (by omega) (by omega)
    go_wp2
    go_step3
    go_wp2
    go_quiet (fail)
    go_wp2
    go_region_with ((go_at_call 113;refine (jkx t e m hml HX.out _).mono ?_;rintro e' w1 ⟨rfl,rfl⟩))
    all_goals
     go_wp2
     try rw [Exit.noGoto_ret]
     try go_wp2
     try rw [Exit.noGoto_ret]
     try go_wp2
     try rw [Exit.noGoto_ret]
     go_ret
     exact ⟨rfl,below_drewN _ _⟩
   ·go_wp2
    go_ret
    exact ⟨rfl,brf _ _⟩
theorem jkw (t:ByteArray) (ht:∀ b∈t.data.toList,b.toNat<128) (r:Nat) (h1:128≤r) (h2:r≤1114111) (hv:Utf8.valid (r:Int)=true) (w:World) :
  Calls Tryz.prog 108 #[.string t,.int .i32 r] w fun e w'=>e=.returned (.int .i64 (-1))∧Below w.heap.size w w':=by
 by_cases h3:r=65533
 ·subst h3;exact jol t ht w
 ·exact jmU t ht r (by omega) (by omega) (by omega) hv w
theorem jgR (t:ByteArray) (ht:∀ b∈t.data.toList,b.toNat<128) (r:Nat) (h1:128≤r) (h2:r≤1114111) (hv:Utf8.valid (r:Int)=true) (w:World) :
  Calls Tryz.prog 97 #[.string t,.int .i32 r] w fun e w'=>e=.returned (.bool false)∧Below w.heap.size w w':=by
 have HC:Hid (Calls Tryz.prog 108 #[.string t,.int .i32 r] w fun e w'=>e=.returned (.int .i64 (-1))∧Below w.heap.size w w'):=jkw t ht r h1 h2 hv w
 clear ht h1 h2 hv
 go_enter Tryz.func97,Tryz.ntmps97
 go_wp2_with (go_at_call 108;refine HC.out.mono ?_;rintro e w1 ⟨rfl,hb1⟩)
 go_ret
 exact ⟨rfl,hb1⟩
theorem jhv (s:ByteArray) (p:Nat) (h:p<s.size) (ha:128≤(s[p]'h).toNat):(Utf8.decode s p).1≤1114111∧Utf8.valid ((Utf8.decode s p).1:Int)=true:=by
 have hn:¬ (s[p]'h).toNat<128:=by omega
 have hb:∀ k,(s.get! (p+k)).toNat<256:=fun k=>(s.get! (p+k)).toNat_lt
 have h0:=(s[p]'h).toNat_lt
 have h1:=hb 1;have h2:=hb 2;have h3:=hb 3
 rw [validRune_eq]
 unfold validRune
 have hv:∀ c:Nat,Utf8.valid (c:Int)=true→((0:Int)≤c∧(c:Int)<55296)∨(57343<(c:Int)∧(c:Int)≤1114111):=by
  intro c hc
  rw [validRune_eq] at hc
  unfold validRune at hc
  exact of_decide_eq_true hc
 simp only [Utf8.decode,get_at s p h,hn,if_false,Utf8.runeError]
 repeat' split
 all_goals simp only [decide_eq_true_eq,Bool.and_eq_true] at *
 all_goals first
  | (constructor <;> omega)
  | (rename_i hq;have:=hv _ hq.2;constructor <;> omega)
end Go.Proofs.YtjmlfacbcfbhdaaGreatDoor
