/- spec.SymOk at every text: whether it is a name. Condition: the text is no longer than a text can be. -/
import Derived.Test.YtjmlfacbcfbhdaaGreatDoorYA
import Derived.Test.YtjmlfacbcfbhdaaGreatDoorRows
import Derived.Test.YtjmlfacbcfbhdaaGreatDoorY5
import Derived.WalkKit
import Derived.ProofKit
import Derived.Below
set_option maxRecDepth 100000
set_option maxHeartbeats 8000000
namespace Go.Proofs.YtjmlfacbcfbhdaaGreatDoor
open Go.ChangeShapes Go.WideShapes Go.ChangeAt Go.RowKit
theorem jgE (c d:UInt8):(c==d)=((c.toNat:Int)==(d.toNat:Int)):=by
 rw [Bool.eq_iff_iff]
 simp only [beq_iff_eq]
 constructor
 ·rintro rfl;rfl
 ·intro h;exact UInt8.toNat_inj.1 (by omega)
theorem jpm {l:List UInt8} {k:Nat} {c d:UInt8} (h:(l.take k).contains c=false) (hd:l[k]? = some d) (hne:c≠d):(l.take (k+1)).contains c=false:=by
 rw [List.take_add_one,hd]
 simp only [List.contains_eq_mem,List.mem_append,decide_eq_false_iff_not] at h ⊢
 rintro (h1|h1)
 ·exact h h1
 ·simp at h1;exact hne h1
theorem jh1 (c:UInt8) (w:World):Calls Tryz.prog 105 #[.int .u8 c.toNat] w fun e w'=>e=.returned (.bool (ja1 c))∧w'=w:=by
 have hc:c.toNat<256:=c.toNat_lt
 by_cases h1:(97:Int)≤c.toNat∧(c.toNat:Int)≤122
 ·have HN:Hid (ja1 c=true):=show ja1 c=true by
   unfold ja1
   simp only [Bool.or_eq_true,Bool.and_eq_true,decide_eq_true_eq]
   omega
  obtain ⟨h1,h2⟩:=h1
  go_enter Tryz.func105,Tryz.ntmps105
  go_wp2
  go_ret
  exact ⟨by rw [HN.out];rfl,rfl⟩
 by_cases h2:(48:Int)≤c.toNat∧(c.toNat:Int)≤57
 ·have HN:Hid (ja1 c=true):=show ja1 c=true by
   unfold ja1
   simp only [Bool.or_eq_true,Bool.and_eq_true,decide_eq_true_eq]
   omega
  obtain ⟨h2,h3⟩:=h2
  have h4:¬ (97:Int)≤c.toNat:=by omega
  clear h1
  go_enter Tryz.func105,Tryz.ntmps105
  go_wp2
  go_ret
  exact ⟨by rw [HN.out];rfl,rfl⟩
 have HL:Hid (ja1 c=(([43,45,42,60,61,63,46,95]:List UInt8).contains c)):=show ja1 c=_ by
  unfold ja1
  have e1:(decide (97≤c.toNat)&&decide (c.toNat≤122))=false:=by rw [Bool.and_eq_false_iff,decide_eq_false_iff_not,decide_eq_false_iff_not];omega
  have e2:(decide (48≤c.toNat)&&decide (c.toNat≤57))=false:=by rw [Bool.and_eq_false_iff,decide_eq_false_iff_not,decide_eq_false_iff_not];omega
  rw [e1,e2];rfl
 have h3:(c.toNat:Int)<48∨((57:Int)<c.toNat∧(c.toNat:Int)<97)∨(122:Int)<c.toNat:=by omega
 clear h1 h2
 rcases h3 with h3|⟨h3,h4⟩|h3
 all_goals
  go_enter Tryz.func105,Tryz.ntmps105
  go_wp2
  go_loop [4] (fun i=>∃ k:Nat,k≤8∧i=.int .i64 k∧(([43,45,42,60,61,63,46,95]:List UInt8).take k).contains c=false) (fun i=>8-(intOf i).toNat)
  case atStart=>exact ⟨0,nzl _,rfl,rfl⟩
  case round =>
   obtain ⟨k,hk,rfl,hno⟩:=hrel
   have HO:Hid ((([43,45,42,60,61,63,46,95]:List UInt8).take k).contains c=false):=hno
   clear hno
   by_cases hlt:(k:Int)<8
   ·have hlt':k<(⟨#[43,45,42,60,61,63,46,95]⟩:ByteArray).size:=by show k<8;omega
    have hg:([43,45,42,60,61,63,46,95]:List UInt8)[k]? = some ((⟨#[43,45,42,60,61,63,46,95]⟩:ByteArray)[k]'hlt'):=lgg (by show k<8;omega)
    by_cases he:(⟨#[43,45,42,60,61,63,46,95]⟩:ByteArray)[k]'hlt'=c
    ·have HN:Hid (ja1 c=true):=show ja1 c=true by
      rw [HL.out,←he]
      exact List.contains_iff_mem.2 (List.mem_of_getElem? hg)
     have hx:((((⟨#[43,45,42,60,61,63,46,95]⟩:ByteArray)[k]'hlt').toNat:Int)==(c.toNat:Int))=true:=by rw [he];simp
     clear he hg
     go_wp2
     go_ret
     exact ⟨by rw [HN.out];rfl,rfl⟩
    ·have HO2:Hid ((([43,45,42,60,61,63,46,95]:List UInt8).take (k+1)).contains c=false):=jpm HO.out hg (fun e=>he e.symm)
     have hx:((((⟨#[43,45,42,60,61,63,46,95]⟩:ByteArray)[k]'hlt').toNat:Int)==(c.toNat:Int))=false:=by
      rw [←jgE _ c];exact beq_eq_false_iff_ne.2 he
     clear he hg
     go_wp2
     go_round
     case rel=>exact ⟨k+1,by omega,by go_num,HO2.out⟩
     case measure=>simp [intOf];omega
   ·have hk8:k=8:=by omega
    have HN:Hid (ja1 c=false):=show ja1 c=false by rw [HL.out];have:=HO.out;rw [hk8] at this;exact this
    clear hk8
    go_wp2
    go_ret
    exact ⟨by rw [HN.out];rfl,rfl⟩
theorem jbQ (s:ByteArray) (k:Nat) (h:k<s.size):s.data.toList[k]? = some (s[k]'h):=lgg (by simpa using h)
theorem jj3 (s:ByteArray) (h0:0<s.size) (hd:digB (s[0]'h0)=true):jbF s.data.toList=true:=by
 have h:=jbQ s 0 h0
 cases e:s.data.toList with
 | nil=>rw [e] at h;simp at h
 | cons c r=>rw [e] at h;simp at h;subst h;simp [jbF,hd]
theorem jhr (s:ByteArray) (h0:0<s.size) (hd:digB (s[0]'h0)=false) (hm:s[0]'h0≠45):jbF s.data.toList=false:=by
 have h:=jbQ s 0 h0
 cases e:s.data.toList with
 | nil=>rw [e] at h;simp at h
 | cons c r=>rw [e] at h;simp at h;subst h;simp [jbF,hd,hm]
theorem jj4 (s:ByteArray) (h1:s.size=1) (hm:s[0]'(by omega)=45):jbF s.data.toList=false:=by
 have h:=jbQ s 0 (by omega)
 have hl:s.data.toList.length=1:=by simpa using h1
 cases e:s.data.toList with
 | nil=>rw [e] at h;simp at h
 | cons c r =>
  rw [e] at h hl
  simp at h hl
  subst hl
  rw [h,hm];rfl
theorem jj5 (s:ByteArray) (h1:1<s.size) (hm:s[0]'(by omega)=45):jbF s.data.toList=digB (s[1]'h1):=by
 have h:=jbQ s 0 (by omega)
 have h':=jbQ s 1 h1
 cases e:s.data.toList with
 | nil=>rw [e] at h;simp at h
 | cons c r =>
  rw [e] at h h'
  simp at h h'
  rw [hm] at h
  subst h
  cases r with
  | nil=>simp at h'
  | cons d r =>
   simp at h'
   subst h'
   show (digB 45||((45:UInt8)==45&&digB _))=_
   rw [show digB 45=false from by decide,show ((45:UInt8)==45)=true from by decide]
   simp
theorem je6 {l:List UInt8} (h:l.length<1∨12<l.length):symB l=false:=by
 unfold symB
 rcases h with h|h
 ·have:decide (1≤l.length)=false:=by rw [decide_eq_false_iff_not];omega
  rw [this];rfl
 ·have:decide (l.length≤12)=false:=by rw [decide_eq_false_iff_not];omega
  rw [this];simp
theorem jhn {l:List UInt8} (h:jbF l=true):symB l=false:=by
 unfold symB;rw [h];simp
theorem jhm {l:List UInt8} (c:UInt8) (hc:c∈l) (h:ja1 c=false):symB l=false:=by
 unfold symB
 have:l.all ja1=false:=by
  rw [List.all_eq_false]
  exact ⟨c,hc,by simp [h]⟩
 rw [this];simp
theorem je7 {l:List UInt8} (h1:1≤l.length) (h2:l.length≤12) (h3:jbF l=false) (h4:∀ c∈l,ja1 c=true):symB l=true:=by
 unfold symB
 have:l.all ja1=true:=List.all_eq_true.2 h4
 rw [this,h3,dqt h1,dqt h2];rfl
theorem jd3 (s:ByteArray) (w:World) (hs:s.size≤maxLen) :
  Calls Tryz.prog 94 #[.string s] w fun e w'=>e=.returned (.bool (symB s.data.toList))∧w'=w:=by
 unfold maxLen at hs
 go_enter Tryz.func94,Tryz.ntmps94
 go_wp2
 go_loop [3] (fun i=>∃ k:Nat,k≤s.size∧i=.int .i64 k∧∀ c∈s.data.toList.take k,ja1 c=true) (fun i=>s.size-(intOf i).toNat)
 case atStart=>exact ⟨0,nzl _,rfl,by simp⟩
 case round =>
  obtain ⟨k,hk,rfl,hd⟩:=hrel
  have HD:Hid (∀ c∈s.data.toList.take k,ja1 c=true):=hd
  clear hd
  by_cases hlt:(k:Int)<s.size
  ·have hlt':k<s.size:=by omega
   have HT:Hid (s.data.toList.take (k+1)=s.data.toList.take k++[s[k]]):=jd5 s k hlt'
   have HM:Hid (s[k]∈s.data.toList):=jeV s k hlt'
   cases hn:ja1 s[k] with
   | false =>
    have HN:Hid (symB s.data.toList=false):=jhm s[k] HM.out hn
    go_wp2_with (go_at_call 105;refine (jh1 s[k] _).mono ?_;rintro e w1 ⟨rfl,rfl⟩)
    go_ret
    exact ⟨by rw [HN.out];rfl,rfl⟩
   | true =>
    have HN:Hid (ja1 s[k]=true):=hn
    go_wp2_with (go_at_call 105;refine (jh1 s[k] _).mono ?_;rintro e w1 ⟨rfl,rfl⟩)
    go_round
    case rel =>
     refine ⟨k+1,by omega,by go_num,?_⟩
     rw [HT.out]
     intro c hc
     rcases lma.1 hc with hc|hc
     ·exact HD.out c hc
     ·simp only [List.mem_singleton] at hc
      subst hc
      exact HN.out
    case measure=>simp [intOf];omega
  ·have hke:k=s.size:=by omega
   have HA:Hid (∀ c∈s.data.toList,ja1 c=true):=show ∀ c∈s.data.toList,ja1 c=true by
    have:=HD.out
    rw [hke,List.take_of_length_le (by simp)] at this
    exact this
   have hl:s.data.toList.length=s.size:=by simp
   clear HD hke
   by_cases h1:(s.size:Int)<1
   ·have HN:Hid (symB s.data.toList=false):=je6 (by omega)
    clear hl
    go_wp2_with (first|(go_at_call 104;go_in))
    go_ret
    exact ⟨by rw [HN.out];rfl,rfl⟩
   by_cases h2:(12:Int)<s.size
   ·have HN:Hid (symB s.data.toList=false):=je6 (by omega)
    clear hl
    go_wp2_with (first|(go_at_call 104;go_in))
    go_ret
    exact ⟨by rw [HN.out];rfl,rfl⟩
   have h0:0<s.size:=by omega
   cases hd:digB s[0] with
   | true =>
    have HN:Hid (symB s.data.toList=false):=jhn (jj3 s h0 hd)
    clear hl
    go_wp2_with (first|(go_at_call 104;go_in)|(go_at_call 106;refine (jbd s[0] _).mono ?_;rintro e w1 ⟨rfl,rfl⟩))
    go_ret
    exact ⟨by rw [HN.out];rfl,rfl⟩
   | false =>
   by_cases hm:s[0]=45
   ·by_cases h3:s.size=1
    ·have HN:Hid (symB s.data.toList=true):=je7 (by omega) (by omega) (jj4 s h3 hm) HA.out
     have hm':((s[0].toNat:Int) != 45)=false:=by rw [hm];rfl
     have h3':((s.size:Int)==1)=true:=by rw [h3];rfl
     clear hl hm h3
     go_wp2_with (first|(go_at_call 104;go_in)|(go_at_call 106;refine (jbd s[0] _).mono ?_;rintro e w1 ⟨rfl,rfl⟩))
     go_ret
     exact ⟨by rw [HN.out];rfl,rfl⟩
    ·have h4:1<s.size:=by omega
     have hb:=jj5 s h4 hm
     have hm':((s[0].toNat:Int) != 45)=false:=by rw [hm];rfl
     have h3':((s.size:Int)==1)=false:=by simp;omega
     have h4':(1:Int)<s.size:=by omega
     cases hd1:digB s[1] with
     | true =>
      have HN:Hid (symB s.data.toList=false):=jhn (by rw [hb,hd1])
      clear hl hm h3 hb
      go_wp2_with (first|(go_at_call 104;go_in)|(go_at_call 106;refine (jbd _ _).mono ?_;rintro e w1 ⟨rfl,rfl⟩))
      go_ret
      exact ⟨by rw [HN.out];rfl,rfl⟩
     | false =>
      have HN:Hid (symB s.data.toList=true):=je7 (by omega) (by omega) (by rw [hb,hd1]) HA.out
      clear hl hm h3 hb
      go_wp2_with (first|(go_at_call 104;go_in)|(go_at_call 106;refine (jbd _ _).mono ?_;rintro e w1 ⟨rfl,rfl⟩))
      go_ret
      exact ⟨by rw [HN.out];rfl,rfl⟩
   ·have HN:Hid (symB s.data.toList=true):=je7 (by omega) (by omega) (jhr s h0 hd hm) HA.out
    have hm':((s[0].toNat:Int) != 45)=true:=by
     have:=jgE s[0] 45
     rw [show ((45:UInt8).toNat:Int)=45 from rfl] at this
     rw [bne,←this,beq_eq_false_iff_ne.2 hm];rfl
    clear hl hm
    go_wp2_with (first|(go_at_call 104;go_in)|(go_at_call 106;refine (jbd s[0] _).mono ?_;rintro e w1 ⟨rfl,rfl⟩))
    go_ret
    exact ⟨by rw [HN.out];rfl,rfl⟩
end Go.Proofs.YtjmlfacbcfbhdaaGreatDoor
