/- impl.beginsNumber and impl.SymOk at every text. Condition: the text has at most 2^20 bytes. -/
import Derived.Test.YtjmlfacbcfbhdaaGreatDoorYA
import Derived.Test.YtjmlfacbcfbhdaaGreatDoorY30
import Derived.Test.YtjmlfacbcfbhdaaGreatDoorY6
set_option maxRecDepth 100000
set_option maxHeartbeats 8000000
namespace Go.Proofs.YtjmlfacbcfbhdaaGreatDoor
open Go.ChangeShapes Go.WideShapes Go.ChangeAt Go.RowKit
theorem jel (c:Nat) (h:c<256) (w:World):Calls Tryz.prog 96 #[.int .i32 c] w fun e w'=>e=.returned (.bool (digB (UInt8.ofNat c)))∧w'=w:=by
 have hc:(UInt8.ofNat c).toNat=c:=by rw [UInt8.toNat_ofNat'];omega
 by_cases h1:(48:Int)≤c
 ·by_cases h2:(c:Int)≤57
  ·have HN:Hid (digB (UInt8.ofNat c)=true):=show digB _=true by unfold digB;rw [hc];simp only [Bool.and_eq_true,decide_eq_true_eq];omega
   clear hc
   go_enter Tryz.func96,Tryz.ntmps96
   go_wp2
   go_ret
   exact ⟨by rw [HN.out];rfl,rfl⟩
  ·have HN:Hid (digB (UInt8.ofNat c)=false):=show digB _=false by unfold digB;rw [hc,Bool.and_eq_false_iff,decide_eq_false_iff_not,decide_eq_false_iff_not];omega
   clear hc
   go_enter Tryz.func96,Tryz.ntmps96
   go_wp2
   go_ret
   exact ⟨by rw [HN.out];rfl,rfl⟩
 ·have HN:Hid (digB (UInt8.ofNat c)=false):=show digB _=false by unfold digB;rw [hc,Bool.and_eq_false_iff,decide_eq_false_iff_not,decide_eq_false_iff_not];omega
  clear hc
  go_enter Tryz.func96,Tryz.ntmps96
  go_wp2
  go_ret
  exact ⟨by rw [HN.out];rfl,rfl⟩
theorem jkb (r:Nat) (h:128≤r) (hr:r≤1114111) (w:World):Calls Tryz.prog 96 #[.int .i32 r] w fun e w'=>e=.returned (.bool false)∧w'=w:=by
 have h1:(48:Int)≤r:=by omega
 have h2:¬ (r:Int)≤57:=by omega
 go_enter Tryz.func96,Tryz.ntmps96
 go_wp2
 go_ret
 exact ⟨rfl,rfl⟩
theorem ji8:∀ b∈(⟨#[43,45,42,60,61,63,46,95]⟩:ByteArray).data.toList,b.toNat<128:=by decide
theorem jjJ (c:Nat) (h:c<128) (w:World):Calls Tryz.prog 81 #[.int .i32 c] w fun e w'=>e=.returned (.bool (ja1 (UInt8.ofNat c)))∧w'=w:=by
 have hc:(UInt8.ofNat c).toNat=c:=by rw [UInt8.toNat_ofNat'];omega
 have hN:ja1 (UInt8.ofNat c)=((decide (97≤c)&&decide (c≤122))||digB (UInt8.ofNat c)||(⟨#[43,45,42,60,61,63,46,95]⟩:ByteArray).data.toList.contains (UInt8.ofNat c)):=by
  unfold ja1 digB
  rw [hc]
 by_cases h1:(97:Int)≤c∧(c:Int)≤122
 ·have HN:Hid (ja1 (UInt8.ofNat c)=true):=show ja1 _=true by
   rw [hN,dqt (by omega:97≤c),dqt (by omega:c≤122)];rfl
  clear hc hN
  obtain ⟨h1,h2⟩:=h1
  go_enter Tryz.func81,Tryz.ntmps81
  go_wp2
  go_ret
  exact ⟨by rw [HN.out];rfl,rfl⟩
 have hf:(decide (97≤c)&&decide (c≤122))=false:=by rw [Bool.and_eq_false_iff,decide_eq_false_iff_not,decide_eq_false_iff_not];omega
 rw [hf] at hN
 have h2:(c:Int)<97∨((97:Int)≤c∧¬ (c:Int)≤122):=by omega
 cases hd:digB (UInt8.ofNat c) with
 | true =>
  have HN:Hid (ja1 (UInt8.ofNat c)=true):=show ja1 _=true by rw [hN,hd];rfl
  clear hc hN hf h1
  rcases h2 with h2|⟨h2,h3⟩
  all_goals
   go_enter Tryz.func81,Tryz.ntmps81
   go_wp2_with (go_at_call 96;refine (jel c (by omega) _).mono ?_;rintro e w1 ⟨rfl,rfl⟩)
   go_ret
   exact ⟨by rw [HN.out];rfl,rfl⟩
 | false =>
  have HN:Hid (ja1 (UInt8.ofNat c)=(⟨#[43,45,42,60,61,63,46,95]⟩:ByteArray).data.toList.contains (UInt8.ofNat c)):=show ja1 _=_ by rw [hN,hd];rfl
  clear hc hN hf h1
  have HC:Hid (∀ w:World,Calls Tryz.prog 97 #[.string ⟨#[43,45,42,60,61,63,46,95]⟩,.int .i32 c] w fun e w'=>e=.returned (.bool ((⟨#[43,45,42,60,61,63,46,95]⟩:ByteArray).data.toList.contains (UInt8.ofNat c)))∧w'=w):=fun w=>jhs _ c h w
  generalize (⟨#[43,45,42,60,61,63,46,95]⟩:ByteArray).data.toList.contains (UInt8.ofNat c)=b at HN HC
  rcases h2 with h2|⟨h2,h3⟩
  all_goals
   go_enter Tryz.func81,Tryz.ntmps81
   go_wp2_with (first|(go_at_call 96;refine (jel c (by omega) _).mono ?_;rintro e w1 ⟨rfl,rfl⟩)|(go_at_call 97;refine (HC.out _).mono ?_;rintro e w1 ⟨rfl,rfl⟩))
   go_ret
   exact ⟨by rw [HN.out];rfl,rfl⟩
theorem jga (r:Nat) (h1:128≤r) (h2:r≤1114111) (hv:Utf8.valid (r:Int)=true) (w:World):Calls Tryz.prog 81 #[.int .i32 r] w fun e w'=>e=.returned (.bool false)∧Below w.heap.size w w':=by
 have HV:Hid (Utf8.valid (r:Int)=true):=hv
 clear hv
 have h3:(97:Int)≤r:=by omega
 have h4:¬ (r:Int)≤122:=by omega
 go_enter Tryz.func81,Tryz.ntmps81
 go_wp2_with (first|(go_at_call 96;refine (jkb r h1 h2 _).mono ?_;rintro e w1 ⟨rfl,rfl⟩)|(go_at_call 97;refine (jgR _ ji8 r h1 h2 HV.out _).mono ?_;rintro e w1 ⟨rfl,hb1⟩))
 go_ret
 exact ⟨rfl,hb1⟩
theorem jlp (s:ByteArray) (h0:0<s.size) (hm:s[0]'h0=45):Lib.trimPrefix s.data.toList [45]=s.data.toList.tail:=by
 have h:=jbQ s 0 h0
 cases e:s.data.toList with
 | nil=>rw [e] at h;simp at h
 | cons c r =>
  rw [e] at h
  simp at h
  subst h
  rw [hm]
  simp [Lib.trimPrefix,Lib.hasPrefix]
theorem jlq (s:ByteArray) (h:∀ h0:0<s.size,s[0]'h0≠45):Lib.trimPrefix s.data.toList [45]=s.data.toList:=by
 cases e:s.data.toList with
 | nil=>rfl
 | cons c r =>
  have hl:s.data.toList.length=s.size:=by simp
  have h0:0<s.size:=by rw [←hl,e];simp
  have hg:=jbQ s 0 h0
  rw [e] at hg
  simp at hg
  have:=h h0
  rw [←hg] at this
  simp [Lib.trimPrefix,Lib.hasPrefix]
  exact fun e=>this e.symm
theorem jim (s:ByteArray):jbF s.data.toList=match Lib.trimPrefix s.data.toList [45] with | []=>false|c::_=>digB c:=by
 by_cases hm:∃ h0:0<s.size,s[0]'h0=45
 ·obtain ⟨h0,hm⟩:=hm
  rw [jlp s h0 hm]
  have h:=jbQ s 0 h0
  cases e:s.data.toList with
  | nil=>rw [e] at h;simp at h
  | cons c r =>
   rw [e] at h
   simp at h
   subst h
   rw [hm]
   cases r <;> simp [jbF,show digB 45=false from by decide]
 ·rw [jlq s (fun h0 hx=>hm ⟨h0,hx⟩)]
  cases e:s.data.toList with
  | nil=>rfl
  | cons c r =>
   have hl:s.data.toList.length=s.size:=by simp
   have h0:0<s.size:=by rw [←hl,e];simp
   have hg:=jbQ s 0 h0
   rw [e] at hg
   simp at hg
   have:c≠45:=by intro hx;exact hm ⟨h0,by rw [←hg];exact hx⟩
   simp [jbF,this]
theorem jfu (s:ByteArray) (w:World):Calls Tryz.prog 80 #[.string s] w fun e w'=>e=.returned (.bool (jbF s.data.toList))∧w'=w:=by
 have HC:Hid (Calls Tryz.prog 95 #[.string s,.string ⟨#[45]⟩] w fun e w'=>e=.returned (.string ⟨(Lib.trimPrefix s.data.toList [45]).toArray⟩)∧w'=w):=Tryz.strings_TrimPrefix s ⟨#[45]⟩ w
 have HB:Hid (jbF s.data.toList=match Lib.trimPrefix s.data.toList [45] with | []=>false|c::_=>digB c):=jim s
 generalize Lib.trimPrefix s.data.toList [45]=l at HC HB
 cases l with
 | nil =>
  have HN:Hid (jbF s.data.toList=false):=HB
  clear HB
  go_enter Tryz.func80,Tryz.ntmps80
  go_wp2_with (go_at_call 95;refine HC.out.mono ?_;rintro e w1 ⟨rfl,rfl⟩)
  go_ret
  exact ⟨by rw [HN.out];rfl,rfl⟩
 | cons c r =>
  have HN:Hid (jbF s.data.toList=digB c):=HB
  clear HB
  generalize hq:(⟨(c::r).toArray⟩:ByteArray)=q at HC
  have hq0:0<q.size:=by subst hq;show 0<(c::r).toArray.size;simp
  have hqc:q[0]'hq0=c:=by subst hq;rfl
  have hne:(q.toList==([]:List UInt8))=false:=by rw [ByteArray.toList_eq q,←hq];rfl
  have hq1:(0:Int)<q.size:=by omega
  have hcb:c.toNat<256:=c.toNat_lt
  clear hq
  go_enter Tryz.func80,Tryz.ntmps80
  go_wp2_with (first|(go_at_call 95;refine HC.out.mono ?_;rintro e w1 ⟨rfl,rfl⟩)|(go_at_call 96;refine (jel c.toNat c.toNat_lt _).mono ?_;rintro e w1 ⟨rfl,rfl⟩))
  go_ret
  exact ⟨by rw [HN.out];simp,rfl⟩
theorem jfJ (c:UInt8):UInt8.ofNat c.toNat=c:=by simp
theorem jnW (s:ByteArray) (hs:s.size≤1048576) (w:World):Calls Tryz.prog 52 #[.string s] w fun e w'=>e=.returned (.bool (symB s.data.toList))∧Below w.heap.size w w':=by
 have hl:s.data.toList.length=s.size:=by simp
 by_cases h0:s.size=0
 ·have HN:Hid (symB s.data.toList=false):=je6 (by omega)
  have hn:s.data.toList=[]:=List.eq_nil_of_length_eq_zero (by omega)
  have hne:(s.toList==([]:List UInt8))=true:=by rw [ByteArray.toList_eq s,hn];rfl
  clear hl hn h0
  go_enter Tryz.func52,Tryz.ntmps52
  go_wp2
  go_ret
  exact ⟨by rw [HN.out];rfl,brf _ _⟩
 have hne:(s.toList==([]:List UInt8))=false:=by
  rw [ByteArray.toList_eq s,beq_eq_false_iff_ne]
  intro e;rw [e] at hl;simp at hl;omega
 by_cases h12:(12:Int)<s.size
 ·have HN:Hid (symB s.data.toList=false):=je6 (by omega)
  clear hl
  go_enter Tryz.func52,Tryz.ntmps52
  go_wp2
  go_ret
  exact ⟨by rw [HN.out];rfl,brf _ _⟩
 cases hb:jbF s.data.toList with
 | true =>
  have HN:Hid (symB s.data.toList=false):=jhn hb
  clear hl
  go_enter Tryz.func52,Tryz.ntmps52
  go_wp2_with (go_at_call 80;refine (jfu s _).mono ?_;rintro e w1 ⟨rfl,rfl⟩)
  go_ret
  exact ⟨by rw [HN.out];rfl,brf _ _⟩
 | false =>
  have HB:Hid (jbF s.data.toList=false):=hb
  clear hl
  go_enter Tryz.func52,Tryz.ntmps52
  go_wp2_with (go_at_call 80;refine (jfu s _).mono ?_;rintro e w1 ⟨rfl,rfl⟩)
  clear hb hne
  go_loopw [4] (fun _ w'=>∃ pos:Nat,pos≤s.size∧w'=w1.iter s pos∧∀ c∈s.data.toList.take pos,ja1 c=true) (fun _ w'=>s.size-w'.iterPos w1.heap.size)
  case atStart=>exact ⟨0,nzl _,rfl,by simp⟩
  case round =>
   obtain ⟨pos,hpos,rfl,hd⟩:=hrel
   have HD:Hid (∀ c∈s.data.toList.take pos,ja1 c=true):=hd
   clear hd
   by_cases hp:pos<s.size
   ·have HT:Hid (s.data.toList.take (pos+1)=s.data.toList.take pos++[s[pos]]):=jd5 s pos hp
    have HM:Hid (s[pos]∈s.data.toList):=jeV s pos hp
    by_cases ha:(s[pos]).toNat<128
    ·have hnx:∀ ty,(Instr.next (.pointer (some ⟨w1.heap.size,0,none⟩)) true ty).run Tryz.prog (w1.iter s pos)=_:=fun ty=>run_next_ascii w1 s pos ty hp ha
     cases hn:ja1 s[pos] with
     | true =>
      have HN:Hid (ja1 s[pos]=true):=hn
      have HC:Hid (∀ w:World,Calls Tryz.prog 81 #[.int .i32 (s[pos]).toNat] w fun e w'=>e=.returned (.bool true)∧w'=w):=fun w=>by
       have:=jjJ (s[pos]).toNat ha w
       rw [jfJ,hn] at this
       exact this
      clear hn
      go_wp2_with (go_at_call 81;refine (HC.out _).mono ?_;rintro e w2 ⟨rfl,rfl⟩)
      go_roundw
      case rel =>
       refine ⟨pos+1,by omega,rfl,?_⟩
       rw [HT.out]
       intro c hc
       rcases lma.1 hc with hc|hc
       ·exact HD.out c hc
       ·simp only [List.mem_singleton] at hc
        subst hc
        exact HN.out
      case measure=>simp;omega
     | false =>
      have HN:Hid (symB s.data.toList=false):=jhm s[pos] HM.out hn
      have HC:Hid (∀ w:World,Calls Tryz.prog 81 #[.int .i32 (s[pos]).toNat] w fun e w'=>e=.returned (.bool false)∧w'=w):=fun w=>by
       have:=jjJ (s[pos]).toNat ha w
       rw [jfJ,hn] at this
       exact this
      clear hn
      go_wp2_with (go_at_call 81;refine (HC.out _).mono ?_;rintro e w2 ⟨rfl,rfl⟩)
      go_ret
      exact ⟨by rw [HN.out];rfl,jde _ _ _⟩
    ·have hnx:∀ ty,(Instr.next (.pointer (some ⟨w1.heap.size,0,none⟩)) true ty).run Tryz.prog (w1.iter s pos)=_:=fun ty=>run_next_any w1 s pos ty hp
     have HN:Hid (symB s.data.toList=false):=jhm s[pos] HM.out (jmx _ (by omega))
     have HV:Hid ((Utf8.decode s pos).1≤1114111∧Utf8.valid ((Utf8.decode s pos).1:Int)=true∧128≤(Utf8.decode s pos).1):=by
      obtain ⟨h1,h2⟩:=jhv s pos hp (by omega)
      exact ⟨h1,h2,(decode_high s pos hp (by omega)).1⟩
     go_wp2_with (go_at_call 81;refine (jga (Utf8.decode s pos).1 HV.out.2.2 HV.out.1 HV.out.2.1 _).mono ?_;rintro e w2 ⟨rfl,hb2⟩)
     go_ret
     exact ⟨by rw [HN.out];rfl,(jde _ _ _).trans (hb2.mono (by simp [World.iter]))⟩
   ·have hnx:∀ ty,(Instr.next (.pointer (some ⟨w1.heap.size,0,none⟩)) true ty).run Tryz.prog (w1.iter s pos)=_:=fun ty=>run_next_end w1 s pos ty hp
    have hpe:pos=s.size:=by omega
    have HN:Hid (symB s.data.toList=true):=by
     have hl:s.data.toList.length=s.size:=by simp
     refine je7 (by omega) (by omega) HB.out ?_
     have:=HD.out
     rw [hpe,List.take_of_length_le (by simp)] at this
     exact this
    clear hpe
    go_wp2
    go_ret
    exact ⟨by rw [HN.out];rfl,jde _ _ _⟩
end Go.Proofs.YtjmlfacbcfbhdaaGreatDoor
