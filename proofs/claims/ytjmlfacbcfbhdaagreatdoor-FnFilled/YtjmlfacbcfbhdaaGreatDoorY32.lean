/- impl.stxFieldsOk. Condition: the text has at most 2^20 bytes, the set at most 2^22 numbers. -/
import Derived.Test.YtjmlfacbcfbhdaaGreatDoorYA
import Derived.Test.YtjmlfacbcfbhdaaGreatDoorY16
import Derived.Test.YtjmlfacbcfbhdaaGreatDoorY19
import Derived.Test.YtjmlfacbcfbhdaaGreatDoorY0
import Derived.Test.YtjmlfacbcfbhdaaGreatDoorY8
import Derived.Test.YtjmlfacbcfbhdaaGreatDoorY31
import Derived.Test.YtjmlfacbcfbhdaaGreatDoorY1
set_option maxRecDepth 100000
set_option maxHeartbeats 8000000
namespace Go.Proofs.YtjmlfacbcfbhdaaGreatDoor
open Go.ChangeShapes Go.WideShapes Go.ChangeAt Go.RowKit
theorem jgk (t:X) (w:World) (sp p:Option Addr) (sc cap:Nat) (hs:t.s.size≤1048576) (hset:Rd w (.slice sp t.set.length sc) t.set) (hsl:t.set.length≤4194304) :
  Calls Tryz.prog 23 #[.agg #[.int .i64 t.op,.int .i64 t.at_,.int .i64 t.n,.string t.s,.slice sp t.set.length sc,.slice p t.len cap]] w fun e w'=>e=.returned (.bool (ja2 t))∧Below w.heap.size w w':=by
 have HW:Hid (∀ w,Calls Tryz.prog 51 #[.int .i64 t.n] w fun e w'=>e=.returned (.bool (wokB t.n))∧w'=w):=fun w=>jiB t.n w
 have HS:Hid (∀ w,Calls Tryz.prog 52 #[.string t.s] w fun e w'=>e=.returned (.bool (symB t.s.data.toList))∧Below w.heap.size w w'):=fun w=>jnW t.s hs w
 have HT:Hid (∀ w1,Below w.heap.size w w1→Calls Tryz.prog 53 #[.slice sp t.set.length sc] w1 fun e w'=>e=.returned (.bool (setB t.set))∧Below w1.heap.size w1 w'):=fun w1 hb=>(jkv t.set _ w1 (hset.below hb) hsl).mono (fun _ _ h=>⟨h.1,by rw [h.2];exact brf _ _⟩)
 have HR:Hid (ja2 t=gB t.at_ t.op (wokB t.n) (symB t.s.data.toList) (t.s.toList == []) (t.n==0) ((t.len:Int)==0) ((t.set.length:Int)==0) (setB t.set)):=jdz t
 clear hset hsl hs
 generalize ja2 t=R at *
 generalize symB t.s.data.toList=sb at *
 generalize wokB t.n=wb at *
 generalize setB t.set=st at *
 generalize t.set.length=sl at *
 generalize t.op=op at *
 generalize t.at_=a at *
 generalize t.n=n at *
 generalize t.s=s at *
 generalize t.len=len at *
 rcases Int.lt_or_le a 0 with ha|ha
 ·have HR2:Hid (R=false):=HR.out.trans (by unfold gB;rw [dqf (by omega)];rfl)
  have HB:Hid (∀ o1,Below w.heap.size w (w.alloc o1)):=fun o1=>newx w _
  clear HR
  go_enter Tryz.func23,Tryz.ntmps23
  go_wp2_with fail
  go_ret
  exact ⟨jaE HR2.out.symm,HB.out _⟩
 ·have HRA:Hid (R=(if op=1 then wb&&((s.toList == [])&&(((sl:Int)==0)&&((len:Int)==0))) else if op=2 then sb&&((n==0)&&(st&&((len:Int)==0))) else if op=3 then (n==0)&&((s.toList == [])&&((sl:Int)==0)) else false)):=HR.out.trans (by unfold gB;rw [dqt ha,Bool.true_and])
  clear HR
  go_enter Tryz.func23,Tryz.ntmps23
  go_wp2_with fail
  refine (jiV op a n s (.slice sp sl sc) (.slice p len cap) _).mono ?_
  rintro e w1 ⟨T,rfl,hb1,hT⟩
  have HB1:Hid (Below w.heap.size w w1):=(newx w _).trans (hb1.mono (by simp))
  clear hb1
  rcases hT with ⟨h,rfl⟩|⟨h,rfl⟩|⟨h,rfl⟩|⟨⟨h1,h2,h3⟩,rfl⟩
  ·have HR2:Hid (R=(wb&&((s.toList == [])&&(((sl:Int)==0)&&((len:Int)==0))))):=HRA.out.trans (if_pos h)
   have hta:=jkB (.agg #[.int .i64 op,.int .i64 a,.int .i64 n,.string s,.slice sp sl sc,.slice p len cap]) w1
   have HB2:Hid (∀ o,Below w.heap.size w (w1.alloc o)):=fun o=>HB1.out.trans ((newx _ _).mono HB1.out.size)
   clear h HRA
   cases he:(s.toList==([]:List UInt8)) <;> cases hz:((sl:Int)==0) <;> cases hl:((len:Int)==0)
   all_goals
    rw [he,hz,hl] at HR2
    cases wb
    all_goals
     go_wp2_with ((go_at_call 51;refine (HW.out _).mono ?_;rintro e w2 ⟨rfl,rfl⟩))
     go_ret
     exact ⟨jaE HR2.out.symm,HB2.out _⟩
  ·have HR2:Hid (R=(sb&&((n==0)&&(st&&((len:Int)==0))))):=HRA.out.trans ((if_neg (by omega)).trans (if_pos h))
   have hta:=jet (ty:=99) (by decide) (.agg #[.int .i64 op,.int .i64 a,.int .i64 n,.string s,.slice sp sl sc,.slice p len cap]) w1
   have htb:=jgp (.agg #[.int .i64 op,.int .i64 a,.int .i64 n,.string s,.slice sp sl sc,.slice p len cap]) w1
   have hnb:=newx w1 (.cells #[.int .i64 op,.int .i64 a,.int .i64 n,.string s,.slice sp sl sc,.slice p len cap] 99)
   have HB2:Hid (Below w.heap.size w (w1.alloc (.cells #[.int .i64 op,.int .i64 a,.int .i64 n,.string s,.slice sp sl sc,.slice p len cap] 99))):=HB1.out.trans (hnb.mono HB1.out.size)
   clear h HRA hnb
   go_wp2_with fail
   refine (HS.out _).mono ?_
   rintro e w2 ⟨rfl,hb2⟩
   have hX2:Six w2 w1.heap.size op a n s (.slice sp sl sc) (.slice p len cap) 99:=(hb2.block _ (by simp)).trans (han w1 _)
   obtain ⟨q0,q1,q2,q3,q4,q5⟩:=hX2.cells
   have HX2:Hid (Six w2 w1.heap.size op a n s (.slice sp sl sc) (.slice p len cap) 99):=hX2
   have HB3:Hid (Below w.heap.size w w2):=HB2.out.trans (hb2.mono HB2.out.size)
   clear hb2 hX2 hta htb
   cases sb with
   | false =>
    go_wp2_with fail
    go_ret
    exact ⟨jaE (HR2.out.trans (by simp)).symm,HB3.out⟩
   | true =>
    cases hn:(n==0) with
    | false =>
     rw [hn] at HR2
     go_wp2_with fail
     go_ret
     exact ⟨jaE (HR2.out.trans (by simp)).symm,HB3.out⟩
    | true =>
     rw [hn] at HR2
     go_wp2_with fail
     refine (HT.out _ HB3.out).mono ?_
     rintro e w3 ⟨rfl,hb3⟩
     obtain ⟨y0,y1,y2,y3,y4,y5⟩:=(HX2.out.below hb3).cells
     have HB4:Hid (Below w.heap.size w w3):=HB3.out.trans (hb3.mono HB3.out.size)
     clear hb3 q0 q1 q2 q3 q4 q5
     cases st <;> cases hl:((len:Int)==0)
     all_goals
      rw [hl] at HR2
      go_wp2_with fail
      go_ret
      exact ⟨jaE (HR2.out.trans (by simp)).symm,HB4.out⟩
  ·have HR2:Hid (R=((n==0)&&((s.toList == [])&&((sl:Int)==0)))):=HRA.out.trans ((if_neg (by omega)).trans ((if_neg (by omega)).trans (if_pos h)))
   have hta:=jet (ty:=102) (by decide) (.agg #[.int .i64 op,.int .i64 a,.int .i64 n,.string s,.slice sp sl sc,.slice p len cap]) w1
   have htb:=jcs (ty:=102) (by decide) (.agg #[.int .i64 op,.int .i64 a,.int .i64 n,.string s,.slice sp sl sc,.slice p len cap]) w1
   have htc:=jiF (.agg #[.int .i64 op,.int .i64 a,.int .i64 n,.string s,.slice sp sl sc,.slice p len cap]) w1
   have HB2:Hid (∀ o,Below w.heap.size w (w1.alloc o)):=fun o=>HB1.out.trans ((newx _ _).mono HB1.out.size)
   clear h HRA
   cases he:(s.toList==([]:List UInt8)) <;> cases hz:((sl:Int)==0) <;> cases hn:(n==0)
   all_goals
    rw [he,hz,hn] at HR2
    go_wp2_with fail
    go_ret
    exact ⟨jaE (HR2.out.trans (by simp)).symm,HB2.out _⟩
  ·have HR2:Hid (R=false):=HRA.out.trans ((if_neg h1).trans ((if_neg h2).trans (if_neg h3)))
   have hta:=jet (ty:=139) (by decide) (.agg #[.int .i64 op,.int .i64 a,.int .i64 n,.string s,.slice sp sl sc,.slice p len cap]) w1
   have htb:=jcs (ty:=139) (by decide) (.agg #[.int .i64 op,.int .i64 a,.int .i64 n,.string s,.slice sp sl sc,.slice p len cap]) w1
   have htc:=jiS (ty:=139) (by decide) (.agg #[.int .i64 op,.int .i64 a,.int .i64 n,.string s,.slice sp sl sc,.slice p len cap]) w1
   clear h1 h2 h3 HRA
   go_wp2_with fail
   go_ret
   exact ⟨jaE HR2.out.symm,HB1.out⟩
end Go.Proofs.YtjmlfacbcfbhdaaGreatDoor
