/- spec.l3Right. No conditions. -/
import Derived.Test.YtjmlfacbcfbhdaaGreatDoorYA
import Derived.Test.YtjmlfacbcfbhdaaGreatDoorRows
import Derived.Test.YtjmlfacbcfbhdaaGreatDoorY5
import Derived.Test.YtjmlfacbcfbhdaaGreatDoorY8
import Derived.Test.YtjmlfacbcfbhdaaGreatDoorY6
import Derived.WalkKit
import Derived.ProofKit
import Derived.OwnWalk
set_option maxRecDepth 100000
set_option maxHeartbeats 8000000
namespace Go.Proofs.YtjmlfacbcfbhdaaGreatDoor
open Go.ChangeShapes Go.WideShapes Go.ChangeAt Go.RowKit
def jlI (t:D):Prop:=∀ (w:World) (v:Value),t.In w v →
 Calls Tryz.prog 75 #[.agg #[.int .i64 t.op,.int .i64 t.at_,.int .i64 t.n,.string t.s,v]] w fun e w'=>e=.returned (.bool (jaU t))∧Below w.heap.size w w'
theorem jgw (t:D):jlI t:=by
 induction t with
 | no=>intro w v h;exact h.elim
 | mk op a n s len kid ih =>
  intro w v hin
  have h1:=hin.sl
  have hs:=hin.size
  have HRE:Hid (jaU (D.mk op a n s len kid)=(jci (fun i=>jaU (kid i)) len&&fB a op (wokB n) (symB s.data.toList) (s.toList == []) (n==0) ((len:Int)==0))):=rfl
  simp only [D.op,D.at_,D.n,D.s,D.len,D.kid] at h1 hs ⊢
  generalize jaU (D.mk op a n s len kid)=R at *
  obtain ⟨p,cap,e1,hlen,hat⟩:=h1.at
  have HC:Hid (∀ i,i<len→∃ b o u,p=some ⟨b,o,none⟩∧Head w b (o+i*5) (kid i) u∧(kid i).In w u):=hat
  have IH:Hid (∀ i,jlI (kid i)):=ih
  have HW:Hid (∀ w,Calls Tryz.prog 93 #[.int .i64 n] w fun e w'=>e=.returned (.bool (wokB n))∧w'=w):=fun w=>jjb n w
  have HS:Hid (∀ w,Calls Tryz.prog 94 #[.string s] w fun e w'=>e=.returned (.bool (symB s.data.toList))∧w'=w):=fun w=>jd3 s w hs
  generalize symB s.data.toList=sb at *
  generalize wokB n=wb at *
  clear hin h1 hat ih hs
  unfold maxLen at hlen
  subst e1
  go_enter Tryz.func75,Tryz.ntmps75
  go_wp2_with fail
  go_loopw [3] (fun i wr=>∃ k:Nat,i=.int .i64 k∧k≤len∧jci (fun i=>jaU (kid i)) k=true∧wr.heap[w.heap.size]? = some (.cells #[.int .i64 op,.int .i64 a,.int .i64 n,.string s,.slice p len cap] 72 (0,0))∧Below w.heap.size w wr) (fun i _=>len-(intOf i).toNat)
  case atStart=>exact ⟨0,rfl,nzl _,rfl,han w _,newb w _⟩
  case round =>
   obtain ⟨k,rfl,hk,hcc,hblk,hbel⟩:=hrel
   have HBL:Hid (Below w.heap.size w wr):=hbel
   have HA:Hid (jci (fun i=>jaU (kid i)) k=true):=hcc
   have HK:Hid (wr.heap[w.heap.size]? = some (.cells #[.int .i64 op,.int .i64 a,.int .i64 n,.string s,.slice p len cap] 72 (0,0))):=hblk
   have b0:wr.cell? ⟨w.heap.size,0,none⟩=some (.int .i64 op):=crw wr _ 0 _ _ _ hblk
   have b1:wr.cell? ⟨w.heap.size,1,none⟩=some (.int .i64 a):=crw wr _ 1 _ _ _ hblk
   have b2:wr.cell? ⟨w.heap.size,2,none⟩=some (.int .i64 n):=crw wr _ 2 _ _ _ hblk
   have b3:wr.cell? ⟨w.heap.size,3,none⟩=some (.string s):=crw wr _ 3 _ _ _ hblk
   have b4:wr.cell? ⟨w.heap.size,4,none⟩=some (.slice p len cap):=crw wr _ 4 _ _ _ hblk
   clear hbel hcc hblk
   by_cases hlt:(k:Int)<len
   ·have hlt':k<len:=by omega
    obtain ⟨b,o,u,hp,hd,hin⟩:=HC.out k hlt'
    subst hp
    obtain ⟨c0,c1,c2,c3,c4⟩:=hd.below HBL.out
    have HI:Hid ((kid k).In wr u):=hin.below HBL.out
    clear hd hin HW HS
    cases hr:jaU (kid k) with
    | true =>
     have HN:Hid (jci (fun i=>jaU (kid i)) (k+1)=true):=by
      show _=_
      simp only [jci,HA.out,hr,Bool.and_self]
     have HRK:Hid (jaU (kid k)=true):=hr
     clear hr
     go_wp2_with fail
     refine (IH.out k wr u HI.out).mono ?_
     rintro e w1 ⟨rfl,hb1⟩
     rw [HRK.out]
     have HB1:Hid (Below w.heap.size w w1):=HBL.out.trans (hb1.mono HBL.out.size)
     have HX:Hid (w1.heap[w.heap.size]? = some (.cells #[.int .i64 op,.int .i64 a,.int .i64 n,.string s,.slice (some ⟨b,o,none⟩) len cap] 72 (0,0))):=(hb1.block _ (aes.1 HK.out).1).trans HK.out
     clear hb1 c0 c1 c2 c3 c4 b0 b1 b2 b3 b4
     go_wp2_with fail
     go_roundw
     case rel=>exact ⟨k+1,by go_num,by omega,HN.out,HX.out,HB1.out⟩
     case measure=>simp [intOf];omega
    | false =>
     have HN:Hid (R=false):=HRE.out.trans (by rw [jdy hlt' hr];rfl)
     have HRK:Hid (jaU (kid k)=false):=hr
     clear hr HRE
     go_wp2_with fail
     refine (IH.out k wr u HI.out).mono ?_
     rintro e w1 ⟨rfl,hb1⟩
     rw [HRK.out]
     have HB1:Hid (Below w.heap.size w w1):=HBL.out.trans (hb1.mono HBL.out.size)
     clear hb1 c0 c1 c2 c3 c4 b0 b1 b2 b3 b4
     go_wp2_with fail
     go_ret
     exact ⟨by rw [HN.out];rfl,HB1.out⟩
   ·have hke:k=len:=by omega
    have HR:Hid (R=fB a op wb sb (s.toList == []) (n==0) ((len:Int)==0)):=HRE.out.trans (by rw [←hke,HA.out,Bool.true_and])
    clear HRE HA HC IH HK hke
    cases he:(s.toList==([]:List UInt8)) <;> cases hn:(n==0) <;> cases hl:((len:Int)==0)
    all_goals
     rw [he,hn,hl] at HR
     rcases Int.lt_or_le a 0 with ha|ha
     ·have HR2:Hid (R=false):=HR.out.trans (by unfold fB;rw [dqf (by omega)];rfl)
      clear HR
      have ha2:decide (0≤a)=false:=dqf (by omega)
      by_cases h1:op=1
      ·subst h1
       cases wb
       all_goals
        go_wp2_with ((go_at_call 93;refine (HW.out _).mono ?_;rintro e w1 ⟨rfl,rfl⟩))
        go_ret
        exact ⟨jaE HR2.out.symm,HBL.out⟩
      ·by_cases h2:op=2
       ·subst h2
        cases sb
        all_goals
         go_wp2_with ((go_at_call 94;refine (HS.out _).mono ?_;rintro e w1 ⟨rfl,rfl⟩))
         go_ret
         exact ⟨jaE HR2.out.symm,HBL.out⟩
       ·have g1:(op==1)=false:=by simpa using h1
        have g2:(op==2)=false:=by simpa using h2
        cases g3:(op==3)
        all_goals
         go_wp2_with fail
         go_ret
         exact ⟨jaE HR2.out.symm,HBL.out⟩
     ·by_cases h1:op=1
      ·subst h1
       cases wb
       all_goals
        have HR2:Hid _:=HR.out.trans (by unfold fB;rw [dqt ha,if_pos rfl])
        clear HR
        go_wp2_with ((go_at_call 93;refine (HW.out _).mono ?_;rintro e w1 ⟨rfl,rfl⟩))
        go_ret
        exact ⟨jaE HR2.out.symm,HBL.out⟩
      ·by_cases h2:op=2
       ·subst h2
        cases sb
        all_goals
         have HR2:Hid _:=HR.out.trans (by unfold fB;rw [dqt ha,if_neg (by omega),if_pos rfl])
         clear HR
         go_wp2_with ((go_at_call 94;refine (HS.out _).mono ?_;rintro e w1 ⟨rfl,rfl⟩))
         go_ret
         exact ⟨jaE HR2.out.symm,HBL.out⟩
       ·by_cases h3:op=3
        ·subst h3
         have HR2:Hid _:=HR.out.trans (by unfold fB;rw [dqt ha,if_neg (by omega),if_neg (by omega),if_pos rfl])
         clear HR
         go_wp2_with fail
         go_ret
         exact ⟨jaE HR2.out.symm,HBL.out⟩
        ·have HR2:Hid (R=false):=HR.out.trans (by unfold fB;rw [if_neg h1,if_neg h2,if_neg h3];simp)
         clear HR
         have g1:(op==1)=false:=by simpa using h1
         have g2:(op==2)=false:=by simpa using h2
         have g3:(op==3)=false:=by simpa using h3
         go_wp2_with fail
         go_ret
         exact ⟨jaE HR2.out.symm,HBL.out⟩
end Go.Proofs.YtjmlfacbcfbhdaaGreatDoor
