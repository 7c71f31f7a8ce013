/- WordOk of both packages at every int: the same answers, the world as it was. No conditions. -/
import Derived.Test.YtjmlfacbcfbhdaaGreatDoorYA
import Derived.Test.YtjmlfacbcfbhdaaGreatDoorRows
import Derived.Test.YtjmlfacbcfbhdaaGreatDoorY5
import Derived.WalkKit
import Derived.ProofKit
import Derived.OwnWalk
import Derived.Below
set_option maxRecDepth 100000
set_option maxHeartbeats 8000000
namespace Go.Proofs.YtjmlfacbcfbhdaaGreatDoor
open Go.ChangeShapes Go.WideShapes Go.ChangeAt Go.RowKit
theorem jor (a b:Nat) (w:World):Calls Tryz.prog 92 #[.int .i64 a,.int .i64 b] w fun e w'=>e=.returned (.int .i64 ((max a b:Nat):Int))∧w'=w:=by
 by_cases h:(b:Int)<a
 ·have H:Hid (max a b=a):=by show _=_;omega
  go_enter Tryz.func92,Tryz.ntmps92
  go_wp2
  go_ret
  exact ⟨by rw [H.out];rfl,rfl⟩
 ·have H:Hid (max a b=b):=by show _=_;omega
  go_enter Tryz.func92,Tryz.ntmps92
  go_wp2
  go_ret
  exact ⟨by rw [H.out];rfl,rfl⟩
def joH (t:D):Prop:=∀ (w:World) (v:Value),t.In w v→t.count≤1099511627776 →
 Calls Tryz.prog 73 #[.agg #[.int .i64 t.op,.int .i64 t.at_,.int .i64 t.n,.string t.s,v]] w fun e w'=>e=.returned (.int .i64 t.count)∧Below w.heap.size w w'
def joD (t:D):Prop:=∀ (w:World) (v:Value),t.In w v→t.count≤1099511627776 →
 Calls Tryz.prog 74 #[.agg #[.int .i64 t.op,.int .i64 t.at_,.int .i64 t.n,.string t.s,v]] w fun e w'=>e=.returned (.int .i64 t.deep)∧Below w.heap.size w w'
theorem jm6 (t:D):joH t:=by
 induction t with
 | no=>intro w v h _;exact h.elim
 | mk op a n s len kid ih =>
  intro w v hin hc
  have h1:=hin.sl
  have HCE:Hid ((D.mk op a n s len kid).count=1+jao (fun i=>(kid i).count) len):=rfl
  simp only [D.op,D.at_,D.n,D.s,D.len,D.kid] at h1 ⊢
  generalize (D.mk op a n s len kid).count=C at *
  obtain ⟨p,cap,e1,hlen,hat⟩:=h1.at
  have HC:Hid (∀ i,i<len→∃ b o u,p=some ⟨b,o,none⟩∧Head w b (o+i*5) (kid i) u∧(kid i).In w u):=hat
  have IH:Hid (∀ i,joH (kid i)):=ih
  clear hin h1 hat ih
  unfold maxLen at hlen
  subst e1
  go_enter Tryz.func73,Tryz.ntmps73
  go_wp2_with fail
  go_loopw [3,4] (fun x i wr=>∃ k c:Nat,i=.int .i64 k∧x=.int .i64 c∧k≤len∧c=1+jao (fun i=>(kid i).count) k∧wr.cell? ⟨w.heap.size,4,none⟩=some (.slice p len cap)∧Below w.heap.size w wr) (fun _ i _=>len-(intOf i).toNat)
  case atStart=>exact ⟨0,1,rfl,rfl,nzl _,rfl,by simp,newb w _⟩
  case round =>
   obtain ⟨k,c,rfl,rfl,hk,hcc,hc1,hbel⟩:=hrel
   have HBL:Hid (Below w.heap.size w wr):=hbel
   have HS:Hid (c=1+jao (fun i=>(kid i).count) k):=hcc
   clear hbel hcc
   by_cases hlt:(k:Int)<len
   ·have hlt':k<len:=by omega
    obtain ⟨b,o,u,hp,hd,hin⟩:=HC.out k hlt'
    subst hp
    obtain ⟨c0,c1,c2,c3,c4⟩:=hd.below HBL.out
    have HI:Hid ((kid k).In wr u):=hin.below HBL.out
    have hsum:c+(kid k).count≤C:=by
     have h1:=jbU (fun i=>(kid i).count) k len hlt'
     have h2:=HS.out
     have h3:=HCE.out
     omega
    have hck:(kid k).count≤1099511627776:=by omega
    clear hd hin
    go_wp2_with fail
    refine (IH.out k wr u HI.out hck).mono ?_
    rintro e w1 ⟨rfl,hb1⟩
    have HB1:Hid (Below w.heap.size w w1):=HBL.out.trans (hb1.mono HBL.out.size)
    have HX:Hid (w1.cell? ⟨w.heap.size,4,none⟩=some (.slice (some ⟨b,o,none⟩) len cap)):=jaG hb1 _ _ hc1
    clear hb1 c0 c1 c2 c3 c4
    go_wp2_with fail
    go_roundw
    case rel=>exact ⟨k+1,c+(kid k).count,by go_num,by go_num,by omega,by rw [HS.out];simp only [jao];omega,HX.out,HB1.out⟩
    case measure=>simp [intOf];omega
   ·have hke:k=len:=by omega
    subst hke
    have HE:Hid (c=C):=HS.out.trans HCE.out.symm
    go_wp2_with fail
    go_ret
    exact ⟨by rw [←HE.out];rfl,HBL.out⟩
theorem jm4 (t:D):joD t:=by
 induction t with
 | no=>intro w v h _;exact h.elim
 | mk op a n s len kid ih =>
  intro w v hin hc
  have h1:=hin.sl
  have HCE:Hid ((D.mk op a n s len kid).count=1+jao (fun i=>(kid i).count) len):=rfl
  have HDE:Hid ((D.mk op a n s len kid).deep=jfG (fun i=>(kid i).deep) len+1):=rfl
  have hdc:=(D.mk op a n s len kid).deep_count
  simp only [D.op,D.at_,D.n,D.s,D.len,D.kid] at h1 ⊢
  generalize (D.mk op a n s len kid).count=C at *
  generalize (D.mk op a n s len kid).deep=E at *
  obtain ⟨p,cap,e1,hlen,hat⟩:=h1.at
  have HC:Hid (∀ i,i<len→∃ b o u,p=some ⟨b,o,none⟩∧Head w b (o+i*5) (kid i) u∧(kid i).In w u):=hat
  have IH:Hid (∀ i,joD (kid i)):=ih
  clear hin h1 hat ih
  unfold maxLen at hlen
  subst e1
  go_enter Tryz.func74,Tryz.ntmps74
  go_wp2_with fail
  go_loopw [3,4] (fun x i wr=>∃ k c:Nat,i=.int .i64 k∧x=.int .i64 c∧k≤len∧c=jfG (fun i=>(kid i).deep) k∧wr.cell? ⟨w.heap.size,4,none⟩=some (.slice p len cap)∧Below w.heap.size w wr) (fun _ i _=>len-(intOf i).toNat)
  case atStart=>exact ⟨0,0,rfl,rfl,nzl _,rfl,by simp,newb w _⟩
  case round =>
   obtain ⟨k,c,rfl,rfl,hk,hcc,hc1,hbel⟩:=hrel
   have HBL:Hid (Below w.heap.size w wr):=hbel
   have HS:Hid (c=jfG (fun i=>(kid i).deep) k):=hcc
   clear hbel hcc
   by_cases hlt:(k:Int)<len
   ·have hlt':k<len:=by omega
    obtain ⟨b,o,u,hp,hd,hin⟩:=HC.out k hlt'
    subst hp
    obtain ⟨c0,c1,c2,c3,c4⟩:=hd.below HBL.out
    have HI:Hid ((kid k).In wr u):=hin.below HBL.out
    have hck:(kid k).count≤1099511627776:=by
     have h1:=jbU (fun i=>(kid i).count) k len hlt'
     have h3:=HCE.out
     omega
    clear hd hin
    go_wp2_with fail
    refine (IH.out k wr u HI.out hck).mono ?_
    rintro e w1 ⟨rfl,hb1⟩
    have HB1:Hid (Below w.heap.size w w1):=HBL.out.trans (hb1.mono HBL.out.size)
    have HX:Hid (w1.cell? ⟨w.heap.size,4,none⟩=some (.slice (some ⟨b,o,none⟩) len cap)):=jaG hb1 _ _ hc1
    clear hb1 c0 c1 c2 c3 c4
    go_wp2_with fail
    refine (jor c (kid k).deep _).mono ?_
    rintro e w2 ⟨rfl,hw2⟩
    subst hw2
    go_wp2_with fail
    go_roundw
    case rel=>exact ⟨k+1,max c (kid k).deep,by go_num,rfl,by omega,by rw [HS.out];rfl,HX.out,HB1.out⟩
    case measure=>simp [intOf];omega
   ·have hke:k=len:=by omega
    subst hke
    have HE:Hid (c+1=E):=by
     have h1:=HS.out
     have h2:=HDE.out
     show _=_
     omega
    have hcb:c≤1099511627776:=by have:=HE.out;omega
    go_wp2_with fail
    go_ret
    exact ⟨by rw [←HE.out];rfl,HBL.out⟩
def wokB (n:Int):Bool:=decide (-1073741824≤n∧n≤1073741823)
theorem jjW {n:Int} (h0:-1073741824≤n) (h1:n≤1073741823):wokB n=true:=by simp [wokB,h0,h1]
theorem jnq {n:Int} (h:¬ -1073741824≤n):wokB n=false:=by unfold wokB;rw [decide_eq_false_iff_not];omega
theorem jnp {n:Int} (h:¬ n≤1073741823):wokB n=false:=by unfold wokB;rw [decide_eq_false_iff_not];omega
theorem jaE {a b:Bool} (h:a=b):Ending.returned (.bool a)=.returned (.bool b):=by rw [h]
theorem jjb (n:Int) (w:World):Calls Tryz.prog 93 #[.int .i64 n] w fun e w'=>e=.returned (.bool (wokB n))∧w'=w:=by
 by_cases c1:-1073741824≤n
 ·by_cases c2:n≤1073741823
  ·have H:Hid (wokB n=true):=jjW c1 c2
   go_enter Tryz.func93,Tryz.ntmps93
   go_wp2
   go_ret
   exact ⟨jaE (by rw [H.out]),rfl⟩
  ·have H:Hid (wokB n=false):=jnp c2
   go_enter Tryz.func93,Tryz.ntmps93
   go_wp2
   go_ret
   exact ⟨jaE (by rw [H.out]),rfl⟩
 ·have H:Hid (wokB n=false):=jnq c1
  go_enter Tryz.func93,Tryz.ntmps93
  go_wp2
  go_ret
  exact ⟨jaE (by rw [H.out]),rfl⟩
theorem jiB (n:Int) (w:World):Calls Tryz.prog 51 #[.int .i64 n] w fun e w'=>e=.returned (.bool (wokB n))∧w'=w:=by
 by_cases c1:-1073741824≤n
 ·by_cases c2:n≤1073741823
  ·have H:Hid (wokB n=true):=jjW c1 c2
   go_enter Tryz.func51,Tryz.ntmps51
   go_wp2
   go_ret
   exact ⟨jaE (by rw [H.out]),rfl⟩
  ·have H:Hid (wokB n=false):=jnp c2
   go_enter Tryz.func51,Tryz.ntmps51
   go_wp2
   go_ret
   exact ⟨jaE (by rw [H.out]),rfl⟩
 ·have H:Hid (wokB n=false):=jnq c1
  go_enter Tryz.func51,Tryz.ntmps51
  go_wp2
  go_ret
  exact ⟨jaE (by rw [H.out]),rfl⟩
end Go.Proofs.YtjmlfacbcfbhdaaGreatDoor
