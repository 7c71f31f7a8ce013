/- spec.l5Sets and spec.StxOk. Condition: at most 2^20 of it. -/
import Derived.Test.YtjmlfacbcfbhdaaGreatDoorYA
import Derived.Test.YtjmlfacbcfbhdaaGreatDoorY17
import Derived.Test.YtjmlfacbcfbhdaaGreatDoorY10
import Derived.Test.YtjmlfacbcfbhdaaGreatDoorY0
import Derived.Test.YtjmlfacbcfbhdaaGreatDoorY16
import Derived.Test.YtjmlfacbcfbhdaaGreatDoorY1
set_option maxRecDepth 100000
set_option maxHeartbeats 8000000
namespace Go.Proofs.YtjmlfacbcfbhdaaGreatDoor
open Go.ChangeShapes Go.WideShapes Go.ChangeAt Go.RowKit
def jjZ (t:X):Prop:=∀ (w:World) (sv v:Value),t.At 0 w sv v→t.Nice→Calls Tryz.prog 44 #[.agg #[.int .i64 t.op,.int .i64 t.at_,.int .i64 t.n,.string t.s,sv,v]] w fun e w' =>
 ∃ u S,e=.returned (.agg #[.int .i64 t.op,.int .i64 t.at_,.int .i64 t.n,.string t.s,u])∧Below w.heap.size w w'∧DOwn w' (datX t) u S∧S.Nodup∧∀ x∈S,w.heap.size≤x
theorem jhg (vs:Array Value) (w:World):(callFunc 44 vs).run Tryz.prog w=.ok (.enter 44 vs) w:=by kernel_rfl
theorem jlR (d:X) (v:Value):jaW (datX d,v)=[.int .i64 d.op,.int .i64 d.at_,.int .i64 d.n,.string d.s,v]:=by cases d <;> rfl
theorem jh2 (t:X):jjZ t:=by
 induction t with
 | no=>intro w sv v h;exact h.elim
 | mk op a n s set len kid ih =>
  intro w sv v hin hwt
  obtain ⟨i0,hi0,hz0,hz1,hz2⟩:=info_parts jnG
  have hsl:XsAt 0 w len kid v:=hin.xs
  have HPL:Hid (s.size≤maxLen∧-9223372036854775808≤n∧n≤9223372036854775807):=⟨hin.size,hin.num⟩
  obtain ⟨p,cap,rfl,-,hat⟩:=hsl.at
  obtain ⟨ps,cps,hsv⟩:=hin.sets.shape
  simp only [X.set] at hsv
  subst hsv
  have hwe:=hwt.1
  have hlen:len≤1073741824:=hwt.2.1
  have IH:Hid (∀ i,i<len→∀ (w:World) (sv v:Value),(kid i).At 0 w sv v→Calls Tryz.prog 44 #[.agg #[.int .i64 (kid i).op,.int .i64 (kid i).at_,.int .i64 (kid i).n,.string (kid i).s,sv,v]] w fun e w' =>
   ∃ u S,e=.returned (.agg #[.int .i64 (kid i).op,.int .i64 (kid i).at_,.int .i64 (kid i).n,.string (kid i).s,u])∧Below w.heap.size w w'∧DOwn w' (datX (kid i)) u S∧S.Nodup∧∀ x∈S,w.heap.size≤x):=fun i hi w sv v h=>ih i w sv v h (hwt.2.2 i hi)
  have HAT:Hid (∀ i,i<len→∃ b o su u,p=some ⟨b,o,none⟩∧Head6 w b (o+i*6) (kid i) su u∧(kid i).At 0 w su u):=hat
  have HY:Hid (datX (X.mk op a n s set len kid)=.mk op a n s len (fun i=>datX (kid i))):=rfl
  have HS0:=jlS w (.cells #[.int .i64 op,.int .i64 a,.int .i64 n,.string s,.slice ps set.length cps,.slice p len cap] 27) op a n s (fun i=>datX (kid i))
  obtain ⟨C,hC⟩:∃ C,C=w.heap.size:=⟨_,rfl⟩
  obtain ⟨R,hR⟩:∃ R,R=w.heap.size+1:=⟨_,rfl⟩
  obtain ⟨O,hO⟩:∃ O,O=w.heap.size+1+1:=⟨_,rfl⟩
  have HH0:Hid (DLoop w (((w.alloc (.cells #[.int .i64 op,.int .i64 a,.int .i64 n,.string s,.slice ps set.length cps,.slice p len cap] 27)).alloc (.cells #[.int .i64 0,.int .i64 0,.int .i64 0,.string ⟨#[]⟩,.slice none 0 0] 72)).alloc (.cells #[.int .i64 op,.int .i64 a,.int .i64 n,.string s,.slice none 0 0] 72)) (w.heap.size+3) C R O (.cells #[.int .i64 op,.int .i64 a,.int .i64 n,.string s,.slice ps set.length cps,.slice p len cap] 27) op a n s (fun i=>datX (kid i)) 0 (.slice none 0 0) [] []):=by
   show DLoop _ _ _ _ _ _ _ _ _ _ _ _ _ _ _ _
   rw [hO,hR,hC];exact HS0
  have hCO:C≠O:=by omega
  have hRO:R≠O:=by omega
  clear hin hsl ih hat hwe hwt HS0
  simp only [X.op,X.at_,X.n,X.s]
  rw [HY.out]
  go_enter Tryz.func44,Tryz.ntmps44
  go_wp2_with fail
  rw [←hO,←hR,←hC]
  clear hC hR hO
  go_loopw [4] (fun v4 wr=>∃ (k:Nat) (lv:Value) (la:List (D×Value)) (SS:List (List Nat)),v4=.int .i64 k∧k≤len∧DLoop w wr (w.heap.size+3) C R O (.cells #[.int .i64 op,.int .i64 a,.int .i64 n,.string s,.slice ps set.length cps,.slice p len cap] 27) op a n s (fun i=>datX (kid i)) k lv la SS) (fun v4 _=>len-(intOf v4).toNat)
  case atStart=>exact ⟨0,_,_,_,rfl,nzl _,HH0.out⟩
  case round =>
   obtain ⟨k,lv,la,SS,rfl,hk,hL⟩:=hrel
   have HL:Hid (DLoop w wr (w.heap.size+3) C R O (.cells #[.int .i64 op,.int .i64 a,.int .i64 n,.string s,.slice ps set.length cps,.slice p len cap] 27) op a n s (fun i=>datX (kid i)) k lv la SS):=hL
   have hA:Six wr C op a n s (.slice ps set.length cps) (.slice p len cap) 27:=hL.arg
   have a4:=hA.cells.2.2.2.2.2
   obtain ⟨o0,o1,o2,o3,o4⟩:=hL.out.cells
   clear hL HH0
   by_cases hkl:(k:Int)<len
   ·obtain ⟨b,o,ux,u,hp,hd,hinu⟩:=HAT.out k (by omega)
    subst hp
    obtain ⟨c0,c1,c2,c3,c4,c5⟩:=hd.below HL.out.bel.toBelow
    have HIN:Hid ((kid k).At 0 wr.drew ux u):=X.At.below (brf _ wr).drew (X.At.below HL.out.bel.toBelow hinu)
    have HKL:Hid (k<len):=by show k<len;omega
    have HOWN:Hid (wr.ownsRow 0 72 5 lv k (jaF la)):=HL.out.rows.own
    have hOl:O<wr.heap.size:=HL.out.out.lt
    have hCl:C<wr.heap.size:=hA.lt
    have hbl:b<wr.heap.size:=wbl wr _ c0
    clear hd hinu hA
    have hki0:(0:Int)≤(k:Int):=by omega
    have HCF:Hid (∀ (vs:Array Value) (w:World),(callFunc 44 vs).run Tryz.prog w=.ok (.enter 44 vs) w):=fun vs w=>jhg vs w
    go_wp2_with fail
    go_region_law
     (first
      | (refine jcx rfl 44 (.tmp 27) 27 rfl HCF.out (.agg #[.int .i64 (kid k).op,.int .i64 (kid k).at_,.int .i64 (kid k).n,.string (kid k).s,ux,u]) rfl _ (IH.out k HKL.out wr.drew ux u HIN.out) ?_;rintro e w1 ⟨v',T,rfl,hb1,hd1,hn1,hT1⟩;refine ⟨_,rfl,?_⟩;have HC1:Hid (Below wr.heap.size wr w1∧DOwn w1 (datX (kid k)) v' T∧T.Nodup∧∀ x∈T,wr.heap.size≤x):=⟨⟨hb1.os,hb1.tape,hb1.output,hb1.size,hb1.block⟩,hd1,hn1,hT1⟩;obtain ⟨pv,cv,hv'⟩:=hd1.sown.sl.shape;subst hv';have z4:w1.cell? ⟨O,4,none⟩=some lv:=(HC1.out.1.cell (by exact hOl)).trans o4;have z5:∀ ob,(w1.alloc ob).cell? ⟨O,4,none⟩=some lv:=fun ob=>((newx w1 ob).cell (by exact nll hOl HC1.out.1.size)).trans z4;have y4:w1.cell? ⟨C,5,none⟩=some (.slice (some ⟨b,o,none⟩) len cap):=(HC1.out.1.cell (by exact hCl)).trans a4;have HO1:Hid (w1.ownsRow 0 72 5 lv k (jaF la)):=jaY HOWN.out HC1.out.1;clear hb1 hd1 hn1 hT1)
      | (refine step_append_lies _ (by rfl) _ _ _ (by rfl) 0 72 i0 _ 5 64 Tryz.underlying70 hi0 hz0 hz1 hz2 rfl (by omega) lv k (jaF la) (by rfl) (HO1.out.alloc _) ⟨w1.heap.size,0,none⟩ 1 1 [.int .i64 (kid k).op,.int .i64 (kid k).at_,.int .i64 (kid k).n,.string (kid k).s,.slice pv (datX (kid k)).len cv] (by rfl) (by rfl) (World.news_of_block (cs:=#[.int .i64 (kid k).op,.int .i64 (kid k).at_,.int .i64 (kid k).n,.string (kid k).s,.slice pv (datX (kid k)).len cv]) (t:=72) (fr:=(0,0)) (han w1 _)) (by simp [Value.oneCell']) (by omega) (by unfold maxLen;omega) (by omega) (Nat.zero_le _) (w1.heap.size+1) (by simp) ?_;intro gg cap3 w3 hown3 hgrow hat hlt3;obtain ⟨hO3,hnx⟩:=HL.out.next (Fr.below HC1.out.1 []) HC1.out.2.1 HC1.out.2.2.1 HC1.out.2.2.2 (by rw [jlR];exact hown3) hgrow hat;have HNX:Hid (DLoop w (w3.setCell ⟨O,4,none⟩ (.slice (some ⟨gg,0,none⟩) (k+1) cap3)) (w.heap.size+3) C R O (.cells #[.int .i64 op,.int .i64 a,.int .i64 n,.string s,.slice ps set.length cps,.slice (some ⟨b,o,none⟩) len cap] 27) op a n s (fun i=>datX (kid i)) (k+1) (.slice (some ⟨gg,0,none⟩) (k+1) cap3) (la++[(datX (kid k),.slice pv (datX (kid k)).len cv)]) (SS++[T])):=hnx;have x4:w3.cell? ⟨O,4,none⟩=some lv:=(World.cell?_of_block (a:=⟨O,4,none⟩) hO3).trans o4;have xf:w3.frozen? ⟨O,4,none⟩=false:=(World.frozen?_of_block (a:=⟨O,4,none⟩) hO3).trans (HL.out.out.fr 4);clear hO3 hnx hown3 hgrow hat hlt3))
    all_goals
     go_wp2_with fail
     go_roundw
     case rel=>exact ⟨k+1,_,_,_,by go_num,by omega,HNX.out⟩
     case measure=>simp [intOf];omega
   ·obtain rfl:k=len:=by omega
    obtain ⟨r0,r1,r2,r3,r4⟩:=HL.out.res.cells
    have rf:=HL.out.res.fr
    obtain ⟨hfr,S,hX,hSn,hSg⟩:=HL.out.done HPL.out
    obtain ⟨pv,cv,hlv⟩:=hX.sown.sl.shape
    simp only [D.len] at hlv
    subst hlv
    have HS:Hid (Fr [] w (put5 wr R op a n s (.slice pv k cv))∧DOwn (put5 wr R op a n s (.slice pv k cv)) (.mk op a n s k (fun i=>datX (kid i))) (.slice pv k cv) S∧S.Nodup∧∀ x∈S,w.heap.size≤x):=⟨hfr,hX,hSn,hSg⟩
    clear hfr hX hSn hSg HL HAT IH
    go_wp2_with fail
    refine bpr (v:=.agg #[.int .i64 op,.int .i64 a,.int .i64 n,.string s,.slice pv k cv]) (by rw [jae (p:=2) (ty:=72) (by kernel_rfl)];simp [go_sem,r0,r1,r2,r3,r4]) rfl ⟨_,rfl,HS.out.1.toBelow,S,HS.out.2.1,HS.out.2.2.1,HS.out.2.2.2⟩
theorem jmE {W:World} {g:Nat} {t:D} {v:Value} (h:Five W g t.op t.at_ t.n t.s v 72) (hin:t.In W v):Sl W 1 (fun _=>t) (.slice (some ⟨g,0,none⟩) 1 1):=by
 refine .inr ⟨g,0,1,fun _=>v,rfl,nzl _,nlr _,by unfold maxLen;omega,fun i hi=>⟨?_,hin⟩⟩
 obtain rfl:i=0:=by omega
 obtain ⟨h0,h1,h2,h3,h4⟩:=h.cells
 exact ⟨h0,h1,h2,h3,h4⟩
def joT (t:X):Prop:=∀ (w:World) (sv v:Value),t.At 0 w sv v→t.Nice→Calls Tryz.prog 42 #[.agg #[.int .i64 t.op,.int .i64 t.at_,.int .i64 t.n,.string t.s,sv,v]] w fun e w'=>e=.returned (.bool t.setsB)∧Below w.heap.size w w'
theorem jlf (t:X):joT t:=by
 induction t with
 | no=>intro w sv v h;exact h.elim
 | mk op a n s set len kid ih =>
  intro w sv v hin hwt
  have hsl:XsAt 0 w len kid v:=hin.xs
  have hss:SetB 0 w sv set:=hin.sets
  obtain ⟨p,cap,rfl,-,hat⟩:=hsl.at
  obtain ⟨ps,cps,hsv⟩:=hss.shape
  subst hsv
  have hwe:=hwt.1
  have hlen:len≤1073741824:=hwt.2.1
  have hsll:set.length≤1048576:=hwt.1.2
  have IH:Hid (∀ i,i<len→∀ (w:World) (sv v:Value),(kid i).At 0 w sv v→Calls Tryz.prog 42 #[.agg #[.int .i64 (kid i).op,.int .i64 (kid i).at_,.int .i64 (kid i).n,.string (kid i).s,sv,v]] w fun e w'=>e=.returned (.bool (kid i).setsB)∧Below w.heap.size w w'):=fun i hi w sv v h=>ih i w sv v h (hwt.2.2 i hi)
  have HAT:Hid (∀ i,i<len→∃ b o su u,p=some ⟨b,o,none⟩∧Head6 w b (o+i*6) (kid i) su u∧(kid i).At 0 w su u):=hat
  have HSO:Hid (∀ w1,Below w.heap.size w w1→Calls Tryz.prog 72 #[.slice ps set.length cps] w1 fun e w'=>e=.returned (.bool (setB set))∧Below w1.heap.size w1 w'):=fun w1 hb=>jle set _ w1 (hss.rd.below hb) (by omega)
  obtain ⟨RR,hRR⟩:∃ RR,RR=(X.mk op a n s set len kid).setsB:=⟨_,rfl⟩
  have HRR:Hid (RR=(allX (fun i=>(kid i).setsB) len&&((decide (op=2)&&setB set)||decide (set.length=0)))):=hRR
  rw [←hRR]
  simp only [X.op,X.at_,X.n,X.s]
  have HA0:Hid (Six (w.alloc (.cells #[.int .i64 op,.int .i64 a,.int .i64 n,.string s,.slice ps set.length cps,.slice p len cap] 27)) w.heap.size op a n s (.slice ps set.length cps) (.slice p len cap) 27∧Below w.heap.size w (w.alloc (.cells #[.int .i64 op,.int .i64 a,.int .i64 n,.string s,.slice ps set.length cps,.slice p len cap] 27))):=⟨han w _,newx w _⟩
  clear hin hsl ih hat hwe hwt hss hRR
  go_enter Tryz.func42,Tryz.ntmps42
  go_wp2_with fail
  go_loopw [3] (fun v3 wr=>∃ k:Nat,v3=.int .i64 k∧k≤len∧allX (fun i=>(kid i).setsB) k=true∧Six wr w.heap.size op a n s (.slice ps set.length cps) (.slice p len cap) 27∧Below w.heap.size w wr) (fun v3 _=>len-(intOf v3).toNat)
  case atStart=>exact ⟨0,rfl,nzl _,rfl,HA0.out.1,HA0.out.2⟩
  case round =>
   obtain ⟨k,rfl,hk,hall,h6,hbel⟩:=hrel
   have HALL:Hid (allX (fun i=>(kid i).setsB) k=true):=hall
   have H6:Hid (Six wr w.heap.size op a n s (.slice ps set.length cps) (.slice p len cap) 27∧Below w.heap.size w wr):=⟨h6,hbel⟩
   obtain ⟨q0,q1,q2,q3,q4,q5⟩:=h6.cells
   clear hall h6 hbel HA0
   by_cases hkl:(k:Int)<len
   ·obtain ⟨b,o,ux,u,hp,hd,hinu⟩:=HAT.out k (by omega)
    subst hp
    obtain ⟨c0,c1,c2,c3,c4,c5⟩:=hd.below H6.out.2
    have HIN:Hid ((kid k).At 0 wr ux u):=X.At.below H6.out.2 hinu
    have hkl':k<len:=by omega
    clear hd hinu
    go_wp2_with fail
    refine (IH.out k hkl' wr ux u HIN.out).mono ?_
    rintro e w1 ⟨rfl,hb1⟩
    have H7:Hid (Six w1 w.heap.size op a n s (.slice ps set.length cps) (.slice (some ⟨b,o,none⟩) len cap) 27∧Below w.heap.size w w1):=⟨H6.out.1.below hb1,H6.out.2.trans (hb1.mono H6.out.2.size)⟩
    clear hb1 q0 q1 q2 q3 q4 q5 c0 c1 c2 c3 c4 c5
    cases hsb:(kid k).setsB with
    | true =>
     have HN:Hid (allX (fun i=>(kid i).setsB) (k+1)=true):=by
      show (allX (fun i=>(kid i).setsB) k&&(kid k).setsB)=true
      rw [HALL.out,hsb];rfl
     clear hsb
     go_wp2_with fail
     go_roundw
     case rel=>exact ⟨k+1,by go_num,by omega,HN.out,H7.out.1,H7.out.2⟩
     case measure=>simp [intOf];omega
    | false =>
     have HN:Hid (RR=false):=by
      show RR=false
      rw [HRR.out,jgg hkl' hsb];rfl
     clear hsb
     go_wp2_with fail
     go_ret
     exact ⟨by rw [HN.out];rfl,H7.out.2⟩
   ·obtain rfl:k=len:=by omega
    have HR2:Hid (RR=((decide (op=2)&&setB set)||decide (set.length=0))):=by
     show RR=_
     rw [HRR.out,HALL.out,Bool.true_and]
    by_cases h2:op=2
    ·subst h2
     go_wp2_with fail
     refine (HSO.out _ H6.out.2).mono ?_
     rintro e w1 ⟨rfl,hb1⟩
     have H7:Hid (Below w.heap.size w w1):=H6.out.2.trans (hb1.mono H6.out.2.size)
     have h7:=H6.out.1.below hb1
     clear hb1 q0 q1 q2 q3 q4 q5
     obtain ⟨q0,q1,q2,q3,q4,q5⟩:=h7.cells
     clear h7
     cases hst:setB set with
     | true =>
      have HN:Hid (RR=true):=by show RR=true;rw [HR2.out,hst];rfl
      go_wp2_with fail
      go_ret
      exact ⟨by rw [HN.out];rfl,H7.out⟩
     | false =>
      by_cases hz:((set.length:Int)==0)=true
      ·have HN:Hid (RR=true):=by
        have:set.length=0:=by simpa using hz
        show RR=true;rw [HR2.out,hst,dqt this];rfl
       go_wp2_with fail
       go_ret
       exact ⟨by rw [HN.out];rfl,H7.out⟩
      ·have hz':((set.length:Int)==0)=false:=by simpa using hz
       have HN:Hid (RR=false):=by
        have:¬ set.length=0:=by intro h;rw [h] at hz';simp at hz'
        show RR=false;rw [HR2.out,hst,dqf this];rfl
       go_wp2_with fail
       go_ret
       exact ⟨by rw [HN.out];rfl,H7.out⟩
    ·have d2:(op==2)=false:=by simpa using h2
     by_cases hz:((set.length:Int)==0)=true
     ·have HN:Hid (RR=true):=by
       have:set.length=0:=by simpa using hz
       show RR=true;rw [HR2.out,dqt this,Bool.or_true]
      clear h2
      go_wp2_with fail
      go_ret
      exact ⟨by rw [HN.out];rfl,H6.out.2⟩
     ·have hz':((set.length:Int)==0)=false:=by simpa using hz
      have HN:Hid (RR=false):=by
       have:¬ set.length=0:=by intro h;rw [h] at hz';simp at hz'
       show RR=false;rw [HR2.out,dqf h2,dqf this];rfl
      clear h2
      go_wp2_with fail
      go_ret
      exact ⟨by rw [HN.out];rfl,H6.out.2⟩
theorem jeO (t:X) (w:World) (sv v:Value) (hin:t.At 0 w sv v) (hwt:t.Nice) (hct:t.count≤1099511627776) :
  Calls Tryz.prog 20 #[.agg #[.int .i64 t.op,.int .i64 t.at_,.int .i64 t.n,.string t.s,sv,v]] w fun e w'=>e=.returned (.bool (jax t))∧Below w.heap.size w w':=by
 obtain ⟨p,cap,hv⟩:=hin.xs.shape
 obtain ⟨ps,cps,hsv⟩:=hin.sets.shape
 subst hv hsv
 have HIN:Hid (∀ w1,Below w.heap.size w w1→t.At 0 w1 (.slice ps t.set.length cps) (.slice p t.len cap)):=fun w1 hb=>X.At.below hb hin
 have HWT:Hid t.Nice:=hwt
 have HB0:Hid (∀ o,Below w.heap.size w (w.alloc o)):=fun o=>newx w o
 have hcn:(datX t).count≤1099511627776:=by rw [jgj];omega
 have HCN:Hid (jao (fun i=>((fun _=>datX t) i).count) 1≤1099511627776):=by show jao (fun _=>(datX t).count) 1≤_;simp only [jao];omega
 obtain ⟨RR,hRR⟩:∃ RR,RR=jax t:=⟨_,rfl⟩
 have HRR:Hid (RR=(t.setsB&&jef 1 (fun _=>datX t))):=hRR
 rw [←hRR]
 clear hin hwt hRR hcn hct
 go_enter Tryz.func20,Tryz.ntmps20
 go_wp2_with fail
 refine (jlf t _ _ _ (HIN.out _ (HB0.out _)) HWT.out).mono ?_
 rintro e w1 ⟨rfl,hb1⟩
 have h6:Six w1 w.heap.size t.op t.at_ t.n t.s (.slice ps t.set.length cps) (.slice p t.len cap) 27:=(hb1.block _ (by simp)).trans (han w _)
 have HB1:Hid (Below w.heap.size w w1):=(HB0.out _).trans (hb1.mono (by simp))
 obtain ⟨q0,q1,q2,q3,q4,q5⟩:=h6.cells
 clear hb1 h6
 cases hsb:t.setsB with
 | false =>
  have HN:Hid (RR=false):=by show RR=false;rw [HRR.out,hsb];rfl
  go_wp2_with fail
  go_ret
  exact ⟨by rw [HN.out];rfl,HB1.out⟩
 | true =>
  have HN:Hid (RR=jef 1 (fun _=>datX t)):=by show RR=_;rw [HRR.out,hsb];rfl
  go_wp2_with fail
  refine (jh2 t w1 _ _ (HIN.out _ HB1.out) HWT.out).mono ?_
  rintro e w2 ⟨u,S,rfl,hb2,ho2,-,-⟩
  obtain ⟨pu,cu,hu⟩:=ho2.sown.sl.shape
  subst hu
  have hf:=jee t
  have hnb:=newx w2 (.cells #[.int .i64 t.op,.int .i64 t.at_,.int .i64 t.n,.string t.s,.slice pu (datX t).len cu] 72)
  have HB2:Hid (Below w.heap.size w (w2.alloc (.cells #[.int .i64 t.op,.int .i64 t.at_,.int .i64 t.n,.string t.s,.slice pu (datX t).len cu] 72))):=(HB1.out.trans (hb2.mono HB1.out.size)).trans (hnb.mono (by have:=HB1.out.size;have:=hb2.size;omega))
  have hrow:Five (w2.alloc (.cells #[.int .i64 t.op,.int .i64 t.at_,.int .i64 t.n,.string t.s,.slice pu (datX t).len cu] 72)) w2.heap.size (datX t).op (datX t).at_ (datX t).n (datX t).s (.slice pu (datX t).len cu) 72:=by
   rw [hf.1,hf.2.1,hf.2.2.1,hf.2.2.2.1];exact han w2 _
  have HSL:Hid (Sl (w2.alloc (.cells #[.int .i64 t.op,.int .i64 t.at_,.int .i64 t.n,.string t.s,.slice pu (datX t).len cu] 72)) 1 (fun _=>datX t) (.slice (some ⟨w2.heap.size,0,none⟩) 1 1)):=jmE hrow ((ho2.in' _).below hnb)
  clear hb2 ho2 hnb hrow hf q0 q1 q2 q3 q4 q5
  go_wp2_with fail
  refine (jh3 1 (fun _=>datX t) _ _ HSL.out HCN.out).mono ?_
  rintro e w3 ⟨rfl,hb3⟩
  have HB3:Hid (Below w.heap.size w w3):=HB2.out.trans (hb3.mono HB2.out.size)
  clear hb3
  rw [←HN.out]
  go_wp2_with fail
  go_ret
  exact ⟨rfl,HB3.out⟩
theorem jdI (t:X) (w:World) (sv v:Value) (hin:t.At 0 w sv v) (hwt:t.weight≤1048576) :
  Calls Tryz.prog 20 #[.agg #[.int .i64 t.op,.int .i64 t.at_,.int .i64 t.n,.string t.s,sv,v]] w fun e w'=>e=.returned (.bool (jax t))∧Below w.heap.size w w' :=
 jeO t w sv v hin (t.nice_weight hwt) (by have:=t.count_weight;omega)
end Go.Proofs.YtjmlfacbcfbhdaaGreatDoor
