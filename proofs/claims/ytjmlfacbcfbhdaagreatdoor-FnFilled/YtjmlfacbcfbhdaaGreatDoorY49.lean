/- A slice of bytes that came in can be read as a draw's code. Condition: it has at most 2^20 bytes. -/
import Derived.Test.YtjmlfacbcfbhdaaGreatDoorYA
import Derived.Test.YtjmlfacbcfbhdaaGreatDoorY42
import Derived.Test.YtjmlfacbcfbhdaaGreatDoorY47
import Derived.Test.YtjmlfacbcfbhdaaGreatDoorY48
import Derived.Test.YtjmlfacbcfbhdaaGreatDoorY1
import Derived.OpenShut
set_option maxRecDepth 100000
set_option maxHeartbeats 8000000
namespace Go.Proofs.YtjmlfacbcfbhdaaGreatDoor.fnFilled
open Go.ChangeShapes Go.WideShapes Go.ChangeAt Go.RowKit
theorem jfN {o:Option X} {w':World} {e:Ending} (h:jeb o w' e):∃ (x:X) (p q:Option Addr) (n1 n2 n3 n4:Nat) (ok:Bool),e=.returned (.tuple #[.agg #[.int .i64 x.op,.int .i64 x.at_,.int .i64 x.n,.string x.s,.slice p n1 n2,.slice q n3 n4],.bool ok])∧x.At 0 w' (.slice p n1 n2) (.slice q n3 n4)∧x.Nice∧x.count≤1500 ∧
  ((ok=true∧o=some x∧jax x=true)∨(ok=false∧o=none∧x=zeroT)):=by
 rcases h with ⟨x,p,q,n1,n2,n3,n4,h1,h2,h3,h4,rfl⟩|⟨h1,rfl⟩
 ·exact ⟨x,p,q,n1,n2,n3,n4,true,rfl,h4,h2,jb2 h3,.inl ⟨rfl,h1,h3⟩⟩
 ·exact ⟨zeroT,none,none,0,0,0,0,false,rfl,(jif w').at0,⟨⟨nzl _,nzl _⟩,nzl _,fun i hi=>absurd hi (Nat.not_lt_zero _)⟩,by decide,.inr ⟨rfl,h1,rfl⟩⟩
theorem ji3 {o:Option X} {x y:X} {ok ok2:Bool} (h1:(ok=true∧o=some x∧jax x=true)∨(ok=false∧o=none∧x=zeroT)) (h2:(ok2=true∧o=some y∧jax y=true)∨(ok2=false∧o=none∧y=zeroT)):ok=ok2∧x=y:=by
 rcases h1 with ⟨a,b,_⟩|⟨a,b,c⟩ <;> rcases h2 with ⟨a',b',_⟩|⟨a',b',c'⟩
 ·rw [b] at b';injection b' with b';exact ⟨by rw [a,a'],b'⟩
 ·rw [b] at b';cases b'
 ·rw [b] at b';cases b'
 ·exact ⟨by rw [a,a'],by rw [c,c']⟩
theorem ji5 {t x:X} (h:ansF t []=some x):sameX x t=true:=by
 unfold ansF at h
 split at h
 ·rename_i hs
  obtain ⟨r,hr,h2⟩:=bind_some h
  have h3:jaI t []=some r:=by
   unfold jaX at hr
   split at hr
   ·cases hr
   ·exact hr
  obtain ⟨y,hy,hsame⟩:=jma t (jdJ hs) r h3
  rw [hy] at h2
  have h4:(if jax y=true then some y else none)=some x:=h2
  split at h4
  ·injection h4 with h4;rw [←h4];exact hsame
  ·cases h4
 ·cases h
theorem walk (a:Option Addr) (len cap:Nat) (w:World) (ad:Addr) (hl:len≤1048576) (hc:CodeOk a len w.heap.size w) (he:ErrAt w ad) :
  Calls Tryz.prog 3 #[.slice a len cap] w fun e w'=>e=.returned (.bool true)∧Below w.heap.size w w':=by
 have hb0:¬ (1048576:Int)<len:=by omega
 have HC:=jaC hc
 have HE:=jaC he
 clear hc he
 go_enter Tryz.func3,Tryz.ntmps3
 go_wp2_with (go_at_call 4;go_in)
 refine (jhx a len cap w HC.out).mono ?_
 rintro e w1 ⟨t,p,q,r,n1,n2,n3,n4,n5,n6,L,rfl,hD⟩
 have HD:=jaC hD
 obtain ⟨w2,hw2⟩:∃ w2,w2=w1.alloc (.cells #[.int .i64 t.op,.int .i64 t.at_,.int .i64 t.n,.string t.s,.slice p n1 n2,.slice q n3 n4] 27):=⟨_,rfl⟩
 obtain ⟨TB,hTB⟩:∃ TB,TB=w1.heap.size:=⟨_,rfl⟩
 have nb2:Below w1.heap.size w1 w2:=by rw [hw2];exact newx w1 _
 have hT2:SixO w2 TB t (.slice p n1 n2) (.slice q n3 n4):=by rw [hw2,hTB];exact han w1 _
 have HW2:Hid (w2=w1.alloc (.cells #[.int .i64 t.op,.int .i64 t.at_,.int .i64 t.n,.string t.s,.slice p n1 n2,.slice q n3 n4] 27)∧TB=w1.heap.size):=⟨hw2,hTB⟩
 have HL:Hid (∀ wx,Below w2.heap.size w2 wx→Below w.heap.size w wx∧SixO wx TB t (.slice p n1 n2) (.slice q n3 n4)∧t.At 0 wx (.slice p n1 n2) (.slice q n3 n4)∧GsAt wx L.length (fun i=>L.getD i .no) (.slice r n5 n6)∧ErrAt wx ad):=fun wx h=>by
  have b1:Below w1.heap.size w1 wx:=nb2.trans (h.mono nb2.size)
  have b0:Below w.heap.size w wx:=hD.bel.trans (b1.mono hD.bel.size)
  exact ⟨b0,(h.block _ (aes.1 hT2).1).trans hT2,X.At.below b1 hD.at_,hD.gs.below b1,HE.out.below b0⟩
 have HN:Hid (t.Nice∧t.count≤2097152∧NiceL L∧(jan t=true→jag L t.s=none)):=⟨t.nice_weight hD.wt,by have:=t.count_weight;have:=hD.wt;omega,GW.niceL hD.ok,fun h=>jkl hD.plain (by
  unfold jan at h
  rw [Bool.and_eq_true] at h
  exact h.2)⟩
 obtain ⟨x0,x1,x2,x3,x4,x5⟩:=hT2.cells
 have hB2:=jaC (brf w2.heap.size w2)
 have HI:Hid (∀ wx,Below w2.heap.size w2 wx→∀ (L':List G) (r':Option Addr) (m1 m2:Nat),GsAt wx L'.length (fun i=>L'.getD i .no) (.slice r' m1 m2)→NiceL L'→Calls Tryz.prog 6 #[.agg #[.int .i64 t.op,.int .i64 t.at_,.int .i64 t.n,.string t.s,.slice p n1 n2,.slice q n3 n4],.slice r' m1 m2] wx fun e w'=>jeb (ansF t L') w' e∧Below wx.heap.size wx w'):=fun wx h L' r' m1 m2 hg hn =>
  jmh t L' wx _ _ _ (HL.out wx h).2.2.1 hg HN.out.1 HN.out.2.1 hn (HL.out wx h).2.2.2.2
 clear hD hw2 hTB nb2 hT2
 go_upto_region 4 with fail
 rw [←HW2.out.1,←HW2.out.2]
 go_wp2_with fail
 refine (HI.out w2 hB2.out L r n5 n6 (HL.out w2 hB2.out).2.2.2.1 HN.out.2.2.1).mono ?_
 rintro e w3 ⟨hret,hb3⟩
 obtain ⟨x,p1,q1,m1,m2,m3,m4,ok,rfl,hxa,hxn,hxc,hxo⟩:=jfN hret
 have H3:=jaC (And.intro hxa (And.intro hxn (And.intro hxc hxo)))
 obtain ⟨w4,hw4⟩:∃ w4,w4=w3.alloc (.cells #[.int .i64 x.op,.int .i64 x.at_,.int .i64 x.n,.string x.s,.slice p1 m1 m2,.slice q1 m3 m4] 27):=⟨_,rfl⟩
 obtain ⟨XB,hXB⟩:∃ XB,XB=w3.heap.size:=⟨_,rfl⟩
 have nb4:Below w3.heap.size w3 w4:=by rw [hw4];exact newx w3 _
 have hX4:SixO w4 XB x (.slice p1 m1 m2) (.slice q1 m3 m4):=by rw [hw4,hXB];exact han w3 _
 have H4:Hid (Below w2.heap.size w2 w4∧Below w3.heap.size w3 w4∧SixO w4 XB x (.slice p1 m1 m2) (.slice q1 m3 m4)):=⟨hb3.trans (nb4.mono hb3.size),nb4,hX4⟩
 have HW4:Hid (w4=w3.alloc (.cells #[.int .i64 x.op,.int .i64 x.at_,.int .i64 x.n,.string x.s,.slice p1 m1 m2,.slice q1 m3 m4] 27)∧XB=w3.heap.size):=⟨hw4,hXB⟩
 obtain ⟨y0,y1,y2,y3,y4,y5⟩:=(HL.out w4 H4.out.1).2.1.cells
 clear hret hb3 hxa hxn hxc hxo hw4 hXB nb4 hX4 x0 x1 x2 x3 x4 x5
 go_upto_region 5 with fail
 rw [←HW4.out.1,←HW4.out.2]
 go_wp2_with fail
 refine (jm5 t L w4 _ _ _ (HL.out w4 H4.out.1).2.2.1 (HL.out w4 H4.out.1).2.2.2.1 HD.out.wt HD.out.ok HD.out.few HN.out.2.2.2).mono ?_
 rintro e w5 ⟨hret,hb5⟩
 obtain ⟨x',p2,q2,k1,k2,k3,k4,ok',rfl,hya,hyn,hyc,hyo⟩:=jfN hret
 obtain ⟨eo,ex⟩:=ji3 H3.out.2.2.2 hyo
 subst eo
 subst ex
 obtain ⟨w6,hw6⟩:∃ w6,w6=w5.alloc (.cells #[.int .i64 x.op,.int .i64 x.at_,.int .i64 x.n,.string x.s,.slice p2 k1 k2,.slice q2 k3 k4] 27):=⟨_,rfl⟩
 obtain ⟨YB,hYB⟩:∃ YB,YB=w5.heap.size:=⟨_,rfl⟩
 have nb6:Below w5.heap.size w5 w6:=by rw [hw6];exact newx w5 _
 have hY6:SixO w6 YB x (.slice p2 k1 k2) (.slice q2 k3 k4):=by rw [hw6,hYB];exact han w5 _
 have b46:Below w4.heap.size w4 w6:=hb5.trans (nb6.mono hb5.size)
 have hX6:SixO w6 XB x (.slice p1 m1 m2) (.slice q1 m3 m4):=(b46.block _ (aes.1 H4.out.2.2).1).trans H4.out.2.2
 have b36:Below w3.heap.size w3 w6:=H4.out.2.1.trans (b46.mono H4.out.2.1.size)
 have H6:Hid (Below w2.heap.size w2 w6∧SixO w6 XB x (.slice p1 m1 m2) (.slice q1 m3 m4)∧SixO w6 YB x (.slice p2 k1 k2) (.slice q2 k3 k4)∧x.At 0 w6 (.slice p1 m1 m2) (.slice q1 m3 m4)∧x.At 0 w6 (.slice p2 k1 k2) (.slice q2 k3 k4)):=⟨H4.out.1.trans (b46.mono H4.out.1.size),hX6,hY6,X.At.below b36 H3.out.1,X.At.below nb6 hya⟩
 have HW6:Hid (w6=w5.alloc (.cells #[.int .i64 x.op,.int .i64 x.at_,.int .i64 x.n,.string x.s,.slice p2 k1 k2,.slice q2 k3 k4] 27)∧YB=w5.heap.size):=⟨hw6,hYB⟩
 have HSM:Hid (Calls Tryz.prog 8 #[.agg #[.int .i64 x.op,.int .i64 x.at_,.int .i64 x.n,.string x.s,.slice p1 m1 m2,.slice q1 m3 m4],.agg #[.int .i64 x.op,.int .i64 x.at_,.int .i64 x.n,.string x.s,.slice p2 k1 k2,.slice q2 k3 k4]] w6 fun e w'=>e=.returned (.bool true)∧Below w6.heap.size w6 w'):=by
  have h9:=jfw x x w6 _ _ _ _ H6.out.2.2.2.1 H6.out.2.2.2.2 (jcr x H3.out.2.1) (jcr x H3.out.2.1) (by have:=H3.out.2.2.1;omega)
  rw [jeA] at h9
  exact h9
 clear hret hb5 hya hyn hyc hyo hw6 hYB nb6 hY6 b46 hX6 b36 y0 y1 y2 y3 y4 y5
 go_upto_region 6 with fail
 rw [←HW6.out.1,←HW6.out.2]
 go_cut [38] from 30 to 38 (fun z wx=>z=.bool false∧Below w6.heap.size w6 wx)
 case first =>
  obtain ⟨a0,a1,a2,a3,a4,a5⟩:=H6.out.2.1.cells
  obtain ⟨b0,b1,b2,b3,b4,b5⟩:=H6.out.2.2.1.cells
  cases ok
  all_goals
   go_wp2_with (go_at_call 8;refine HSM.out.mono ?_;rintro e w7 ⟨rfl,hb7⟩)
   go_meet
   exact ⟨rfl,hb7⟩
 case rest =>
 obtain ⟨rfl,hb7⟩:=hcut
 obtain ⟨w7,rfl⟩:∃ w7,w7=wc:=⟨_,rfl⟩
 have H7:Hid (Below w2.heap.size w2 w7∧SixO w7 XB x (.slice p1 m1 m2) (.slice q1 m3 m4)∧x.At 0 w7 (.slice p1 m1 m2) (.slice q1 m3 m4)):=⟨H6.out.1.trans (hb7.mono H6.out.1.size),(hb7.block _ (aes.1 H6.out.2.1).1).trans H6.out.2.1,X.At.below hb7 H6.out.2.2.2.1⟩
 clear hb7
 go_upto_region 8 with fail
 go_cut [53] from 39 to 53 (fun z wx=>z=.bool false∧Below w2.heap.size w2 wx)
 case first =>
  obtain ⟨a0,a1,a2,a3,a4,a5⟩:=H7.out.2.1.cells
  rcases H3.out.2.2.2 with ⟨rfl,-,hxs⟩|⟨rfl,-,rfl⟩
  ·have HOK:Hid (Calls Tryz.prog 9 #[.agg #[.int .i64 x.op,.int .i64 x.at_,.int .i64 x.n,.string x.s,.slice p1 m1 m2,.slice q1 m3 m4]] w7 fun e w'=>e=.returned (.bool true)∧Below w7.heap.size w7 w'):=by
    have h9:=jcZ x w7 _ _ H7.out.2.2 H3.out.2.1
    rw [hxs] at h9
    exact h9
   clear hxs
   go_wp2_with (go_at_call 9;refine HOK.out.mono ?_;rintro e w8 ⟨rfl,hb8⟩)
   go_meet
   exact ⟨rfl,H7.out.1.trans (hb8.mono H7.out.1.size)⟩
  ·have e0:zeroT.op=0:=rfl
   rw [e0] at a0
   go_wp2_with fail
   go_meet
   exact ⟨rfl,H7.out.1⟩
 case rest =>
 obtain ⟨rfl,hb8⟩:=hcut
 have HB8:=jaC hb8
 obtain ⟨a0,a1,a2,a3,a4,a5⟩:=(HL.out _ hb8).2.1.cells
 clear hb8
 go_wp2_with fail
 refine (HI.out _ HB8.out [] none 0 0 ⟨none,0,rfl,fun _=>rfl,nlr _,nzl _,fun i hi=>absurd hi (Nat.not_lt_zero _)⟩ (fun nm g h=>by cases h)).mono ?_
 rintro e w9 ⟨hret,hb9⟩
 obtain ⟨z,p3,q3,j1,j2,j3,j4,fine,rfl,hza,hzn,hzc,hzo⟩:=jfN hret
 obtain ⟨w10,hw10⟩:∃ w10,w10=w9.alloc (.cells #[.int .i64 z.op,.int .i64 z.at_,.int .i64 z.n,.string z.s,.slice p3 j1 j2,.slice q3 j3 j4] 27):=⟨_,rfl⟩
 obtain ⟨ZB,hZB⟩:∃ ZB,ZB=w9.heap.size:=⟨_,rfl⟩
 have nb10:Below w9.heap.size w9 w10:=by rw [hw10];exact newx w9 _
 have hZ10:SixO w10 ZB z (.slice p3 j1 j2) (.slice q3 j3 j4):=by rw [hw10,hZB];exact han w9 _
 have b29:Below w2.heap.size w2 w9:=HB8.out.trans (hb9.mono HB8.out.size)
 have H10:Hid (Below w2.heap.size w2 w10∧z.At 0 w10 (.slice p3 j1 j2) (.slice q3 j3 j4)):=⟨b29.trans (nb10.mono b29.size),X.At.below nb10 hza⟩
 have HW10:Hid (w10=w9.alloc (.cells #[.int .i64 z.op,.int .i64 z.at_,.int .i64 z.n,.string z.s,.slice p3 j1 j2,.slice q3 j3 j4] 27)∧ZB=w9.heap.size):=⟨hw10,hZB⟩
 have HZ:=jaC (And.intro hzn (And.intro hzc hzo))
 obtain ⟨b0,b1,b2,b3,b4,b5⟩:=hZ10.cells
 obtain ⟨c0,c1,c2,c3,c4,c5⟩:=(HL.out _ H10.out.1).2.1.cells
 clear hret hb9 hza hzn hzc hzo hw10 hZB nb10 hZ10 b29 a0 a1 a2 a3 a4 a5
 go_upto_region 11 with fail
 rw [←HW10.out.1,←HW10.out.2]
 rcases HZ.out.2.2 with ⟨rfl,hzs,-⟩|⟨rfl,-,-⟩
 ·have HSZ:Hid (Calls Tryz.prog 8 #[.agg #[.int .i64 z.op,.int .i64 z.at_,.int .i64 z.n,.string z.s,.slice p3 j1 j2,.slice q3 j3 j4],.agg #[.int .i64 t.op,.int .i64 t.at_,.int .i64 t.n,.string t.s,.slice p n1 n2,.slice q n3 n4]] w10 fun e w'=>e=.returned (.bool true)∧Below w10.heap.size w10 w'):=by
   have h9:=jfw z t w10 _ _ _ _ H10.out.2 (HL.out _ H10.out.1).2.2.1 (jcr z HZ.out.1) (jcr t HN.out.1) (by have:=HZ.out.2.1;omega)
   rw [ji5 hzs] at h9
   exact h9
  clear hzs
  go_wp2_with (go_at_call 8;refine HSZ.out.mono ?_;rintro e w11 ⟨rfl,hb11⟩)
  go_ret
  exact ⟨rfl,(HL.out _ (H10.out.1.trans (hb11.mono H10.out.1.size))).1⟩
 ·go_wp2_with fail
  go_ret
  exact ⟨rfl,(HL.out _ H10.out.1).1⟩
end Go.Proofs.YtjmlfacbcfbhdaaGreatDoor.fnFilled
namespace Go.Proofs.YtjmlfacbcfbhdaaGreatDoor
open Go.ChangeShapes Go.WideShapes Go.ChangeAt Go.RowKit
def jlC (w:World) (a:Option Addr) (len cap:Nat):Prop :=
 (a=none∧len=0∧cap=0) ∨
 ∃ (x:Addr) (zs:List Int),a=some x∧len≤cap∧cap≤maxLen∧zs.length=cap∧(∀ i,i<zs.length→w.cell? (x.add i)=some (.int .u8 (zs.getD i 0)))∧∀ n∈zs,(Lit.int .u8 n).wf=true
theorem jgP {w:World} {a:Option Addr} {len cap:Nat} (h:jlC w a len cap) (hl:len≤1048576):CodeOk a len w.heap.size w:=by
 refine ⟨hl,?_⟩
 rcases h with ⟨_,h,_⟩|⟨x,zs,rfl,h1,_,h3,hc,hw⟩
 ·exact .inl h
 by_cases h0:len=0
 ·exact .inl h0
 obtain ⟨b,off,rfl,hc'⟩:=ints_at hc (by omega)
 have hin:∀ j,j<len→w.cell? ⟨b,off+j,none⟩=some (.int .u8 (zs.getD j 0)):=fun j hj=>by first|exact hc' j (by omega)|simpa using hc' j (by omega)
 refine .inr ⟨b,off,rfl,jgO (hin 0 (by omega)),fun j hj=>⟨zs.getD j 0,?_,?_,hin j hj⟩⟩
 all_goals
  have hm:zs.getD j 0∈zs:=jgY (by omega) _
  have hb:=bounds_u8 (hw _ hm)
  omega
end Go.Proofs.YtjmlfacbcfbhdaaGreatDoor
