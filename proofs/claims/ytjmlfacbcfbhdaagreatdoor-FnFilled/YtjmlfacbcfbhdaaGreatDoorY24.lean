/- impl.remade, of what is written to what is written: the walk. Condition: at most 2^20 nodes, each set of at most 2^22. -/
import Derived.Test.YtjmlfacbcfbhdaaGreatDoorYA
import Derived.Test.YtjmlfacbcfbhdaaGreatDoorY23
set_option maxRecDepth 100000
set_option maxHeartbeats 8000000
namespace Go.Proofs.YtjmlfacbcfbhdaaGreatDoor
open Go.ChangeShapes Go.WideShapes Go.ChangeAt Go.RowKit
theorem jmQ (fT:X→X) (fS:X→List Int) (hF:TurnXX fT fS) (PS:Nat) (t:X) (su u:Value) (w:World) (hin:t.At 0 w su u) (hsm:t.Small) (hc:t.count≤1048577) (hM:joE w PS fS) :
  Calls Tryz.prog 69 #[.agg #[.int .i64 t.op,.int .i64 t.at_,.int .i64 t.n,.string t.s,su,u],.func (.func 24) #[] #[],.func (.func 70) #[] #[.pointer (some ⟨PS,0,none⟩)]] w fun e w' =>
   ∃ su' u' S,e=.returned (.agg #[.int .i64 t.op,.int .i64 t.at_,.int .i64 t.n,.string t.s,su',u'])∧Below w.heap.size w w'∧XOwn w' (fT t) su' u' S∧S.Nodup∧∀ x∈S,w.heap.size≤x:=by
 obtain ⟨iS,hiS,hzS0,hzS1,hzS2⟩:=info_parts jcI
 obtain ⟨iL,hiL,hzL0,hzL1,hzL2⟩:=info_parts jlA
 obtain ⟨p,cap,hu⟩:=hin.xs.shape
 obtain ⟨ps,cps,hsu⟩:=hin.sets.shape
 subst hu hsu
 have HF:Hid (TurnXX fT fS):=hF
 have HM:Hid (joE w PS fS):=hM
 have HC:Hid (t.count≤1048577):=hc
 obtain ⟨w1,hrun,hown,hg⟩:=run_make_full (P:=Tryz.prog) ((w.alloc (.cells #[.int .i64 t.op,.int .i64 t.at_,.int .i64 t.n,.string t.s,.slice ps t.set.length cps,.slice p t.len cap] 27)).alloc (.cells #[.int .i64 0,.int .i64 0,.int .i64 0,.string ⟨#[]⟩,.slice none 0 0,.slice none 0 0] 27)) 0 25 27 iS _ 6 Tryz.underlying25 hiS hzS0 hzS1 .i64 .i64 1 (by rw [hzS2];omega) (by unfold maxLen;omega) (nzl _)
 simp only [World.size_alloc] at hrun hown
 obtain ⟨Kp,New,P,hE,hK,hN,hP,hRM⟩:=jiY (fT:=fT) hin hsm hg (by simp [size_madeCells]) hown
 have HE:Hid (Env Kp New):=hE
 have HKP:Hid (∀ W,Kp W→Below w.heap.size w W∧Six W (w.heap.size+1) 0 0 0 ⟨#[]⟩ (.slice none 0 0) (.slice none 0 0) 27):=hK
 have HNW:Hid (∀ x,New x→w.heap.size≤x∧x≠w.heap.size+1):=hN
 have HPP:Hid (∀ W S,P W S→XsOwn W 1 (fun _=>fT t) (.slice (some ⟨w.heap.size+1+1,0,none⟩) 1 1) S):=hP
 have HRM:Hid (RemX fT 159 (jdL w Kp) Kp New P ((w1.alloc (.cells #[.int .i64 t.op,.int .i64 t.at_,.int .i64 t.n,.string t.s,.slice ps t.set.length cps,.slice p t.len cap] 27)).alloc (.cells #[.slice (some ⟨w1.heap.size,0,none⟩) 1 1,.slice (some ⟨w.heap.size+1+1,0,none⟩) 1 1] 159)) [] [⟨1,fun _=>t,.slice (some ⟨w1.heap.size,0,none⟩) 1 1,w.heap.size+1+1⟩] (w1.heap.size+1) 1):=hRM
 have hT0:Six w1 w.heap.size t.op t.at_ t.n t.s (.slice ps t.set.length cps) (.slice p t.len cap) 27:=(hg.block _ (by simp;omega) (by simp)).trans ((bha _ _ _ (by simp)).trans (han w _))
 obtain ⟨a0,a1,a2,a3,a4,a5⟩:=hT0.cells
 have hlt1:w.heap.size+1+1<w1.heap.size:=(hown.lt _ rfl).2
 have hrun':(Instr.makeSlice 25 (.int .i64 1) (.int .i64 1)).run Tryz.prog ((w.alloc (.cells #[.int .i64 t.op,.int .i64 t.at_,.int .i64 t.n,.string t.s,.slice ps t.set.length cps,.slice p t.len cap] 27)).alloc (.cells #[.int .i64 0,.int .i64 0,.int .i64 0,.string ⟨#[]⟩,.slice none 0 0,.slice none 0 0] 27))=.ok (.slice (some ⟨w.heap.size+1+1,0,none⟩) 1 1) w1:=hrun
 clear hrun hown hg hT0 hin hsm hF hM hc hE hK hN hP hRM
 go_enter Tryz.func69,Tryz.ntmps69
 go_wp2_with fail
 clear hrun' a0 a1 a2 a3 a4 a5
 go_loopg [8] t.count (fun k lv wr=>∃ (st:List (Job X)) (gL cap:Nat) (R:List Nat),jbu X.count st=k∧k≤1048577∧lv=.slice (some ⟨gL,0,none⟩) st.length cap∧RemX fT 159 (jdL w Kp) Kp New P wr R st gL cap)
 case atStart=>exact ⟨_,_,_,_,by simp [jbu,Job.total,sumJ],HC.out,rfl,HRM.out⟩
 case round =>
  obtain ⟨st,gL,gc,R,hst,hk,rfl,hL⟩:=hrel
  have HST:Hid (jbu X.count st=gk):=hst
  have HL:Hid (RemX fT 159 (jdL w Kp) Kp New P wr R st gL gc):=hL
  clear hst hL HRM
  rcases List.eq_nil_or_concat st with hnil|⟨r,e,hst⟩
  ·subst hnil
   obtain ⟨S,hS1,hS2,hS3⟩:=HL.out.end
   obtain ⟨su',u',T,⟨c0,c1,c2,c3,c4,c5⟩,hT,hTn,hTS⟩:=jok (HPP.out wr S hS1) hS2
   obtain ⟨hbw,hR6⟩:=HKP.out wr HL.out.keep
   obtain ⟨r0,r1,r2,r3,r4,r5⟩:=hR6.cells
   have rf:=hR6.fr
   rw [HF.out.op] at c0
   rw [HF.out.at_] at c1
   rw [HF.out.n] at c2
   rw [HF.out.s] at c3
   obtain ⟨pu,cu,hu⟩:=hT.at0.xs.shape
   obtain ⟨pv,cv,hv⟩:=hT.at0.sets.shape
   subst hu hv
   have HT:Hid (XOwn wr (fT t) (.slice pv (fT t).set.length cv) (.slice pu (fT t).len cu) T∧T.Nodup∧∀ x∈T,w.heap.size≤x∧x≠w.heap.size+1):=⟨hT,hTn,fun x hx=>HNW.out x (hS3 x (hTS x hx))⟩
   have HB:Hid (Below w.heap.size w wr):=hbw
   clear hS1 hS2 hS3 hT hTn hTS hbw hR6 HL HST
   go_wp2_with fail
   refine bpr (v:=.agg #[.int .i64 t.op,.int .i64 t.at_,.int .i64 t.n,.string t.s,.slice pv (fT t).set.length cv,.slice pu (fT t).len cu]) (by rw [jae (p:=6) (ty:=27) (by kernel_rfl)];simp [go_sem,r0,r1,r2,r3,r4,r5]) rfl ⟨_,_,T,rfl,?_,?_,HT.out.2.1,fun x hx=>(HT.out.2.2 x hx).1⟩
   ·exact jbs HB.out (w.heap.size+1) (by omega) _ _ _ _ _ _
   ·exact HT.out.1.same _ (fun x hx=>jaZ wr (w.heap.size+1) t.op t.at_ t.n t.s (.slice pv (fT t).set.length cv) (.slice pu (fT t).len cu) x (HT.out.2.2 x hx).2)
  ·rw [List.concat_eq_append] at hst
   subst hst
   obtain ⟨n,kid,fv,g⟩:=e
   obtain ⟨⟨pf,cf,hfv,hnl,hat⟩,hn0⟩:=HL.out.src ⟨n,kid,fv,g⟩ (by simp)
   simp only at hfv hnl hat hn0
   subst hfv
   have HAT:Hid (∀ W,Kp W→∀ i,i<n→∃ b o sv u,pf=some ⟨b,o,none⟩∧Head6 W b (o+i*6) (kid i) sv u∧(kid i).At 0 w sv u∧(kid i).Small):=hat
   obtain ⟨l0,l1⟩:=jkH HL.out.own
   simp only [Job.tv] at l0 l1
   obtain ⟨hr1,hr2,-,hr4⟩:=je3 HL.out.own
   have hlen:(r++[(⟨n,kid,.slice pf n cf,g⟩:Job X)]).length=r.length+1:=by simp
   have hrl:r.length+1≤gk:=by
    have:=jgC X.count jed (r++[(⟨n,kid,.slice pf n cf,g⟩:Job X)]) (fun e he=>(HL.out.src e he).2)
    rw [HST.out,hlen] at this;exact this
   obtain ⟨junk0,hI0⟩:=RemX.pop (count:=X.count) (tJ:=159) HE.out HL.out
   simp only [Job.tv] at hI0
   rw [hlen] at hr1 ⊢
   unfold maxLen at hr2 hnl
   have HTT:Hid (jbu X.count (r++[(⟨n,kid,.slice pf n cf,g⟩:Job X)])=gk):=HST.out
   clear hlen hat HL HST
   obtain ⟨NB,hNB⟩:∃ NB,NB=wr.heap.size:=⟨_,rfl⟩
   obtain ⟨rn,hrn⟩:∃ rn,rn=r.length:=⟨_,rfl⟩
   rw [←hrn] at hr1 hrl l0 l1 ⊢
   rw [←hNB] at hI0
   have HI0:Hid (InnX fT X.count 159 159 (jdL w Kp) Kp New P (wr.alloc (.cells #[.slice pf n cf,.slice (some ⟨g,0,none⟩) n n] 159)) R [] r [] [] ⟨n,kid,.slice pf n cf,g⟩ [] junk0 gL gc NB):=hI0
   have HRN:Hid (rn=r.length):=hrn
   have HNB:Hid (NB=wr.heap.size):=hNB
   clear hI0 hrn
   go_wp2_with fail
   rw [←hNB]
   clear hNB l0 l1 hr4
   go_loopw [8,37] (fun lv i wi=>∃ (k m gL' c':Nat) (Ri:List Nat) (en:List (Job X)) (l:List XR) (junk:List Value),i=.int .i64 k∧k≤n∧l.length=k∧(r++(en++[])).length=m∧lv=.slice (some ⟨gL',0,none⟩) m c'∧InnX fT X.count 159 159 (jdL w Kp) Kp New P wi R Ri r en [] ⟨n,kid,.slice pf n cf,g⟩ l junk gL' c' NB) (fun _ i _=>n-(intOf i).toNat)
   case atStart=>exact ⟨0,rn,gL,gc,[],[],[],junk0,rfl,nzl _,rfl,by simp [HRN.out],rfl,HI0.out⟩
   case round =>
    obtain ⟨k,m,gL',c',Ri,en,l,junk,rfl,hkn,hlk,hm,rfl,hI⟩:=hrel
    have HI:Hid (InnX fT X.count 159 159 (jdL w Kp) Kp New P wr R Ri r en [] ⟨n,kid,.slice pf n cf,g⟩ l junk gL' c' NB):=hI
    have HLK:Hid (l.length=k):=hlk
    have HMM:Hid ((r++(en++[])).length=m):=hm
    have hm1:m≤1048577:=by
     have h1:=jgC X.count jed (r++(en++[])) (fun e he=>(hI.src e he).2)
     have h2:=HTT.out
     have h3:=hI.tot
     have h4:=jpr (fun i=>X.count (kid i)) k n hkn
     rw [jbe,jdq] at h2
     simp only [List.append_nil] at h1 hm
     rw [jbe] at h1
     unfold Job.total at h2
     simp only at h2 h3
     rw [hlk] at h3
     omega
    clear hI hm HI0
    by_cases hlt:(k:Int)<n
    ·have hlt':k<n:=by omega
     obtain ⟨b,o,sx,ux,hpf,hd,hxa,hxs⟩:=HAT.out wr HI.out.keep k hlt'
     subst hpf
     obtain ⟨pu,cu,hux⟩:=hxa.xs.shape
     obtain ⟨pv,cv,hsx⟩:=hxa.sets.shape
     subst hux hsx
     obtain ⟨c0,c1,c2,c3,c4,c5⟩:=hd
     have HXA:Hid ((kid k).At 0 w (.slice pv (kid k).set.length cv) (.slice pu (kid k).len cu)∧(kid k).Small):=⟨hxa,hxs⟩
     have hkc:(kid k).len≤1048577:=by
      have h1:=HTT.out
      rw [jbe,jdq] at h1
      unfold Job.total at h1
      have h2:=jpq (fun i=>X.count (kid i)) k n hlt'
      have h3:=X.count_eq (kid k)
      have h4:=jot (fun i=>((kid k).kid i).count) (fun i=>jed _) (kid k).len
      simp only at h1 h2
      omega
     clear hxa hxs
     go_wp2_with fail
     refine (jjT (kid k).op (kid k).at_ (kid k).n (kid k).s (.slice pv (kid k).set.length cv) (.slice pu (kid k).len cu) _).mono ?_
     rintro e w2 ⟨rfl,hb2⟩
     have hnb:=newx wr (.cells #[.int .i64 (kid k).op,.int .i64 (kid k).at_,.int .i64 (kid k).n,.string (kid k).s,.slice pv (kid k).set.length cv,.slice pu (kid k).len cu] 27)
     have hO:Six w2 wr.heap.size (kid k).op (kid k).at_ (kid k).n (kid k).s (.slice pv (kid k).set.length cv) (.slice pu (kid k).len cu) 27:=(hb2.block _ (by simp)).trans (han wr _)
     have HI2:Hid (InnX fT X.count 159 159 (jdL w Kp) Kp New P w2 R Ri r en [] ⟨n,kid,.slice (some ⟨b,o,none⟩) n cf,g⟩ l junk gL' c' NB):=(HI.out.below HE.out hnb).below HE.out hb2
     have HB2:Hid (Below w.heap.size w w2):=(HKP.out w2 HI2.out.keep).1
     have nb1:w2.cell? ⟨NB,1,none⟩=some (.slice (some ⟨g,0,none⟩) n n):=crw w2 NB 1 _ _ _ HI2.out.nb
     obtain ⟨o0,o1,o2,o3,o4,o5⟩:=hO.cells
     have HO6:Hid (Six w2 wr.heap.size (kid k).op (kid k).at_ (kid k).n (kid k).s (.slice pv (kid k).set.length cv) (.slice pu (kid k).len cu) 27):=hO
     have HGW:Hid (gL'<wr.heap.size):=HI.out.lt.1
     have hki0:(0:Int)≤(k:Int):=by omega
     clear hb2 hnb hO c0 c1 c2 c3 c4 c5 HI
     by_cases hz:(0:Int)<(kid k).len
     ·obtain ⟨w3,hrun3,hown3,hg3⟩:=run_make_full (P:=Tryz.prog) w2 0 25 27 iS _ 6 Tryz.underlying25 hiS hzS0 hzS1 .i64 .i64 (kid k).len (by rw [hzS2];omega) (by unfold maxLen;omega) (nzl _)
      have HO3:Hid (w3.ownsRow 0 159 2 (.slice (some ⟨gL',0,none⟩) m c') m (jc0 (r++(en++[])))):=by
       have h1:=jbi HI2.out.own (hg3.block gL' HI2.out.lt.1 (by simp))
       rw [HMM.out] at h1
       exact h1
      have HMK:Hid (w2.grownBy w3 none∧w3.ownsRow 0 27 6 (.slice (some ⟨w2.heap.size,0,none⟩) (kid k).len (kid k).len) (kid k).len (madeCells (Value.agg #[.int .i64 0,.int .i64 0,.int .i64 0,.string ⟨#[]⟩,.slice none 0 0,.slice none 0 0]).cells ((kid k).len*6)).toList):=⟨hg3,hown3⟩
      clear hown3 hg3
      go_wp2_with (at_builtin;refine wpList_append_lies _ rfl (.tmp 51) (.tmp 55) 160 rfl 0 159 iL _ 2 48 Tryz.underlying160 hiL hzL0 hzL1 hzL2 rfl (by decide) (.slice (some ⟨gL',0,none⟩) m c') m (jc0 (r++(en++[]))) rfl (HO3.out.alloc _) ⟨w3.heap.size,0,none⟩ 1 1 [.slice pu (kid k).len cu,.slice (some ⟨w2.heap.size,0,none⟩) (kid k).len (kid k).len] rfl rfl (World.news_of_block (cs:=#[.slice pu (kid k).len cu,.slice (some ⟨w2.heap.size,0,none⟩) (kid k).len (kid k).len]) (t:=159) (fr:=(0,0)) (han w3 _)) (by simp [Value.oneCell']) (by omega) (by unfold maxLen;omega) (by omega) (Nat.zero_le _) (w3.heap.size+1) (by simp) ?_;intro gg cap4 w4 hown4 hgrow hat4 hlt4)
      have hgr:(w3.alloc (.cells #[.slice pu (kid k).len cu,.slice (some ⟨w2.heap.size,0,none⟩) (kid k).len (kid k).len] 159)).grownBy w4 (some gL'):=hgrow
      have HI4:Hid (InnX fT X.count 159 159 (jdL w Kp) Kp New P w4 R Ri r en [⟨(kid k).len,(kid k).kid,.slice pu (kid k).len cu,w2.heap.size⟩] ⟨n,kid,.slice (some ⟨b,o,none⟩) n cf,g⟩ l junk gg cap4 NB) :=
       InnX.push HE.out HI2.out HMK.out.1 HMK.out.2 (by simp [size_madeCells]) hgr (hat4.elim (fun h=>.inl (by simpa [Value.ownBlock] using h)) (fun h=>.inr h)) (by rw [HMM.out];exact hown4) (jpn (fun W hW=>(HKP.out W hW).1) HXA.out.1 HXA.out.2 rfl) (by omega)
      have hO4:Six w4 wr.heap.size (kid k).op (kid k).at_ (kid k).n (kid k).s (.slice pv (kid k).set.length cv) (.slice pu (kid k).len cu) 27:=by
       have h1:=HO6.out.lt
       have h2:=HMK.out.1.size
       have h3:=HGW.out
       exact (hgr.block _ (by simp;omega) (by intro e;injection e with e;omega)).trans ((bha w3 _ _ (by omega)).trans ((HMK.out.1.block _ h1 (by simp)).trans HO6.out))
      have HB4:Hid (Below w.heap.size w w4):=(HKP.out w4 HI4.out.keep).1
      clear hrun3 hown4 hgrow hat4 hlt4 hgr o0 o1 o2 o3 o4 o5 nb1
      have nb1:w4.cell? ⟨NB,1,none⟩=some (.slice (some ⟨g,0,none⟩) n n):=crw w4 NB 1 _ _ _ HI4.out.nb
      obtain ⟨o0,o1,o2,o3,o4,o5⟩:=hO4.cells
      clear hO4
      go_region_with ((go_at_call 70;refine (HM.out (kid k) _ pu cu (some ⟨w2.heap.size,0,none⟩) (kid k).len (kid k).len _ ?_ HXA.out.1 HXA.out.2).mono ?_;exact HB4.out.drew;rintro e w5 ⟨sv,rfl,hb5,ho5⟩;have hb5':Below w4.heap.size w4 w5:=⟨hb5.os,hb5.tape,hb5.output,hb5.size,hb5.block⟩;obtain ⟨px,cx,hvx⟩:=(ho5.setB (nzl _)).shape;subst hvx;have nb5:=jat hb5' _ _ nb1;obtain ⟨hf5,⟨u0,hu0⟩,⟨u1,hu1⟩,⟨u2,hu2⟩,⟨u3,hu3⟩,⟨u4,hu4⟩,⟨u5,hu5⟩⟩:=(HI4.out.below HE.out hb5').room HLK.out hlt';have HN:Hid (InnX fT X.count 159 159 (jdL w Kp) Kp New P (st6 w5 g (k*6) (kid k) (.slice px (fS (kid k)).length cx) (.slice (some ⟨w2.heap.size,0,none⟩) (kid k).len (kid k).len)) R (Ri++(Value.slice px (fS (kid k)).length cx).ownBlock.toList) r (en++[⟨(kid k).len,(kid k).kid,.slice pu (kid k).len cu,w2.heap.size⟩]) [] ⟨n,kid,.slice (some ⟨b,o,none⟩) n cf,g⟩ (l++[(fT (kid k),.slice px (fS (kid k)).length cx,.slice (some ⟨w2.heap.size,0,none⟩) (kid k).len (kid k).len)]) (junk.drop 6) gg cap4 NB):=jkz HE.out HF.out HI4.out hb5' HLK.out hlt' HXA.out.1 HXA.out.2 ho5;clear hb5 ho5 hb5'))
      all_goals
       go_wp2_with fail
       go_roundw
       case rel=>exact ⟨k+1,m+1,gg,cap4,_,_,_,_,by go_num,by omega,by rw [lla,HLK.out];rfl,by have:=HMM.out;simp at this ⊢;omega,rfl,HN.out⟩
       case measure=>simp [intOf];omega
     ·have HZ:Hid ((kid k).len=0):=by
       show _=_
       omega
      go_wp2_with fail
      go_region_with ((go_at_call 70;refine (HM.out (kid k) _ pu cu none 0 0 _ ?_ HXA.out.1 HXA.out.2).mono ?_;exact HB2.out.drew;rintro e w5 ⟨sv,rfl,hb5,ho5⟩;have hb5':Below w2.heap.size w2 w5:=⟨hb5.os,hb5.tape,hb5.output,hb5.size,hb5.block⟩;obtain ⟨px,cx,hvx⟩:=(ho5.setB (nzl _)).shape;subst hvx;have nb5:=jat hb5' _ _ nb1;obtain ⟨hf5,⟨u0,hu0⟩,⟨u1,hu1⟩,⟨u2,hu2⟩,⟨u3,hu3⟩,⟨u4,hu4⟩,⟨u5,hu5⟩⟩:=(HI2.out.below HE.out hb5').room HLK.out hlt';have HN:Hid (InnX fT X.count 159 159 (jdL w Kp) Kp New P (st6 w5 g (k*6) (kid k) (.slice px (fS (kid k)).length cx) (.slice none 0 0)) R (Ri++(Value.slice px (fS (kid k)).length cx).ownBlock.toList) r en [] ⟨n,kid,.slice (some ⟨b,o,none⟩) n cf,g⟩ (l++[(fT (kid k),.slice px (fS (kid k)).length cx,.slice none 0 0)]) (junk.drop 6) gL' c' NB):=jky HE.out HF.out HI2.out hb5' HLK.out hlt' HXA.out.1 HXA.out.2 ho5 HZ.out;clear hb5 ho5 hb5'))
      all_goals
       go_wp2_with fail
       go_roundw
       case rel=>exact ⟨k+1,m,gL',c',_,_,_,_,by go_num,by omega,by rw [lla,HLK.out];rfl,HMM.out,rfl,HN.out⟩
       case measure=>simp [intOf];omega
    ·have hke:k=n:=by omega
     have HD:=HI.out.done (by rw [HLK.out];exact hke)
     have HDD:Hid (RemX fT 159 (jdL w Kp) Kp New P wr (R++g::Ri) (r++en) gL' c'∧jbu X.count (r++en)+n=gk∧(r++en).length=m):=⟨HD.1,HD.2.trans HTT.out,by have:=HMM.out;simpa using this⟩
     clear HD HI
     go_wp2_with fail
     go_roundg (jbu X.count (r++en))
     case measure=>have:=HDD.out.2.1;omega
     case rel=>exact ⟨r++en,gL',c',_,rfl,by have:=HDD.out.2.1;omega,by rw [HDD.out.2.2],HDD.out.1⟩
end Go.Proofs.YtjmlfacbcfbhdaaGreatDoor
