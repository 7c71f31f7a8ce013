/- An append from whatever source, and a call of two arguments, as one step of a region that draws its order. No conditions. -/
import Derived.Test.YtjmlfacbcfbhdaaGreatDoorYA
import Derived.Test.YtjmlfacbcfbhdaaGreatDoorY8
import Derived.Test.YtjmlfacbcfbhdaaGreatDoorY9
import Derived.Test.YtjmlfacbcfbhdaaGreatDoorY4
import Derived.Test.YtjmlfacbcfbhdaaGreatDoorY5
import Derived.Test.YtjmlfacbcfbhdaaGreatDoorY7
import Derived.Test.YtjmlfacbcfbhdaaGreatDoorRows
import Derived.Test.YtjmlfacbcfbhdaaGreatDoorY0
import Derived.Deep.RegionLaw
import Derived.Tactics
import Derived.Maps.AppendAt
set_option maxRecDepth 100000
set_option maxHeartbeats 8000000
namespace Go.Proofs.YtjmlfacbcfbhdaaGreatDoor
open Go.ChangeShapes Go.WideShapes Go.ChangeAt Go.RowKit
theorem jh3 (len:Nat) (kid:Nat→D) (w:World) (v:Value) (hv:Sl w len kid v) (hc:jao (fun i=>(kid i).count) len≤1099511627776) :
  Calls Tryz.prog 43 #[v] w fun e w'=>e=.returned (.bool (jef len kid))∧Below w.heap.size w w':=by
 obtain ⟨p,cap,rfl,hlen,hat⟩:=hv.at
 have HC:Hid (∀ i,i<len→∃ b o u,p=some ⟨b,o,none⟩∧Head w b (o+i*5) (kid i) u∧(kid i).In w u):=hat
 have HRE:Hid (jef len kid=(jci (fun i=>decide ((kid i).deep≤20)&&jaU (kid i)) len&&decide (jao (fun i=>(kid i).count) len≤1500))):=rfl
 have HSC:Hid (jao (fun i=>(kid i).count) len≤1099511627776):=hc
 generalize jef len kid=R at *
 clear hat hv hc
 unfold maxLen at hlen
 go_enter Tryz.func43,Tryz.ntmps43
 go_wp2_with fail
 go_loopw [3,4] (fun x i wr=>∃ k c:Nat,i=.int .i64 k∧x=.int .i64 c∧k≤len∧c=jao (fun i=>(kid i).count) k∧jci (fun i=>decide ((kid i).deep≤20)&&jaU (kid i)) k=true∧Below w.heap.size w wr) (fun _ i _=>len-(intOf i).toNat)
 case atStart=>exact ⟨0,0,rfl,rfl,nzl _,rfl,rfl,brf _ _⟩
 case round =>
  obtain ⟨k,c,rfl,rfl,hk,hcc,hall,hbel⟩:=hrel
  have HBL:Hid (Below w.heap.size w wr):=hbel
  have HS:Hid (c=jao (fun i=>(kid i).count) k):=hcc
  have HA:Hid (jci (fun i=>decide ((kid i).deep≤20)&&jaU (kid i)) k=true):=hall
  clear hbel hcc hall
  by_cases hlt:(k:Int)<len
  ·have hlt':k<len:=by omega
   obtain ⟨b,o,u,hp,hd,hin⟩:=HC.out k hlt'
   subst hp
   obtain ⟨c0,c1,c2,c3,c4⟩:=hd.below HBL.out
   have HI:Hid ((kid k).In wr u):=hin.below HBL.out
   have HH:Hid (Head w b (o+k*5) (kid k) u):=hd
   have hsum:c+(kid k).count≤1099511627776:=by
    have h1:=jbU (fun i=>(kid i).count) k len hlt'
    have h2:=HS.out
    have h3:=HSC.out
    omega
   have hck:(kid k).count≤1099511627776:=by omega
   have HNS:Hid (c+(kid k).count=jao (fun i=>(kid i).count) (k+1)):=by
    show _=_
    rw [HS.out];rfl
   clear hd hin
   go_wp2_with fail
   refine (jm6 (kid k) wr u HI.out hck).mono ?_
   rintro e w1 ⟨rfl,hb1⟩
   have HB1:Hid (Below w.heap.size w w1):=HBL.out.trans (hb1.mono HBL.out.size)
   have HI1:Hid ((kid k).In w1 u):=HI.out.below hb1
   clear hb1 c0 c1 c2 c3 c4 HI HBL
   obtain ⟨c0,c1,c2,c3,c4⟩:=HH.out.below HB1.out
   go_wp2_with fail
   refine (jm4 (kid k) w1 u HI1.out hck).mono ?_
   rintro e w2 ⟨rfl,hb2⟩
   have HB2:Hid (Below w.heap.size w w2):=HB1.out.trans (hb2.mono HB1.out.size)
   have HI2:Hid ((kid k).In w2 u):=HI1.out.below hb2
   clear hb2 c0 c1 c2 c3 c4 HI1 HB1
   obtain ⟨c0,c1,c2,c3,c4⟩:=HH.out.below HB2.out
   by_cases hdp:(20:Int)<(kid k).deep
   ·have HN:Hid (R=false):=HRE.out.trans (by rw [jdy hlt' (by rw [dqf (by omega)];rfl)];rfl)
    clear HRE
    go_wp2_with fail
    go_ret
    exact ⟨jaE HN.out.symm,HB2.out⟩
   ·have hd20:decide ((kid k).deep≤20)=true:=dqt (by omega)
    cases hr:jaU (kid k) with
    | true =>
     have HN:Hid (jci (fun i=>decide ((kid i).deep≤20)&&jaU (kid i)) (k+1)=true):=by
      show _=_
      simp only [jci,HA.out,hr,hd20,Bool.and_self]
     have HRK:Hid (jaU (kid k)=true):=hr
     clear hr hd20
     go_wp2_with fail
     refine (jgw (kid k) w2 u HI2.out).mono ?_
     rintro e w3 ⟨rfl,hb3⟩
     rw [HRK.out]
     have HB3:Hid (Below w.heap.size w w3):=HB2.out.trans (hb3.mono HB2.out.size)
     clear hb3 c0 c1 c2 c3 c4
     go_wp2_with fail
     go_roundw
     case rel=>exact ⟨k+1,c+(kid k).count,by go_num,by go_num,by omega,HNS.out,HN.out,HB3.out⟩
     case measure=>simp [intOf];omega
    | false =>
     have HN:Hid (R=false):=HRE.out.trans (by rw [jdy hlt' (by rw [hr,Bool.and_false])];rfl)
     have HRK:Hid (jaU (kid k)=false):=hr
     clear hr hd20 HRE
     go_wp2_with fail
     refine (jgw (kid k) w2 u HI2.out).mono ?_
     rintro e w3 ⟨rfl,hb3⟩
     rw [HRK.out]
     have HB3:Hid (Below w.heap.size w w3):=HB2.out.trans (hb3.mono HB2.out.size)
     clear hb3 c0 c1 c2 c3 c4
     go_wp2_with fail
     go_ret
     exact ⟨jaE HN.out.symm,HB3.out⟩
  ·have hke:k=len:=by omega
   have HR:Hid (R=decide ((c:Int)≤1500)):=HRE.out.trans (by
    rw [←hke,HA.out,Bool.true_and,←HS.out]
    by_cases h:c≤1500
    ·rw [dqt h,dqt (by omega)]
    ·rw [dqf h,dqf (by omega)])
   go_wp2_with fail
   go_ret
   exact ⟨jaE HR.out.symm,HBL.out⟩
theorem jop (w0:World) (C:Nat) (hC0:w0.heap.size≤C) (tv:Value) (ts:List Tok) (E:Nat) (htv:TokCells w0 tv ts) (hts:ts.length≤4000) (hok:joU ts) (f:Nat):jjn w0 C tv ts E f:=by
 have hend:∀ (f:Nat) (w:World),CuAt w C tv ts.length E (-1)→Calls Tryz.prog 86 #[.pointer (some ⟨C,0,none⟩)] w (jfb w C tv ts E (one E (f+1) (ts.drop ts.length))):=by
  intro f w hcu
  have hsh:∃ p cap,tv=.slice p ts.length cap:=by
   rcases htv with ⟨h,rfl⟩|⟨g,cap,h,_⟩
   ·exact ⟨_,_,h⟩
   ·exact ⟨_,_,h⟩
  obtain ⟨pt,ct,rfl⟩:=hsh
  refine (joq w C pt ts.length ct E hcu).mono ?_
  rintro e w' ⟨h1,h2,h3⟩
  have he:one E (f+1) (ts.drop ts.length)=.bad E:=by simp [one]
  rw [he]
  exact ⟨h2,h1,by omega,_,h3⟩
 induction f with
 | zero =>
  intro w i _ hcu hi hf
  obtain rfl:i=ts.length:=by omega
  exact hend 0 w hcu
 | succ f ih =>
  intro w i hbel hcu hi hf
  by_cases hie:i=ts.length
  ·subst hie
   exact hend (f+1) w hcu
  ·have hil:i<ts.length:=by omega
   obtain ⟨g,cap,rfl,t0,t1,t2,t3⟩:=jnh (htv.below hbel) i hil
   have hdrop:ts.drop i=ts[i]::ts.drop (i+1):=List.drop_eq_getElem_cons hil
   have htk:=hok ts[i] (List.getElem_mem hil)
   have hone:one E (f+1+1) (ts.drop i)=if ts[i].kind=3 then .ok (dNum ts[i]) (ts.drop (i+1)) else if ts[i].kind=4 then .ok (dSym ts[i]) (ts.drop (i+1)) else if ts[i].kind=2 then .bad ts[i].at_
    else match jb4 E (one E (f+1)) ((ts.drop (i+1)).length+1) [] (ts.drop (i+1)) with
     | .bad p=>.bad p
     | .ok ds r1=>.ok (jir ts[i] ds) r1:=by rw [hdrop];rfl
   by_cases h1:ts[i].kind=1
   ·refine jm3 w0 C hC0 ts g cap E f htv hts ih w i hbel hcu hil hf ts[i] h1 t0 t1 t2 t3 _ ?_
    rw [hone,if_neg (by omega),if_neg (by omega),if_neg (by omega)]
    rfl
   ·refine jm2 w C ts g cap E i ts[i] hcu hts hil htk.2 t0 t1 t2 t3 (by have:=htk.1;omega) _ ?_
    rw [hone]
    by_cases h3:ts[i].kind=3
    ·rw [if_pos h3,if_pos h3]
    ·rw [if_neg h3,if_neg h3]
     by_cases h4:ts[i].kind=4
     ·rw [if_pos h4,if_pos h4]
     ·rw [if_neg h4,if_neg h4,if_pos (by have:=htk.1;omega)]
def joS (w:World) (res:Rdr (List D)) (e:Ending) (w':World):Prop :=
 Below w.heap.size w w'∧match res with
  | .bad p=>∃ q c,e=.returned (.tuple #[.slice q 0 c,.int .i64 p])
  | .ok ds _=>∃ v,e=.returned (.tuple #[v,.int .i64 (-1)])∧Sl w' ds.length (jav ds) v∧(ds≠[]→∃ S,SOwn w' ds.length (jav ds) v S∧S.Nodup∧∀ x∈S,w.heap.size≤x)
theorem Acc.empty (w:World) (B:Nat) (hB:B≤w.heap.size):Acc B (w.alloc (.cells #[] 72)) [] (.slice (some ⟨w.heap.size,0,none⟩) 0 0) [] []:=by
 refine ⟨?_,rfl,rfl,fun i hi=>by simp at hi,by simp,fun g h=>?_,fun x hx=>by simp at hx⟩
 ·have hq:=World.ownsRow_lit (base:=0) (e:=72) (size:=5) w #[] 0 (by simp) (by unfold maxLen;omega) (by simp)
  exact hq
 ·simp [Value.ownBlock] at h
  subst h
  exact ⟨by simp,hB⟩
theorem Acc.shape {B:Nat} {w:World} {acc:List D} {lv:Value} {la:List (D×Value)} {SS:List (List Nat)} (h:Acc B w acc lv la SS):∃ p c,lv=.slice p acc.length c:=by
 rcases h.own.2 with ⟨h1,h2⟩|⟨g,cap,cur,h1,_⟩
 ·exact ⟨_,_,by rw [h1,h2]⟩
 ·exact ⟨_,_,h1⟩
theorem Acc.sl' {B:Nat} {w:World} {acc:List D} {lv:Value} {la:List (D×Value)} {SS:List (List Nat)} (h:Acc B w acc lv la SS):Sl w acc.length (jav acc) lv:=by
 by_cases ha:acc=[]
 ·obtain ⟨p,c,e⟩:=h.shape
  subst ha
  exact .inl ⟨rfl,p,c,e⟩
 ·obtain ⟨S,hS,_⟩:=h.sown (.inr ha)
  exact hS.sl
def jjm (w1 wr:World) (C:Nat) (tv:Value) (ts:List Tok) (E k:Nat) (lv:Value) (res:Rdr (List D)):Prop :=
 Below w1.heap.size w1 wr∧w1.heap.size+1≤wr.heap.size∧C=w1.heap.size ∧
  ((∃ acc j m,k=m+1∧CuAt wr C tv (j:Nat) E (-1)∧(∃ la SS,Acc (w1.heap.size+1) wr acc lv la SS)∧j≤ts.length∧jfM (one E (ts.length+1)) (m+1) acc (ts.drop j)=res∧ts.length-j≤m∧acc.length+(ts.length-j)≤ts.length)
   ∨ (k=0∧∃ p z,res=.bad p∧0≤p∧CuAt wr C tv z E p))
theorem jlQ (len:Nat) (kid:Nat→D):jao (fun i=>(kid i).count) len≤jah len kid:=by
 unfold jah
 induction len with
 | zero=>simp [jao]
 | succ n ih =>
  have:=(kid n).count_weight
  simp only [jao]
  omega
theorem jjo {w1 w2 w3:World} {C E:Nat} {tv lv:Value} {z b:Int} {o o':Obj} (hC:C=w1.heap.size) (hbl:Below w1.heap.size w1 w2) (hsz:w1.heap.size+1≤w2.heap.size) (hcu:CuAt w2 C tv z E b)
  (hg:((w2.alloc o).alloc o').grownBy w3 lv.ownBlock) (hB:∀ x,lv.ownBlock=some x→w1.heap.size+1≤x) :
  Below w1.heap.size w1 w3∧w1.heap.size+1≤w3.heap.size∧CuAt w3 C tv z E b:=by
 have hs1:((w2.alloc o).alloc o').heap.size=w2.heap.size+2:=by simp
 have hgs:=hg.size
 rw [hs1] at hgs
 have keep:∀ x,x<w1.heap.size+1→w3.heap[x]? = w2.heap[x]? := fun x hx =>
  (hg.block x (by omega) (fun e=>by have:=hB x e.symm;omega)).trans ((bha (w2.alloc o) o' x (by simp;omega)).trans (bha w2 o x (by omega)))
 exact ⟨⟨hg.os.trans hbl.os,hg.tape.trans hbl.tape,hg.output.trans hbl.output,by omega,fun x hx=>(keep x (by omega)).trans (hbl.block x hx)⟩,by omega,(keep C (by omega)).trans hcu⟩
theorem jjQ (s:ByteArray) (hs:s.size≤1048576) (w:World):Calls Tryz.prog 58 #[.string s] w (joS w (jeR s)):=by
 obtain ⟨i0,hin,hz0,hz1,hz2⟩:=info_parts jfi
 have HTK:Hid (∀ w,Calls Tryz.prog 85 #[.string s] w fun e w'=>∃ lv,e=.returned (.tuple #[lv,.int .i64 (toks s).2])∧Below w.heap.size w w'∧w'.ownsRow w.heap.size 166 4 lv (toks s).1.length (rows (toks s).1)):=fun w=>jja s (by unfold maxLen;omega) w
 by_cases hb:(toks s).2 = -1
 ·have h4:s.size≤4000:=by
   by_cases h:s.size≤4000
   ·exact h
   ·rw [jic s h] at hb;simp at hb
  have hg:=(jda s).2.1
  have HP:Hid (jeR s=match jew s.size (toks s).1 with | .bad p=>.bad p | .ok ds _=>if jef ds.length (jav ds)=true then .ok ds [] else .bad 0):=by
   show _=_
   unfold jeR;rw [if_pos hb]
   rfl
  have HOK:Hid (joU (toks s).1∧TokW (toks s).1):=⟨jpt s h4,joO s⟩
  rw [hb] at HTK
  generalize jeR s=res at *
  generalize (toks s).1=ts at *
  clear hb
  go_enter Tryz.func58,Tryz.ntmps58
  go_wp2_with fail
  refine (HTK.out _).mono ?_
  rintro e w1 ⟨lv,rfl,hb1,ho1⟩
  have htc:=TokCells.of_own ho1
  have hsh:∃ p cap,lv=.slice p ts.length cap:=by
   rcases htc with ⟨h,rfl⟩|⟨g,cap,h,_⟩
   ·exact ⟨_,_,h⟩
   ·exact ⟨_,_,h⟩
  obtain ⟨pt,ct,rfl⟩:=hsh
  have HB1:Hid (Below w.heap.size w w1):=(newb w _).trans (hb1.mono (by simp))
  have HT1:Hid (TokCells w1 (.slice pt ts.length ct) ts):=htc
  clear hb1 ho1 htc HTK
  have HONE:Hid (jjn w1 w1.heap.size (.slice pt ts.length ct) ts s.size ts.length):=jop w1 w1.heap.size (nlr _) _ ts s.size HT1.out hg HOK.out.1 _
  have HCU:Hid (CuAt (w1.alloc (.cells #[.slice pt ts.length ct,.int .i64 0,.int .i64 s.size,.int .i64 (-1)] 149)) w1.heap.size (.slice pt ts.length ct) (0:Nat) s.size (-1)):=han w1 _
  go_wp2_with fail
  have hs1:(w1.alloc (.cells #[.slice pt ts.length ct,.int .i64 0,.int .i64 s.size,.int .i64 (-1)] 149)).heap.size=w1.heap.size+1:=by simp
  have H0:Hid (jjm w1 ((w1.alloc (.cells #[.slice pt ts.length ct,.int .i64 0,.int .i64 s.size,.int .i64 (-1)] 149)).alloc (.cells #[] 72)) w1.heap.size (.slice pt ts.length ct) ts s.size (ts.length+1) (.slice (some ⟨w1.heap.size+1,0,none⟩) 0 0) (jew s.size ts)):=by
   have ha:=Acc.empty (w1.alloc (.cells #[.slice pt ts.length ct,.int .i64 0,.int .i64 s.size,.int .i64 (-1)] 149)) (w1.heap.size+1) (by omega)
   rw [hs1] at ha
   exact ⟨(newb w1 _).trans ((newb _ _).mono (by omega)),by simp,rfl,.inl ⟨[],0,ts.length,rfl,HCU.out.below (newb _ _),⟨_,_,ha⟩,nzl _,rfl,by omega,by simp⟩⟩
  clear hs1 HCU HT1
  go_loopg [8] (ts.length+1) (fun k lv wr=>jjm w1 wr w1.heap.size (.slice pt ts.length ct) ts s.size k lv (jew s.size ts))
  case atStart=>exact H0.out
  case round =>
   obtain ⟨hbl,hsz,-,hcase⟩:=hrel
   have HBL:Hid (Below w1.heap.size w1 wr):=hbl
   clear hbl H0
   rcases hcase with ⟨acc,j,m,hkm,hcu,⟨la,SS,hacc⟩,hjle,heq,hfuel,hfew⟩|⟨hk0,p,z,hkp,hp0,hcu⟩
   ·have HCU:Hid (CuAt wr w1.heap.size (.slice pt ts.length ct) (j:Nat) s.size (-1)):=hcu
    have c1:=hcu.c1;have c3:=hcu.c3
    have HACC:Hid (Acc (w1.heap.size+1) wr acc u8 la SS):=hacc
    clear hcu hacc
    by_cases hje:j=ts.length
    ·have HR:Hid (jew s.size ts=.ok acc []):=by
      show _=_
      rw [←heq,hje]
      simp [jfM]
     have hwt:=jmN _ ts acc [] HOK.out.2 hg HR.out
     have hcn:=jlQ acc.length (jav acc)
     have HDT:Hid (Calls Tryz.prog 43 #[u8] wr fun e w'=>e=.returned (.bool (jef acc.length (jav acc)))∧Below wr.heap.size wr w'):=jh3 acc.length (jav acc) wr u8 HACC.out.sl' (by omega)
     have HSL:Hid (Sl wr acc.length (jav acc) u8):=HACC.out.sl'
     have HSO:Hid (acc≠[]→∃ S,SOwn wr acc.length (jav acc) u8 S∧S.Nodup∧∀ x∈S,w.heap.size≤x):=fun ha=>by
      obtain ⟨S,h1,h2,h3⟩:=HACC.out.sown (.inr ha)
      exact ⟨S,h1,h2,fun x hx=>by have:=h3 x hx;have:=HB1.out.size;omega⟩
     have HP2:Hid (res=if jef acc.length (jav acc)=true then .ok acc [] else .bad 0):=HP.out.trans (by rw [HR.out])
     have HBW:Hid (Below w.heap.size w wr):=HB1.out.trans (HBL.out.mono HB1.out.size)
     clear hwt hcn HP HR heq HACC HCU
     subst hje
     cases hd:jef acc.length (jav acc) with
     | true =>
      rw [hd] at HDT HP2
      have HQ:Hid (res=.ok acc []):=HP2.out.trans (by rw [if_pos rfl])
      clear hd HP2
      go_wp2_with fail
      refine HDT.out.mono ?_
      rintro e w3 ⟨rfl,hb3⟩
      have HX:Hid (Below w.heap.size w w3∧Sl w3 acc.length (jav acc) u8∧(acc≠[]→∃ S,SOwn w3 acc.length (jav acc) u8 S∧S.Nodup∧∀ x∈S,w.heap.size≤x)):=⟨HBW.out.trans (hb3.mono HBW.out.size),HSL.out.below hb3,fun ha=>by
       obtain ⟨S,h1,h2,h3⟩:=HSO.out ha
       exact ⟨S,h1.same (fun x hx=>hb3.block x (h1.lt x hx)),h2,h3⟩⟩
      clear hb3
      go_wp2_with fail
      go_ret2
      rw [HQ.out]
      exact ⟨HX.out.1,_,rfl,HX.out.2⟩
     | false =>
      rw [hd] at HDT HP2
      have HQ:Hid (res=.bad 0):=HP2.out.trans (by rw [if_neg (by simp)])
      clear hd HP2
      go_wp2_with fail
      refine HDT.out.mono ?_
      rintro e w3 ⟨rfl,hb3⟩
      have HX:Hid (Below w.heap.size w w3):=HBW.out.trans (hb3.mono HBW.out.size)
      clear hb3
      go_wp2_with fail
      go_ret2
      rw [HQ.out]
      exact ⟨HX.out,_,_,rfl⟩
    ·have hjl:j<ts.length:=by omega
     have hjd:((j:Int)<(ts.length:Int)):=by omega
     have hjd1:decide ((j:Int)<(ts.length:Int))=true:=dqt hjd
     have heq2:(match one s.size (ts.length+1) (ts.drop j) with | .bad p=>(.bad p:Rdr (List D)) | .ok d r1=>jfM (one s.size (ts.length+1)) m (acc++[d]) r1)=jew s.size ts:=by
      rw [←heq,List.drop_eq_getElem_cons hjl]
      rfl
     have HEQ:Hid ((match one s.size (ts.length+1) (ts.drop j) with | .bad p=>(.bad p:Rdr (List D)) | .ok d r1=>jfM (one s.size (ts.length+1)) m (acc++[d]) r1)=jew s.size ts):=heq2
     have HJ:Hid (ts.length-j≤m∧acc.length+(ts.length-j)≤ts.length∧j≤ts.length):=⟨hfuel,hfew,hjle⟩
     clear heq heq2 hfuel hfew
     go_wp2_with fail
     refine (HONE.out wr j HBL.out HCU.out HJ.out.2.2 (by omega)).mono ?_
     rintro e w2 ⟨hf2,hm⟩
     have hsz2:w1.heap.size+1≤w2.heap.size:=by have:=hf2.size;omega
     have hbl2:Below w1.heap.size w1 w2:=hf2.below0 HBL.out (nlr _)
     have hacc2:Acc (w1.heap.size+1) w2 acc u8 la SS:=HACC.out.same (fun x h1 h2=>hf2.block x h2 (by simp only [List.mem_singleton];omega))
     have hlB:∀ x,u8.ownBlock=some x→w1.heap.size+1≤x:=fun x e=>(HACC.out.out x e).2
     have hfew:acc.length≤4000:=by have:=HJ.out;omega
     have HW:Hid (Below w1.heap.size w1 w2∧Acc (w1.heap.size+1) w2 acc u8 la SS):=⟨hbl2,hacc2⟩
     clear hf2 hbl2 hacc2 c1 c3 HCU
     cases hres:one s.size (ts.length+1) (ts.drop j) with
     | bad p =>
      rw [hres] at hm
      have HK:Hid (jew s.size ts=.bad p):=by
       have h:=HEQ.out
       rw [hres] at h
       exact h.symm
      obtain ⟨⟨v,rfl,va,vb,vc,vs,vp,vl,vk,rfl⟩,hp0,z,hcu2⟩:=hm
      have HCU2:Hid (CuAt w2 w1.heap.size (.slice pt ts.length ct) z s.size p):=hcu2
      clear hcu2 HEQ hres
      go_wp2_with (at_builtin;refine wpList_append_lies _ rfl _ _ 70 rfl 0 72 i0 _ 5 64 Tryz.underlying70 hin hz0 hz1 hz2 rfl (by decide) u8 acc.length (jaF la) rfl ((HW.out.2.own.alloc _).alloc _) ⟨w2.heap.size+1,0,none⟩ 1 1 [.int .i64 va,.int .i64 vb,.int .i64 vc,.string vs,.slice vp vl vk] rfl rfl ?c1 ?c2 (by decide) ?c3 ?c4 (nzl _) (w2.heap.size+1+1) (by simp) ?_)
      case c1 =>
       have hn:=han (w2.alloc (.cells #[.int .i64 va,.int .i64 vb,.int .i64 vc,.string vs,.slice vp vl vk] 72)) (.cells #[.int .i64 va,.int .i64 vb,.int .i64 vc,.string vs,.slice vp vl vk] 72)
       rw [show (w2.alloc (.cells #[.int .i64 va,.int .i64 vb,.int .i64 vc,.string vs,.slice vp vl vk] 72)).heap.size=w2.heap.size+1 from by simp] at hn
       exact World.news_of_block hn
      case c2=>simp [Value.oneCell']
      case c3=>unfold maxLen;omega
      case c4=>omega
      intro gg cap3 w3 hown3 hgrow hat hlt3
      obtain ⟨k1,k2,k3⟩:=jjo rfl HW.out.1 hsz2 HCU2.out hgrow hlB
      have HN:Hid (jjm w1 w3 w1.heap.size (.slice pt ts.length ct) ts s.size 0 (.slice (some ⟨gg,0,none⟩) (acc.length+1) cap3) (jew s.size ts)) :=
       ⟨k1,k2,rfl,.inr ⟨rfl,p,z,HK.out,hp0,k3⟩⟩
      clear k1 k2 k3 hown3 hgrow hat hlt3 HW HK HCU2
      go_wp2_with fail
      go_roundg 0
      case measure=>omega
      case rel=>exact HN.out
     | ok d r =>
      rw [hres] at hm
      have hless:=(je1 s.size (ts.length+1) _ _ _ hres).1
      have HK:Hid (jfM (one s.size (ts.length+1)) m (acc++[d]) r=jew s.size ts):=by
       have h:=HEQ.out
       rw [hres] at h
       exact h
      obtain ⟨v,T,i',rfl,hdo,hTn,hTB,rfl,hi',hcu2⟩:=hm
      rw [List.length_drop,List.length_drop] at hless
      have hgk:1≤m:=by have:=HJ.out;omega
      obtain ⟨pv,cv,ev⟩:=hdo.sown.sl.shape
      subst ev
      have HCU2:Hid (CuAt w2 w1.heap.size (.slice pt ts.length ct) (i':Nat) s.size (-1)):=hcu2
      have HD:Hid (DOwn w2 d (.slice pv d.len cv) T∧T.Nodup∧(∀ x∈T,wr.heap.size≤x)):=⟨hdo,hTn,hTB⟩
      have HI:Hid (i'≤ts.length∧j<i'):=⟨hi',by omega⟩
      clear hcu2 HEQ hres hdo hTn hTB hless hi'
      go_wp2_with (at_builtin;refine wpList_append_lies _ rfl _ _ 70 rfl 0 72 i0 _ 5 64 Tryz.underlying70 hin hz0 hz1 hz2 rfl (by decide) u8 acc.length (jaF la) rfl ((HW.out.2.own.alloc _).alloc _) ⟨w2.heap.size+1,0,none⟩ 1 1 [.int .i64 d.op,.int .i64 d.at_,.int .i64 d.n,.string d.s,.slice pv d.len cv] rfl rfl ?c1 ?c2 (by decide) ?c3 ?c4 (nzl _) (w2.heap.size+1+1) (by simp) ?_)
      case c1 =>
       have hn:=han (w2.alloc (.cells #[.int .i64 d.op,.int .i64 d.at_,.int .i64 d.n,.string d.s,.slice pv d.len cv] 72)) (.cells #[.int .i64 d.op,.int .i64 d.at_,.int .i64 d.n,.string d.s,.slice pv d.len cv] 72)
       rw [show (w2.alloc (.cells #[.int .i64 d.op,.int .i64 d.at_,.int .i64 d.n,.string d.s,.slice pv d.len cv] 72)).heap.size=w2.heap.size+1 from by simp] at hn
       exact World.news_of_block hn
      case c2=>simp [Value.oneCell']
      case c3=>unfold maxLen;omega
      case c4=>omega
      intro gg cap3 w3 hown3 hgrow hat hlt3
      obtain ⟨k1,k2,k3⟩:=jjo rfl HW.out.1 hsz2 HCU2.out hgrow hlB
      have HN:Hid (jjm w1 w3 w1.heap.size (.slice pt ts.length ct) ts s.size m (.slice (some ⟨gg,0,none⟩) (acc.length+1) cap3) (jew s.size ts)):=by
       obtain ⟨d1,d2,d3⟩:=HD.out
       have hb1:=newb w2 (.cells #[.int .i64 d.op,.int .i64 d.at_,.int .i64 d.n,.string d.s,.slice pv d.len cv] 72)
       have hss:(w2.alloc (.cells #[.int .i64 d.op,.int .i64 d.at_,.int .i64 d.n,.string d.s,.slice pv d.len cv] 72)).heap.size=w2.heap.size+1:=by simp
       have a1:=HW.out.2.same (w':=w2.alloc (.cells #[.int .i64 d.op,.int .i64 d.at_,.int .i64 d.n,.string d.s,.slice pv d.len cv] 72)) (fun x _ hx=>hb1.block x hx)
       have a2:=d1.same (w':=w2.alloc (.cells #[.int .i64 d.op,.int .i64 d.at_,.int .i64 d.n,.string d.s,.slice pv d.len cv] 72)) _ (fun x hx=>hb1.block x (d1.there _ x hx))
       have a3:=a1.app a2 d2 (fun x hx h=>by have h1:=HACC.out.lt x h;have h2:=d3 x hx;omega) (fun x hx h=>by have h1:=(HACC.out.own.lt x h).2;have h2:=d3 x hx;omega) (fun x hx=>by have h2:=d3 x hx;omega) (by rw [hss];omega) hown3 hgrow (by rw [hss];exact hat)
       have hJ:=HJ.out
       have hI:=HI.out
       exact ⟨k1,k2,rfl,.inl ⟨acc++[d],i',m-1,by omega,k3,⟨_,_,a3⟩,hI.1,by rw [show m-1+1=m from by omega];exact HK.out,by omega,by rw [lla,List.length_singleton];omega⟩⟩
      clear k1 k2 k3 hown3 hgrow hat hlt3 HW HK HCU2 HD HI
      go_wp2_with fail
      go_roundg m
      case measure=>omega
      case rel=>exact HN.out
   ·have c1:=hcu.c1;have c3:=hcu.c3
    have HQ:Hid (res=.bad p):=HP.out.trans (by rw [hkp])
    have HBW:Hid (Below w.heap.size w wr):=HB1.out.trans (HBL.out.mono HB1.out.size)
    have hp:decide (p<0)=false:=dqf (by omega)
    have hp2:¬ p<0:=by omega
    clear hcu HP hkp
    go_wp2_with fail
    go_quiet (fail)
    all_goals
     go_wp2_with fail
     go_ret2
     rw [HQ.out]
     exact ⟨HBW.out.trans ⟨rfl,rfl,rfl,nlr _,fun _ _=>rfl⟩,_,_,rfl⟩
 ·have HQ:Hid (jeR s=.bad (toks s).2):=by
   show _=_
   unfold jeR;rw [if_neg hb]
  have hz:0≤(toks s).2:=by rcases (jda s).2.2 with h|h <;> omega
  generalize (toks s).2=z at *
  generalize (toks s).1=ts at *
  generalize jeR s=res at *
  clear hb
  go_enter Tryz.func58,Tryz.ntmps58
  go_wp2_with fail
  refine (HTK.out _).mono ?_
  rintro e w1 ⟨lv,rfl,hb1,-⟩
  have HX:Hid (Below w.heap.size w w1):=(newb w _).trans (hb1.mono (by simp))
  clear hb1
  go_wp2_with fail
  go_ret2
  rw [HQ.out]
  exact ⟨HX.out,_,_,rfl⟩
theorem jcx {P:Program} {ops:Array Oper} {o:Oper} {a:Act} {w:World} {K:Act→World→Prop} {Q:Exit→Act→World→Prop} {E:Prop} (hgd:o.guard=none) (f:FuncId) (x:Operand) (t:TypeId)
  (ho:o.op=.call {callee:=.value (.func f),args:=#[x],argTypes:=#[t]}) (hcf:∀ (vs:Array Value) (w:World),(callFunc f vs).run P w=.ok (.enter f vs) w) (vx:Value) (hx:a.eval x=vx) (R:Ending→World→Prop) (hc:Calls P f #[vx] w R)
  (h:∀ e w',R e w'→∃ v,e=.returned v∧K (a.put o.dst v) w'):if Region.wanted o (yielded ops a.tmps)=true then Oper.wp P o a w K Q else E:=by
 have hw:Region.wanted o (yielded ops a.tmps)=true:=by simp [Region.wanted,hgd]
 rw [if_pos hw]
 have hrun:(execOp a.eval o).run P w=.ok (.enter f #[vx]) w:=by
  have e:execOp a.eval o=callFunc f (#[]++#[x].map a.eval++#[]):=by
   obtain ⟨dst,op,ty,pos,after,guard⟩:=o
   simp only at ho
   subst ho
   rfl
  rw [e,hcf]
  simp [hx]
 unfold Oper.wp
 rw [hrun,Oper.upon_enter]
 refine hc.mono fun e w' hr=>?_
 obtain ⟨v,rfl,hk⟩:=h e w' hr
 exact hk
theorem ja0 {P:Program} {w:World} {ops:Array Oper} {o:Oper} {a:Act} {K:Act→World→Prop} {Q:Exit→Act→World→Prop} {E:Prop} (hgd:o.guard=none) (s x:Operand) (t:TypeId)
  (ho:o.op=.call {callee:=.builtin .append,args:=#[s,x],argTypes:=#[t,t]})
  (base:Nat) (e:TypeId) (i:TypeInfo) (z:Value) (size bytes:Nat) (ht:P.underlying t=some (.slice e)) (hi:P.info? e=some i) (hz:i.zero=some z)
  (hsize:i.size=size) (hby:i.bytes=bytes) (hzs:z.cells.size=size) (hsz:0<size)
  (v:Value) (n:Nat) (xs:List Value) (hs:a.eval s=v) (hown:w.ownsRow base e size v n xs)
  (ao:Option Addr) (m c:Nat) (news:List Value) (hx:a.eval x=.slice ao m c) (hl:news.length=m*size) (hnone:ao=none→m=0∧c=0) (hnews:∀ ad,ao=some ad→∀ j u,news[j]? = some u→w.cell? (ad.add j)=some u) (h1:∀ u∈news,u.oneCell'=true)
  (h63:n+m≤maxLen) (hbytes:(n+m)*bytes≤140737488355328) (hbase:base≤w.heap.size)
  (h:∀ v' w',Hid (w'.ownsRow base e size v' (n+m) (xs++news))→Hid (w.grownBy w' v.ownBlock)→K (a.put o.dst v') w') :
  if Region.wanted o (yielded ops a.tmps)=true then Oper.wp P o a w K Q else E:=by
 have hw:Region.wanted o (yielded ops a.tmps)=true:=by simp [Region.wanted,hgd]
 rw [if_pos hw]
 have hr:∃ v' w',(Builtin.append_ #[t,t] o.type #[v,.slice ao m c]).run P w=.ok v' w'∧w'.ownsRow base e size v' (n+m) (xs++news)∧w.grownBy w' v.ownBlock:=by
  cases ao with
  | some ad =>
   obtain ⟨v',w',hr,h2,h3,_⟩:=run_append_own_at (P:=P) w base t o.type e i z size bytes ht hi hz hsize hby hzs hsz v n xs hown ad m c news hl (hnews ad rfl) h1 h63 hbytes hbase
   exact ⟨v',w',hr,h2,h3⟩
  | none =>
   obtain ⟨rfl,rfl⟩:=hnone rfl
   have hn:news=[]:=List.eq_nil_of_length_eq_zero (by simpa using hl)
   subst hn
   exact ⟨v,w,run_append_owned_none (P:=P) (w:=w) base t o.type e i size ht hi v n xs hown,by simpa using hown,World.grownBy.refl w v.ownBlock⟩
 obtain ⟨v',w',hr,h2,h3⟩:=hr
 unfold Oper.wp execOp
 simp only [ho,resolve,invoke,builtin,Sem.run_bind,Sem.run_pure,Result.andThen_ok,List.map_toArray,List.map_cons,List.map_nil,hs,hx,hr]
 exact h v' w' h2 h3
theorem ja8 {P:Program} {ops:Array Oper} {o:Oper} {a:Act} {w:World} {K:Act→World→Prop} {Q:Exit→Act→World→Prop} {E:Prop} (hgd:o.guard=none) (f:FuncId) (x y:Operand) (t u:TypeId)
  (ho:o.op=.call {callee:=.value (.func f),args:=#[x,y],argTypes:=#[t,u]}) (hcf:∀ (vs:Array Value) (w:World),(callFunc f vs).run P w=.ok (.enter f vs) w) (vx vy:Value) (hx:a.eval x=vx) (hy:a.eval y=vy) (R:Ending→World→Prop) (hc:Calls P f #[vx,vy] w R)
  (h:∀ e w',R e w'→∃ v,e=.returned v∧K (a.put o.dst v) w'):if Region.wanted o (yielded ops a.tmps)=true then Oper.wp P o a w K Q else E:=by
 have hw:Region.wanted o (yielded ops a.tmps)=true:=by simp [Region.wanted,hgd]
 rw [if_pos hw]
 have hrun:(execOp a.eval o).run P w=.ok (.enter f #[vx,vy]) w:=by
  have e:execOp a.eval o=callFunc f (#[]++#[x,y].map a.eval++#[]):=by
   obtain ⟨dst,op,ty,pos,after,guard⟩:=o
   simp only at ho
   subst ho
   rfl
  rw [e,hcf]
  simp [hx,hy]
 unfold Oper.wp
 rw [hrun,Oper.upon_enter]
 refine hc.mono fun e w' hr=>?_
 obtain ⟨v,rfl,hk⟩:=h e w' hr
 exact hk
end Go.Proofs.YtjmlfacbcfbhdaaGreatDoor
