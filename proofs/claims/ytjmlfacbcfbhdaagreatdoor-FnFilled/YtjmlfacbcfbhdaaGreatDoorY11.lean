/- Drawn data: one field put anew, one kid appended. No conditions. -/
import Derived.Test.YtjmlfacbcfbhdaaGreatDoorYA
import Derived.Test.YtjmlfacbcfbhdaaGreatDoorY0
import Derived.Test.YtjmlfacbcfbhdaaGreatDoorY10
import Derived.Test.YtjmlfacbcfbhdaaGreatDoorY1
import Derived.Test.YtjmlfacbcfbhdaaGreatDoorY2
import Derived.Deep.AppendLies
import Derived.Deep.Cut
set_option maxRecDepth 100000
set_option maxHeartbeats 8000000
namespace Go.Proofs.YtjmlfacbcfbhdaaGreatDoor
open Go.ChangeShapes Go.WideShapes Go.ChangeAt Go.RowKit
def jlL (set:List Int) (t:D):Prop:=∀ (w:World) (v sv:Value),t.In w v→Rd w sv set→t.weight≤1048576→Calls Tryz.prog 33 #[.agg #[.int .i64 t.op,.int .i64 t.at_,.int .i64 t.n,.string t.s,v],sv] w fun e w' =>
 ∃ su u S,e=.returned (.agg #[.int .i64 t.op,.int .i64 t.at_,.int .i64 t.n,.string t.s,su,u])∧Below w.heap.size w w'∧XOwn w' (stxD set t) su u S∧S.Nodup∧∀ x∈S,w.heap.size≤x
theorem jhh (vs:Array Value) (w:World):(callFunc 33 vs).run Tryz.prog w=.ok (.enter 33 vs) w:=by kernel_rfl
theorem jna (set:List Int) (d:D) (su v:Value):jbP (stxD set d,su,v)=[.int .i64 d.op,.int .i64 d.at_,.int .i64 d.n,.string d.s,su,v]:=by cases d <;> rfl
theorem jfR (set:List Int) (hl:set.length≤4194304) (t:D):jlL set t:=by
 induction t with
 | no=>intro w v sv h;exact h.elim
 | mk op a n s len kid ih =>
  intro w v sv hin hrd hwt
  obtain ⟨i0,hi0,hz0,hz1,hz2⟩:=info_parts jcI
  obtain ⟨iI,hiI,hzI0,hzI1,hzI2⟩:=info_parts jca
  have hsl:Sl w len kid v:=hin.sl
  have HPL:Hid (s.size≤maxLen∧-9223372036854775808≤n∧n≤9223372036854775807):=⟨hin.size,hin.num⟩
  obtain ⟨p,cap,rfl,-,hat⟩:=hsl.at
  obtain ⟨ps,cps,hsv,-⟩:=hrd.shape
  subst hsv
  have hwe:(D.mk op a n s len kid).weight=s.size+(len+jao (fun i=>(kid i).weight) len):=rfl
  have hlen:len≤1048576:=by omega
  have HRD:Hid (Rd w (.slice ps set.length cps) set):=hrd
  have IH:Hid (∀ i,i<len→∀ (w:World) (v sv:Value),(kid i).In w v→Rd w sv set→Calls Tryz.prog 33 #[.agg #[.int .i64 (kid i).op,.int .i64 (kid i).at_,.int .i64 (kid i).n,.string (kid i).s,v],sv] w fun e w' =>
   ∃ su u S,e=.returned (.agg #[.int .i64 (kid i).op,.int .i64 (kid i).at_,.int .i64 (kid i).n,.string (kid i).s,su,u])∧Below w.heap.size w w'∧XOwn w' (stxD set (kid i)) su u S∧S.Nodup∧∀ x∈S,w.heap.size≤x):=fun i hi w v sv h h2=>ih i w v sv h h2 (by
    have h1:=jbU (fun i=>(kid i).weight) i len hi
    omega)
  have HAT:Hid (∀ i,i<len→∃ b o u,p=some ⟨b,o,none⟩∧Head w b (o+i*5) (kid i) u∧(kid i).In w u):=hat
  obtain ⟨Y,hY⟩:∃ Y,Y=(if op=2 then set else []):=⟨_,rfl⟩
  have HY:Hid (stxD set (.mk op a n s len kid)=.mk op a n s Y len (fun i=>stxD set (kid i))):=by show _=_;rw [hY];rfl
  have HYL:Hid (Y.length≤maxLen):=by
   show _≤_
   rw [hY]
   by_cases h:op=2
   ·rw [if_pos h];unfold maxLen;omega
   ·rw [if_neg h];exact nzl _
  have HST:=jnb w (.cells #[.int .i64 op,.int .i64 a,.int .i64 n,.string s,.slice p len cap] 72) op a n s (fun i=>stxD set (kid i))
  have HS0:Hid (XLoop [] w (((w.alloc (.cells #[.int .i64 op,.int .i64 a,.int .i64 n,.string s,.slice p len cap] 72)).alloc (.cells #[.int .i64 0,.int .i64 0,.int .i64 0,.string ⟨#[]⟩,.slice none 0 0,.slice none 0 0] 27)).alloc (.cells #[.int .i64 op,.int .i64 a,.int .i64 n,.string s,.slice none 0 0,.slice none 0 0] 27)) (w.heap.size+3) w.heap.size (w.heap.size+1) (w.heap.size+1+1) (.cells #[.int .i64 op,.int .i64 a,.int .i64 n,.string s,.slice p len cap] 72) op a n s [] (.slice none 0 0) (fun i=>stxD set (kid i)) 0 (.slice none 0 0) [] []):=HST
  simp only [D.op,D.at_,D.n,D.s]
  rw [HY.out]
  clear hin hsl ih hat hwe hwt hrd HST
  have HO1:Hid (Own ((((w.alloc (.cells #[.int .i64 op,.int .i64 a,.int .i64 n,.string s,.slice p len cap] 72)).alloc (.cells #[.int .i64 0,.int .i64 0,.int .i64 0,.string ⟨#[]⟩,.slice none 0 0,.slice none 0 0] 27)).alloc (.cells #[.int .i64 op,.int .i64 a,.int .i64 n,.string s,.slice none 0 0,.slice none 0 0] 27)).alloc (.cells #[] 3)) (w.heap.size+3) (.slice (some ⟨w.heap.size+1+1+1,0,none⟩) 0 0) []):=by
   have h:=jeu (((w.alloc (.cells #[.int .i64 op,.int .i64 a,.int .i64 n,.string s,.slice p len cap] 72)).alloc (.cells #[.int .i64 0,.int .i64 0,.int .i64 0,.string ⟨#[]⟩,.slice none 0 0,.slice none 0 0] 27)).alloc (.cells #[.int .i64 op,.int .i64 a,.int .i64 n,.string s,.slice none 0 0,.slice none 0 0] 27)) (w.heap.size+3) (by simp)
   simp only [World.size_alloc] at h
   exact h
  have hb4:Below w.heap.size w ((((w.alloc (.cells #[.int .i64 op,.int .i64 a,.int .i64 n,.string s,.slice p len cap] 72)).alloc (.cells #[.int .i64 0,.int .i64 0,.int .i64 0,.string ⟨#[]⟩,.slice none 0 0,.slice none 0 0] 27)).alloc (.cells #[.int .i64 op,.int .i64 a,.int .i64 n,.string s,.slice none 0 0,.slice none 0 0] 27)).alloc (.cells #[] 3)):=HS0.out.bel.toBelow.trans ((newx _ _).mono HS0.out.bel.size)
  have hs:=(HRD.out.below hb4).src
  have HS:Hid ((ps=none→set.length=0∧cps=0)∧∀ ad,ps=some ad→∀ j u,(set.map (Value.int .i64))[j]? = some u→((((w.alloc (.cells #[.int .i64 op,.int .i64 a,.int .i64 n,.string s,.slice p len cap] 72)).alloc (.cells #[.int .i64 0,.int .i64 0,.int .i64 0,.string ⟨#[]⟩,.slice none 0 0,.slice none 0 0] 27)).alloc (.cells #[.int .i64 op,.int .i64 a,.int .i64 n,.string s,.slice none 0 0,.slice none 0 0] 27)).alloc (.cells #[] 3)).cell? (ad.add j)=some u):=hs
  clear hs hb4
  go_enter Tryz.func33,Tryz.ntmps33
  go_upto_if 18 with fail
  go_cut [] from 7 (fun wx=>∃ (B:Nat) (sv:Value),XLoop [] w wx B w.heap.size (w.heap.size+1) (w.heap.size+1+1) (.cells #[.int .i64 op,.int .i64 a,.int .i64 n,.string s,.slice p len cap] 72) op a n s Y sv (fun i=>stxD set (kid i)) 0 (.slice none 0 0) [] [])
  case first =>
   by_cases h2:op=2
   ·have HYY:Hid (Y=set):=hY.trans (if_pos h2)
    clear hY
    subst h2
    go_wp2_with (at_builtin;refine jaj _ rfl (.tmp 19) (.tmp 20) 24 rfl (w.heap.size+3) 3 iI (.int .i64 0) 1 8 Tryz.underlying24 hiI hzI0 hzI1 hzI2 rfl (by decide) (.slice (some ⟨w.heap.size+1+1+1,0,none⟩) 0 0) 0 [] rfl HO1.out ps set.length cps (set.map (Value.int .i64)) rfl (by simp) HS.out.1 HS.out.2 (jaN set) (by unfold maxLen;omega) (by omega) (by simp) ?_;intro v' w2 hown2 hg2;obtain ⟨hX2,hO2,⟨pv,cv,hv⟩⟩:=jmZ HS0.out (by simp) rfl hown2.out hg2.out;subst hv;have HX2:Hid (XLoop [] w (w2.setCell ⟨w.heap.size+1+1,4,none⟩ (.slice pv set.length cv)) w2.heap.size w.heap.size (w.heap.size+1) (w.heap.size+1+1) (.cells #[.int .i64 2,.int .i64 a,.int .i64 n,.string s,.slice p len cap] 72) 2 a n s set (.slice pv set.length cv) (fun i=>stxD set (kid i)) 0 (.slice none 0 0) [] []):=hX2;have x4:=hO2.cells.2.2.2.2.1;have xf:=hO2.fr 4;clear hX2 hO2 hown2 hg2)
    go_meet
    exact ⟨_,_,by rw [HYY.out];exact HX2.out⟩
   ·have HYY:Hid (Y=[]):=hY.trans (if_neg h2)
    have d2:(op==2)=false:=by simpa using h2
    clear hY h2
    go_wp2_with fail
    go_meet
    exact ⟨_,_,by rw [HYY.out];exact HS0.out⟩
  case rest =>
   obtain ⟨B,sv,hL0⟩:=hcut
   have H00:Hid (XLoop [] w wc B w.heap.size (w.heap.size+1) (w.heap.size+1+1) (.cells #[.int .i64 op,.int .i64 a,.int .i64 n,.string s,.slice p len cap] 72) op a n s Y sv (fun i=>stxD set (kid i)) 0 (.slice none 0 0) [] []):=hL0
   clear hL0 HO1 HS HS0 hY
   obtain ⟨C,hC⟩:∃ C,C=w.heap.size:=⟨_,rfl⟩
   obtain ⟨R,hR⟩:∃ R,R=w.heap.size+1:=⟨_,rfl⟩
   obtain ⟨O,hO⟩:∃ O,O=w.heap.size+1+1:=⟨_,rfl⟩
   have HH0:Hid (XLoop [] w wc B C R O (.cells #[.int .i64 op,.int .i64 a,.int .i64 n,.string s,.slice p len cap] 72) op a n s Y sv (fun i=>stxD set (kid i)) 0 (.slice none 0 0) [] []):=by
    show XLoop _ _ _ _ _ _ _ _ _ _ _ _ _ _ _ _ _ _ _
    rw [hO,hR,hC];exact H00.out
   clear H00
   rw [←hO,←hR,←hC]
   have hCO:C≠O:=by omega
   have hRO:R≠O:=by omega
   clear hC hR hO
   go_wp2_with fail
   go_loopw [6] (fun v4 wr=>∃ (k:Nat) (lv:Value) (la:List XR) (SS:List (List Nat)),v4=.int .i64 k∧k≤len∧XLoop [] w wr B C R O (.cells #[.int .i64 op,.int .i64 a,.int .i64 n,.string s,.slice p len cap] 72) op a n s Y sv (fun i=>stxD set (kid i)) k lv la SS) (fun v4 _=>len-(intOf v4).toNat)
   case atStart=>exact ⟨0,_,_,_,rfl,nzl _,HH0.out⟩
   case round =>
    obtain ⟨k,lv,la,SS,rfl,hk,hL⟩:=hrel
    have HL:Hid (XLoop [] w wr B C R O (.cells #[.int .i64 op,.int .i64 a,.int .i64 n,.string s,.slice p len cap] 72) op a n s Y sv (fun i=>stxD set (kid i)) k lv la SS):=hL
    have hA:Five wr C op a n s (.slice p len cap) 72:=hL.arg
    have a4:=hA.cells.2.2.2.2
    obtain ⟨o0,o1,o2,o3,o4,o5⟩:=hL.out.cells
    clear hL HH0
    by_cases hkl:(k:Int)<len
    ·obtain ⟨b,o,u,hp,hd,hinu⟩:=HAT.out k (by omega)
     subst hp
     obtain ⟨c0,c1,c2,c3,c4⟩:=hd.below HL.out.bel.toBelow
     have HIN:Hid ((kid k).In wr.drew u∧Rd wr.drew (.slice ps set.length cps) set):=⟨(hinu.below HL.out.bel.toBelow).below (brf _ wr).drew,(HRD.out.below HL.out.bel.toBelow).below (brf _ wr).drew⟩
     have HKL:Hid (k<len):=by show k<len;omega
     have HOWN:Hid (wr.ownsRow 0 27 6 lv k (jau la)):=HL.out.rows.own
     have hOl:O<wr.heap.size:=HL.out.out.lt
     have hCl:C<wr.heap.size:=hA.lt
     have hbl:b<wr.heap.size:=wbl wr _ c0
     clear hd hinu hA
     have hki0:(0:Int)≤(k:Int):=by omega
     have HCF:Hid (∀ (vs:Array Value) (w:World),(callFunc 33 vs).run Tryz.prog w=.ok (.enter 33 vs) w):=fun vs w=>jhh vs w
     go_wp2_with fail
     go_region_law
      (first
       | (refine ja8 rfl 33 (.tmp 36) (.tmp 37) 72 24 rfl HCF.out (.agg #[.int .i64 (kid k).op,.int .i64 (kid k).at_,.int .i64 (kid k).n,.string (kid k).s,u]) (.slice ps set.length cps) rfl rfl _ (IH.out k HKL.out wr.drew u _ HIN.out.1 HIN.out.2) ?_;rintro e w1 ⟨su',v',T,rfl,hb1,hd1,hn1,hT1⟩;refine ⟨_,rfl,?_⟩;have HC1:Hid (Below wr.heap.size wr w1∧XOwn w1 (stxD set (kid k)) su' v' T∧T.Nodup∧∀ x∈T,wr.heap.size≤x):=⟨⟨hb1.os,hb1.tape,hb1.output,hb1.size,hb1.block⟩,hd1,hn1,hT1⟩;obtain ⟨pv,cv,hv'⟩:=hd1.at0.xs.shape;obtain ⟨pw,cw,hw'⟩:=hd1.at0.sets.shape;subst hv' hw';have z4:w1.cell? ⟨O,5,none⟩=some lv:=(HC1.out.1.cell (by exact hOl)).trans o5;have z5:∀ ob,(w1.alloc ob).cell? ⟨O,5,none⟩=some lv:=fun ob=>((newx w1 ob).cell (by exact nll hOl HC1.out.1.size)).trans z4;have y4:w1.cell? ⟨C,4,none⟩=some (.slice (some ⟨b,o,none⟩) len cap):=(HC1.out.1.cell (by exact hCl)).trans a4;have HO1:Hid (w1.ownsRow 0 27 6 lv k (jau la)):=jaY HOWN.out HC1.out.1;clear hb1 hd1 hn1 hT1)
       | (refine step_append_lies _ (by rfl) _ _ _ (by rfl) 0 27 i0 _ 6 88 Tryz.underlying25 hi0 hz0 hz1 hz2 rfl (by omega) lv k (jau la) (by rfl) (HO1.out.alloc _) ⟨w1.heap.size,0,none⟩ 1 1 [.int .i64 (kid k).op,.int .i64 (kid k).at_,.int .i64 (kid k).n,.string (kid k).s,.slice pw (stxD set (kid k)).set.length cw,.slice pv (stxD set (kid k)).len cv] (by rfl) (by rfl) (World.news_of_block (cs:=#[.int .i64 (kid k).op,.int .i64 (kid k).at_,.int .i64 (kid k).n,.string (kid k).s,.slice pw (stxD set (kid k)).set.length cw,.slice pv (stxD set (kid k)).len cv]) (t:=27) (fr:=(0,0)) (han w1 _)) (by simp [Value.oneCell']) (by omega) (by unfold maxLen;omega) (by omega) (Nat.zero_le _) (w1.heap.size+1) (by simp) ?_;intro gg cap3 w3 hown3 hgrow hat hlt3;obtain ⟨hO3,hnx⟩:=HL.out.next (Fr.below HC1.out.1 []) HC1.out.2.1 HC1.out.2.2.1 HC1.out.2.2.2 (by rw [jna];exact hown3) hgrow hat;have HNX:Hid (XLoop [] w (w3.setCell ⟨O,5,none⟩ (.slice (some ⟨gg,0,none⟩) (k+1) cap3)) B C R O (.cells #[.int .i64 op,.int .i64 a,.int .i64 n,.string s,.slice (some ⟨b,o,none⟩) len cap] 72) op a n s Y sv (fun i=>stxD set (kid i)) (k+1) (.slice (some ⟨gg,0,none⟩) (k+1) cap3) (la++[(stxD set (kid k),.slice pw (stxD set (kid k)).set.length cw,.slice pv (stxD set (kid k)).len cv)]) (SS++[T])):=hnx;have x4:w3.cell? ⟨O,5,none⟩=some lv:=(World.cell?_of_block (a:=⟨O,5,none⟩) hO3).trans o5;have xf:w3.frozen? ⟨O,5,none⟩=false:=(World.frozen?_of_block (a:=⟨O,5,none⟩) hO3).trans (HL.out.out.fr 5);clear hO3 hnx hown3 hgrow hat hlt3))
     all_goals
      go_wp2_with fail
      go_roundw
      case rel=>exact ⟨k+1,_,_,_,by go_num,by omega,HNX.out⟩
      case measure=>simp [intOf];omega
    ·obtain rfl:k=len:=by omega
     obtain ⟨r0,r1,r2,r3,r4,r5⟩:=HL.out.res.cells
     have rf:=HL.out.res.fr
     obtain ⟨hfr,S,hX,hSn,hSg⟩:=HL.out.done ⟨HPL.out.1,HPL.out.2,HYL.out⟩
     obtain ⟨pv,cv,hlv⟩:=hX.at0.xs.shape
     obtain ⟨pw,cw,hsv⟩:=hX.at0.sets.shape
     simp only [X.len,X.set] at hlv hsv
     subst hlv hsv
     have HS:Hid (Fr [] w (put6 wr R op a n s (.slice pw Y.length cw) (.slice pv k cv))∧XOwn (put6 wr R op a n s (.slice pw Y.length cw) (.slice pv k cv)) (.mk op a n s Y k (fun i=>stxD set (kid i))) (.slice pw Y.length cw) (.slice pv k cv) S∧S.Nodup∧∀ x∈S,w.heap.size≤x):=⟨hfr,hX,hSn,hSg⟩
     clear hfr hX hSn hSg HL HAT IH
     generalize Y.length=yl at *
     go_wp2_with fail
     refine bpr (v:=.agg #[.int .i64 op,.int .i64 a,.int .i64 n,.string s,.slice pw yl cw,.slice pv k cv]) (by rw [jae (p:=4) (ty:=27) (by kernel_rfl)];simp [go_sem,r0,r1,r2,r3,r4,r5]) rfl ⟨_,_,rfl,HS.out.1.toBelow,S,HS.out.2.1,HS.out.2.2.1,HS.out.2.2.2⟩
structure Row (w:World) (len:Nat) (kid:Nat→D) (v:Value) (S:List Nat) (g cap:Nat) (l:List (D×Value)) (SS:List (List Nat)):Prop where
 val:v=.slice (some ⟨g,0,none⟩) len cap
 own:w.ownsRow 0 72 5 (.slice (some ⟨g,0,none⟩) len cap) len (jaF l)
 ll:l.length=len
 sl:SS.length=len
 ks:Ks kid l
 eq:S=g::SS.flatten
 each:∀ i,i<len→∃ u T,l[i]? = some (kid i,u)∧SS[i]? = some T∧DOwn w (kid i) u T
theorem Row.sown {w:World} {len:Nat} {kid:Nat→D} {v:Value} {S:List Nat} {g cap:Nat} {l:List (D×Value)} {SS:List (List Nat)} (h:Row w len kid v S g cap l SS):SOwn w len kid v S :=
 .inr ⟨g,cap,l,SS,h.val,h.own,h.ll,h.sl,h.ks,h.eq,h.each⟩
theorem SOwn.row {w:World} {len:Nat} {kid:Nat→D} {v:Value} {S:List Nat} (h:SOwn w len kid v S) (h0:0<len):∃ g cap l SS,Row w len kid v S g cap l SS:=by
 rcases h with ⟨h,_⟩|⟨g,cap,l,SS,h1,h2,h3,h4,h5,h6,h7⟩
 ·omega
 ·exact ⟨g,cap,l,SS,h1,h2,h3,h4,h5,h6,h7⟩
def setK (kid:Nat→D) (i:Nat) (d:D):Nat→D:=fun k=>if k=i then d else kid k
theorem ji6 (kid:Nat→D) (i:Nat) (d:D):setK kid i d i=d:=if_pos rfl
theorem jhe (kid:Nat→D) {i k:Nat} (d:D) (h:k≠i):setK kid i d k=kid k:=if_neg h
theorem jgy (f:D→Nat) (kid:Nat→D) (i:Nat) (d:D):∀ len,i<len→jao (fun k=>f (setK kid i d k)) len+f (kid i)=jao (fun k=>f (kid k)) len+f d:=by
 have low:∀ len,len≤i→jao (fun k=>f (setK kid i d k)) len=jao (fun k=>f (kid k)) len:=by
  intro len
  induction len with
  | zero=>intro _;rfl
  | succ n ih =>
   intro h
   simp only [jao]
   rw [ih (by omega),jhe kid d (by omega)]
 intro len
 induction len with
 | zero=>intro h;omega
 | succ n ih =>
  intro h
  simp only [jao]
  by_cases hn:n=i
  ·subst hn
   rw [low n (nlr _),ji6]
   omega
  ·rw [jhe kid d hn]
   have:=ih (by omega)
   omega
theorem jg6 {SS:List (List Nat)} {i:Nat} {T':List Nat} {b:Nat} (h:b∈(SS.set i T').flatten):b∈SS.flatten∨b∈T':=by
 obtain ⟨U,hU,hb⟩:=List.mem_flatten.1 h
 rcases List.mem_or_eq_of_mem_set hU with h1|h1
 ·exact .inl (List.mem_flatten.2 ⟨U,h1,hb⟩)
 ·exact .inr (h1 ▸ hb)
theorem jmA:∀ (SS:List (List Nat)) (i:Nat) (T T':List Nat),SS.flatten.Nodup→SS[i]? = some T→T'.Nodup→(∀ b∈T',b∈T∨b ∉ SS.flatten)→(SS.set i T').flatten.Nodup:=by
 intro SS
 induction SS with
 | nil=>intro i T T' _ h _ _;simp at h
 | cons U SS ih =>
  intro i T T' hn hi hT hb
  rw [List.flatten_cons,List.nodup_append] at hn
  obtain ⟨n1,n2,n3⟩:=hn
  cases i with
  | zero =>
   simp only [List.getElem?_cons_zero,Option.some.injEq] at hi
   subst hi
   rw [List.set_cons_zero,List.flatten_cons,List.nodup_append]
   refine ⟨hT,n2,fun a ha b hb' e=>?_⟩
   subst e
   rcases hb a ha with h|h
   ·exact n3 a h a hb' rfl
   ·exact h (by rw [List.flatten_cons,lma];exact .inr hb')
  | succ i =>
   simp only [List.getElem?_cons_succ] at hi
   rw [List.set_cons_succ,List.flatten_cons,List.nodup_append]
   refine ⟨n1,ih i T T' n2 hi hT (fun b h=>?_),fun a ha b hb' e=>?_⟩
   ·rcases hb b h with h1|h1
    ·exact .inl h1
    ·exact .inr (fun h2=>h1 (by rw [List.flatten_cons,lma];exact .inr h2))
   ·subst e
    rcases jg6 hb' with h|h
    ·exact n3 a ha a h rfl
    ·rcases hb a h with h1|h1
     ·exact n3 a ha a (List.mem_flatten.2 ⟨T,List.mem_of_getElem? hi,h1⟩) rfl
     ·exact h1 (by rw [List.flatten_cons,lma];exact .inl ha)
theorem jix:∀ (SS:List (List Nat)) (i k:Nat) (T U:List Nat),SS.flatten.Nodup→i≠k→SS[i]? = some T→SS[k]? = some U→∀ b∈T,b ∉ U:=by
 intro SS
 induction SS with
 | nil=>intro i k T U _ _ h _;simp at h
 | cons W SS ih =>
  intro i k T U hn hik hi hk b hT hU
  rw [List.flatten_cons,List.nodup_append] at hn
  obtain ⟨n1,n2,n3⟩:=hn
  cases i with
  | zero =>
   cases k with
   | zero=>exact hik rfl
   | succ k =>
    simp only [List.getElem?_cons_zero,Option.some.injEq] at hi
    simp only [List.getElem?_cons_succ] at hk
    subst hi
    exact n3 b hT b (jaQ hk hU) rfl
  | succ i =>
   cases k with
   | zero =>
    simp only [List.getElem?_cons_zero,Option.some.injEq] at hk
    simp only [List.getElem?_cons_succ] at hi
    subst hk
    exact n3 b hU b (jaQ hi hT) rfl
   | succ k =>
    simp only [List.getElem?_cons_succ] at hi hk
    exact ih i k T U n2 (by omega) hi hk b hT hU
theorem Row.set {w w':World} {len:Nat} {kid:Nat→D} {v:Value} {S:List Nat} {g cap:Nat} {l:List (D×Value)} {SS:List (List Nat)} (h:Row w len kid v S g cap l SS) (hn:S.Nodup) {i:Nat} (hi:i<len) {T T':List Nat} (hT:SS[i]? = some T) {d':D} {u':Value}
  (hown:w'.ownsRow 0 72 5 (.slice (some ⟨g,0,none⟩) len cap) len (jaF (l.set i (d',u')))) (hd:DOwn w' d' u' T') (hT':T'.Nodup) (hnew:∀ b∈T',b∈T∨b ∉ S) (hk:∀ b∈S,b≠g→b ∉ T→w'.heap[b]? = w.heap[b]?) :
  Row w' len (setK kid i d') v (g::(SS.set i T').flatten) g cap (l.set i (d',u')) (SS.set i T')∧(g::(SS.set i T').flatten).Nodup:=by
 have hn':=hn
 rw [h.eq,List.nodup_cons] at hn'
 refine ⟨⟨h.val,hown,by rw [List.length_set];exact h.ll,by rw [List.length_set];exact h.sl,?_,rfl,?_⟩,?_⟩
 ·intro k q hq
  by_cases hki:k=i
  ·subst hki
   rw [List.getElem?_set_self (by rw [h.ll];exact hi)] at hq
   injection hq with hq
   rw [←hq,ji6]
  ·rw [List.getElem?_set_ne (by omega)] at hq
   rw [jhe kid d' hki]
   exact h.ks k q hq
 ·intro k hkl
  by_cases hki:k=i
  ·subst hki
   rw [ji6]
   exact ⟨u',T',List.getElem?_set_self (by rw [h.ll];exact hi),List.getElem?_set_self (by rw [h.sl];exact hi),hd⟩
  ·obtain ⟨u,U,k1,k2,k3⟩:=h.each k hkl
   rw [jhe kid d' hki]
   refine ⟨u,U,by rw [List.getElem?_set_ne (by omega)];exact k1,by rw [List.getElem?_set_ne (by omega)];exact k2,k3.same _ (fun b hb=>?_)⟩
   have hbS:b∈SS.flatten:=jaQ k2 hb
   refine hk b (by rw [h.eq];exact List.mem_cons_of_mem _ hbS) (fun e=>hn'.1 (e ▸ hbS)) (fun hbT=>?_)
   exact jix SS i k T U hn'.2 (by omega) hT k2 b hbT hb
 ·rw [List.nodup_cons]
  refine ⟨fun hg=>?_,jmA SS i T T' hn'.2 hT hT' (fun b hb=>?_)⟩
  ·rcases jg6 hg with h1|h1
   ·exact hn'.1 h1
   ·rcases hnew g h1 with h2|h2
    ·exact hn'.1 (jaQ hT h2)
    ·exact h2 (by rw [h.eq];simp)
  ·rcases hnew b hb with h1|h1
   ·exact .inl h1
   ·exact .inr (fun h2=>h1 (by rw [h.eq];exact List.mem_cons_of_mem _ h2))
inductive NodeAt (w:World):D→Value→List Nat→Nat→Nat→D→Value→List Nat→Prop where
 | here {t:D} {v:Value} {S:List Nat} {g cap:Nat} {l:List (D×Value)} {SS:List (List Nat)} {j:Nat} {u:Value} {T:List Nat}:(t.s.size≤maxLen∧-9223372036854775808≤t.n∧t.n≤9223372036854775807)→Row w t.len t.kid v S g cap l SS→j<t.len→l[j]? = some (t.kid j,u)→SS[j]? = some T→NodeAt w t v S g j (t.kid j) u T
 | there {t:D} {v:Value} {S:List Nat} {g cap:Nat} {l:List (D×Value)} {SS:List (List Nat)} {i:Nat} {u:Value} {T:List Nat} {g' j:Nat} {x:D} {u':Value} {T':List Nat}:(t.s.size≤maxLen∧-9223372036854775808≤t.n∧t.n≤9223372036854775807)→Row w t.len t.kid v S g cap l SS→i<t.len→l[i]? = some (t.kid i,u)→SS[i]? = some T→NodeAt w (t.kid i) u T g' j x u' T'→NodeAt w t v S g' j x u' T'
theorem Row.at {w:World} {len:Nat} {kid:Nat→D} {v:Value} {S:List Nat} {g cap:Nat} {l:List (D×Value)} {SS:List (List Nat)} (h:Row w len kid v S g cap l SS) {i:Nat} (hi:i<len) {u:Value} {T:List Nat} (h1:l[i]? = some (kid i,u)) (h2:SS[i]? = some T):DOwn w (kid i) u T:=by
 obtain ⟨u',T',k1,k2,k3⟩:=h.each i hi
 rw [h1] at k1
 rw [h2] at k2
 injection k1 with k1
 injection k1 with _ k1
 injection k2 with k2
 rw [k1,k2];exact k3
theorem NodeAt.facts {w:World} {t:D} {v:Value} {S:List Nat} {g j:Nat} {x:D} {u:Value} {T:List Nat} (h:NodeAt w t v S g j x u T):DOwn w x u T∧g∈S∧(∀ b∈T,b∈S)∧∃ len cap l,w.ownsRow 0 72 5 (.slice (some ⟨g,0,none⟩) len cap) len (jaF l)∧l.length=len∧l[j]? = some (x,u)∧j<len:=by
 induction h with
 | here hp hr hj h1 h2=>exact ⟨hr.at hj h1 h2,by rw [hr.eq];simp,fun b hb=>by rw [hr.eq];exact List.mem_cons_of_mem _ (jaQ h2 hb),_,_,_,hr.own,hr.ll,h1,hj⟩
 | there hp hr hi h1 h2 _ ih =>
  obtain ⟨a1,a2,a3,a4⟩:=ih
  exact ⟨a1,by rw [hr.eq];exact List.mem_cons_of_mem _ (jaQ h2 a2),fun b hb=>by rw [hr.eq];exact List.mem_cons_of_mem _ (jaQ h2 (a3 b hb)),a4⟩
theorem NodeAt.down {w:World} {t:D} {v:Value} {S:List Nat} {g j:Nat} {x:D} {u:Value} {T:List Nat} (h:NodeAt w t v S g j x u T) {g2 cap2:Nat} {l2:List (D×Value)} {SS2:List (List Nat)} (hr2:Row w x.len x.kid u T g2 cap2 l2 SS2) {k:Nat} (hk:k<x.len) {u2:Value} {T2:List Nat} (h3:l2[k]? = some (x.kid k,u2)) (h4:SS2[k]? = some T2):NodeAt w t v S g2 k (x.kid k) u2 T2:=by
 induction h with
 | here hp hr hj h1 h2=>exact .there hp hr hj h1 h2 (.here (hr.at hj h1 h2).plain hr2 hk h3 h4)
 | there hp hr hi h1 h2 _ ih=>exact .there hp hr hi h1 h2 (ih hr2 hk h3)
theorem jkf:∀ (l:List (D×Value)) (i:Nat) (q q':D×Value),l[i]? = some q→jaW q'=jaW q→jaF (l.set i q')=jaF l:=by
 intro l
 induction l with
 | nil=>intro i q q' h _;simp at h
 | cons a l ih =>
  intro i q q' h he
  cases i with
  | zero =>
   simp only [List.getElem?_cons_zero,Option.some.injEq] at h
   subst h
   simp [jaF,he]
  | succ i =>
   simp only [List.getElem?_cons_succ] at h
   have:=ih i q q' h he
   simp only [jaF,List.set_cons_succ,List.flatMap_cons] at this ⊢
   rw [this]
theorem NodeAt.swap {w w':World} {t:D} {v:Value} {S:List Nat} {g j:Nat} {x:D} {u:Value} {T:List Nat} (h:NodeAt w t v S g j x u T) (hn:S.Nodup) {x':D} {u':Value} {T':List Nat}
  (hrow:∀ len cap l,w.ownsRow 0 72 5 (.slice (some ⟨g,0,none⟩) len cap) len (jaF l)→l.length=len→l[j]? = some (x,u)→w'.ownsRow 0 72 5 (.slice (some ⟨g,0,none⟩) len cap) len (jaF (l.set j (x',u'))))
  (hd:DOwn w' x' u' T') (hT':T'.Nodup) (hnew:∀ b∈T',b∈T∨b ∉ S) (hk:∀ b∈S,b≠g→b ∉ T→w'.heap[b]? = w.heap[b]?) :
  ∃ kid' S',DOwn w' (.mk t.op t.at_ t.n t.s t.len kid') v S'∧S'.Nodup∧(∀ b∈S',b∈S∨b∈T')∧(D.mk t.op t.at_ t.n t.s t.len kid').count+x.count=t.count+x'.count∧(D.mk t.op t.at_ t.n t.s t.len kid').weight+x.weight=t.weight+x'.weight:=by
 have cnt:∀ (t:D) (i:Nat) (d:D),i<t.len→(D.mk t.op t.at_ t.n t.s t.len (setK t.kid i d)).count+(t.kid i).count=t.count+d.count:=by
  intro t i d hi
  have h1:=jgy D.count t.kid i d t.len hi
  rw [D.count_eq t,D.count_eq (D.mk t.op t.at_ t.n t.s t.len (setK t.kid i d))]
  simp only [D.kid,D.len] at h1 ⊢
  omega
 have wgt:∀ (t:D) (i:Nat) (d:D),i<t.len→(D.mk t.op t.at_ t.n t.s t.len (setK t.kid i d)).weight+(t.kid i).weight=t.weight+d.weight:=by
  intro t i d hi
  have h1:=jgy D.weight t.kid i d t.len hi
  rw [D.weight_eq t,D.weight_eq (D.mk t.op t.at_ t.n t.s t.len (setK t.kid i d))]
  simp only [D.kid,D.len,D.s,jah] at h1 ⊢
  omega
 induction h with
 | @here t v S g cap l SS j u T hp hr hj h1 h2 =>
  obtain ⟨r1,r2⟩:=hr.set hn hj h2 (hrow _ _ _ hr.own hr.ll h1) hd hT' hnew hk
  refine ⟨setK t.kid j x',_,⟨hp,r1.sown⟩,r2,fun b hb=>?_,cnt t j x' hj,wgt t j x' hj⟩
  rcases List.mem_cons.1 hb with rfl|hb
  ·exact .inl (by rw [hr.eq];simp)
  ·rcases jg6 hb with h|h
   ·exact .inl (by rw [hr.eq];exact List.mem_cons_of_mem _ h)
   ·exact .inr h
 | @there t v S g0 cap l SS i ui Ti g j x u T hp hr hi h1 h2 hin ih =>
  have hnS:=hn
  rw [hr.eq,List.nodup_cons] at hnS
  obtain ⟨f1,f2,f3,f4⟩:=hin.facts
  have hTi:Ti.Nodup:=(List.pairwise_flatten.1 hnS.2).1 Ti (List.mem_of_getElem? h2)
  have hsub:∀ b∈Ti,b∈S:=fun b hb=>by rw [hr.eq];exact List.mem_cons_of_mem _ (jaQ h2 hb)
  obtain ⟨kid',S',k1,k2,k3,k4,k5⟩:=ih hTi hrow (fun b hb=>(hnew b hb).imp_right (fun h h'=>h (hsub b h'))) (fun b hb h h'=>hk b (hsub b hb) h h')
  have hg0:g0∈S:=by rw [hr.eq];simp
  have hg0T:g0 ∉ Ti:=fun h=>hnS.1 (jaQ h2 h)
  have hblk:w'.heap[g0]? = w.heap[g0]? := hk g0 hg0 (fun e=>hg0T (by rw [e];exact f2)) (fun h=>hg0T (f3 g0 h))
  have hown:w'.ownsRow 0 72 5 (.slice (some ⟨g0,0,none⟩) t.len cap) t.len (jaF (l.set i (.mk (t.kid i).op (t.kid i).at_ (t.kid i).n (t.kid i).s (t.kid i).len kid',ui))):=by
   rw [jkf l i (t.kid i,ui) (.mk (t.kid i).op (t.kid i).at_ (t.kid i).n (t.kid i).s (t.kid i).len kid',ui) h1 rfl]
   exact jdl hr.own (fun b hb=>by
    simp only [Value.ownBlock,Option.some.injEq] at hb
    subst hb;exact hblk)
  obtain ⟨r1,r2⟩:=hr.set hn hi h2 hown k1 k2 (fun b hb=>by
   rcases k3 b hb with h|h
   ·exact .inl h
   ·rcases hnew b h with h'|h'
    ·exact .inl (f3 b h')
    ·exact .inr h') (fun b hb hbg hbT=>hk b hb (fun e=>hbT (by rw [e];exact f2)) (fun h=>hbT (f3 b h)))
  have c1:=cnt t i (.mk (t.kid i).op (t.kid i).at_ (t.kid i).n (t.kid i).s (t.kid i).len kid') hi
  have c2:=wgt t i (.mk (t.kid i).op (t.kid i).at_ (t.kid i).n (t.kid i).s (t.kid i).len kid') hi
  refine ⟨setK t.kid i _,_,⟨hp,r1.sown⟩,r2,fun b hb=>?_,by omega,by omega⟩
  rcases List.mem_cons.1 hb with rfl|hb
  ·exact .inl hg0
  ·rcases jg6 hb with h|h
   ·exact .inl (by rw [hr.eq];exact List.mem_cons_of_mem _ h)
   ·rcases k3 b h with h'|h'
    ·exact .inl (hsub b h')
    ·exact .inr h'
theorem jkY {w:World} {base base' e size n:Nat} {v:Value} {xs:List Value} (h:w.ownsRow base e size v n xs) (hb:∀ g,v.ownBlock=some g→base'≤g):w.ownsRow base' e size v n xs:=by
 refine ⟨h.1,?_⟩
 rcases h.2 with hn|⟨g,cap,cur,rfl,hbg,rest⟩
 ·exact .inl hn
 ·exact .inr ⟨g,cap,cur,rfl,hb g rfl,rest⟩
theorem DOwn.inB {w:World} {B:Nat} (t:D):∀ {v:Value} {S:List Nat},DOwn w t v S→(∀ b∈S,B≤b)→t.InB B w v:=by
 induction t with
 | no=>intro v S h;exact h.elim
 | mk op a n s len kid ih =>
  intro v S h hS
  unfold DOwn at h
  refine D.InB.mk' h.1.1 h.1.2 ?_
  rcases h.2 with ⟨rfl,rfl,_⟩|⟨g,cap,l,SS,rfl,h2,h3,h4,h5,h6,h7⟩
  ·exact .inl ⟨rfl,_,_,rfl⟩
  ·refine SlB.of_own (jkY (base':=B) h2 (fun g' hg'=>?_)) h3 (nlr _) h5 (fun q hq=>?_)
   ·simp only [Value.ownBlock,Option.some.injEq] at hg'
    subst hg'
    exact hS g (by rw [h6];simp)
   ·obtain ⟨i,hi,rfl⟩:=List.mem_iff_getElem.1 hq
    obtain ⟨u,T,k1,k2,k3⟩:=h7 i (by omega)
    rw [lgg hi] at k1
    injection k1 with k1
    rw [k1]
    exact ih i k3 (fun b hb=>hS b (by rw [h6];exact List.mem_cons_of_mem _ (jaQ k2 hb)))
theorem SOwn.slB {w:World} {B len:Nat} {kid:Nat→D} {v:Value} {S:List Nat} (h:SOwn w len kid v S) (hS:∀ b∈S,B≤b):SlB B w len kid v :=
 (DOwn.inB (.mk 0 0 0 ⟨#[]⟩ len kid) (v:=v) (S:=S) ⟨⟨by unfold maxLen;exact nzl _,by omega,by omega⟩,h⟩ hS).sl
theorem jlY (l:List (D×Value)):∀ (j f:Nat) (q q':D×Value) (x:Value),l[j]? = some q→f<5→jaW q'=(jaW q).set f x→(jaF l).set (j*5+f) x=jaF (l.set j q'):=by
 induction l with
 | nil=>intro j f q q' x h;simp at h
 | cons a r ih =>
  intro j f q q' x h hf he
  have e:jaF (a::r)=jaW a++jaF r:=by simp [jaF]
  have hl:(jaW a).length=5:=rfl
  cases j with
  | zero =>
   simp only [List.getElem?_cons_zero,Option.some.injEq] at h
   subst h
   rw [e,List.set_append_left _ _ (by omega),List.set_cons_zero,Nat.zero_mul,Nat.zero_add,←he]
   simp [jaF]
  | succ j =>
   simp only [List.getElem?_cons_succ] at h
   rw [e,List.set_append_right _ _ (by omega),hl,List.set_cons_succ,show (j+1)*5+f-5=j*5+f from by omega,ih j f q q' x h hf he]
   simp [jaF]
theorem jmT {w0 wr:World} {g len cap j f:Nat} {l:List (D×Value)} {x:D} {u:Value} (q':D×Value) (y:Value) (hs:wr.heap[g]? = w0.heap[g]?) (hf:f<5) (he:jaW q'=(jaW (x,u)).set f y)
  (h:w0.ownsRow 0 72 5 (.slice (some ⟨g,0,none⟩) len cap) len (jaF l)) (hj:l[j]? = some (x,u)):(wr.setCell ⟨g,j*5+f,none⟩ y).ownsRow 0 72 5 (.slice (some ⟨g,0,none⟩) len cap) len (jaF (l.set j q')):=by
 have h1:wr.ownsRow 0 72 5 (.slice (some ⟨g,0,none⟩) len cap) len (jaF l):=jdl h (fun b hb=>by
  simp only [Value.ownBlock,Option.some.injEq] at hb
  subst hb;exact hs)
 have h2:=(h1.stored (j*5+f) y).1
 rw [jlY l j f (x,u) q' y hj hf he] at h2
 exact h2
def jbw (len:Nat) (kid:Nat→D):List D:=(List.range len).map kid
theorem jaO (len:Nat) (kid:Nat→D):(jbw len kid).length=len:=by simp [jbw]
theorem jgq (len:Nat) (kid:Nat→D) (i:Nat) (h:i<len):jav (jbw len kid) i=kid i:=by simp [jav,jbw,List.getD,h]
theorem SOwn.acc {w:World} {B len:Nat} {kid:Nat→D} {v:Value} {S:List Nat} (h:SOwn w len kid v S) (hn:S.Nodup) (hB:∀ b∈S,B≤b):∃ la SS,Acc B w (jbw len kid) v la SS∧(∀ b∈SS.flatten,b∈S)∧(∀ g,v.ownBlock=some g→g∈S):=by
 rcases h with ⟨rfl,rfl,rfl⟩|⟨g,cap,l,SS,rfl,h2,h3,h4,h5,h6,h7⟩
 ·exact ⟨[],[],Acc.nil _ _,fun b hb=>by simp at hb,fun g hg=>by simp [Value.ownBlock] at hg⟩
 ·rw [h6,List.nodup_cons] at hn
  refine ⟨l,SS,⟨by rw [jaO];exact h2,by rw [jaO];exact h3,by rw [jaO];exact h4,fun i hi=>?_,hn.2,fun b hb=>?_,fun b hb=>hB b (by rw [h6];exact List.mem_cons_of_mem _ hb)⟩,fun b hb=>by rw [h6];exact List.mem_cons_of_mem _ hb,fun b hb=>?_⟩
  ·rw [jaO] at hi
   rw [jgq len kid i hi]
   exact h7 i hi
  ·simp only [Value.ownBlock,Option.some.injEq] at hb
   subst hb
   exact ⟨hn.1,hB g (by rw [h6];simp)⟩
  ·simp only [Value.ownBlock,Option.some.injEq] at hb
   subst hb
   rw [h6];simp
theorem jjf (f:D→Nat) (len:Nat) (kid:Nat→D) (d:D):jao (fun i=>f (jav (jbw len kid++[d]) i)) (len+1)=jao (fun i=>f (kid i)) len+f d:=by
 have low:∀ k,k≤len→jao (fun i=>f (jav (jbw len kid++[d]) i)) k=jao (fun i=>f (kid i)) k:=by
  intro k
  induction k with
  | zero=>intro _;rfl
  | succ k ih =>
   intro hk
   simp only [jao]
   rw [ih (by omega),jdu _ _ _ (by rw [jaO];omega),jgq len kid k (by omega)]
 simp only [jao]
 rw [low len (nlr _)]
 have:=jdt (jbw len kid) d
 rw [jaO] at this
 rw [this]
abbrev jcG (len:Nat) (kid:Nat→D):D:=.mk 0 0 0 ⟨#[]⟩ len kid
theorem joi {w:World} {len:Nat} {kid:Nat→D} {v:Value} {S:List Nat} (h:SOwn w len kid v S):DOwn w (jcG len kid) v S:=⟨⟨by unfold maxLen;exact nzl _,by omega,by omega⟩,h⟩
theorem jmz {w:World} {len:Nat} {kid:Nat→D} {v:Value} {S:List Nat} (h:SOwn w len kid v S) {j:Nat} (hj:j<len):∃ g cap u T,v=.slice (some ⟨g,0,none⟩) len cap∧NodeAt w (jcG len kid) v S g j (kid j) u T:=by
 obtain ⟨g,cap,l,SS,hr⟩:=h.row (by omega)
 obtain ⟨u,T,k1,k2,k3⟩:=hr.each j hj
 exact ⟨g,cap,u,T,hr.val,NodeAt.here (t:=jcG len kid) (joi h).plain hr hj k1 k2⟩
theorem NodeAt.cells {w:World} {t:D} {v:Value} {S:List Nat} {g j:Nat} {x:D} {u:Value} {T:List Nat} (h:NodeAt w t v S g j x u T):Head w g (j*5) x u∧(∀ k,w.frozen? ⟨g,k,none⟩=false):=by
 obtain ⟨h1,h2,h3,len,cap,l,ho,hl,hj,hjl⟩:=h.facts
 refine ⟨?_,fun k=>ho.frozenAt k⟩
 have cell:∀ f,f<5→w.cell? ⟨g,j*5+f,none⟩=(jaW (x,u))[f]? := by
  intro f hf
  rw [ho.cellAt (j*5+f) (by omega)]
  have:=jjt l [] j _ hj f hf
  simpa using this
 exact ⟨cell 0 (by omega),cell 1 (by omega),cell 2 (by omega),cell 3 (by omega),cell 4 (by omega)⟩
theorem NodeAt.step {w:World} {t:D} {v:Value} {S:List Nat} {g j:Nat} {x:D} {u:Value} {T:List Nat} (h:NodeAt w t v S g j x u T) {k:Nat} (hk:k<x.len):∃ g2 cap2 u2 T2,u=.slice (some ⟨g2,0,none⟩) x.len cap2∧NodeAt w t v S g2 k (x.kid k) u2 T2:=by
 obtain ⟨h1,_⟩:=h.facts
 obtain ⟨g2,cap2,l2,SS2,hr⟩:=h1.sown.row (by omega)
 obtain ⟨u2,T2,k1,k2,k3⟩:=hr.each k hk
 exact ⟨g2,cap2,u2,T2,hr.val,h.down hr hk k1 k2⟩
theorem NodeAt.weight {w:World} {t:D} {v:Value} {S:List Nat} {g j:Nat} {x:D} {u:Value} {T:List Nat} (h:NodeAt w t v S g j x u T):x.weight≤t.weight:=by
 induction h with
 | @here t v S g cap l SS j u T hp hr hj h1 h2 =>
  have:=jbU (fun i=>(t.kid i).weight) j t.len hj
  rw [D.weight_eq t]
  unfold jah
  omega
 | @there t v S g0 cap l SS i ui Ti g j x u T hp hr hi h1 h2 hin ih =>
  have:=jbU (fun i=>(t.kid i).weight) i t.len hi
  rw [D.weight_eq t]
  unfold jah
  omega
theorem D.len_weight (t:D):t.len≤t.weight:=by rw [D.weight_eq];unfold jah;omega
end Go.Proofs.YtjmlfacbcfbhdaaGreatDoor
