/- impl.newFiller$1: the filler fills every part that is written plainly. Condition: at most 2^21 of it. -/
import Derived.Test.YtjmlfacbcfbhdaaGreatDoorYA
import Derived.Test.YtjmlfacbcfbhdaaGreatDoorY40
import Derived.Test.YtjmlfacbcfbhdaaGreatDoorY19
set_option maxRecDepth 100000
set_option maxHeartbeats 8000000
namespace Go.Proofs.YtjmlfacbcfbhdaaGreatDoor
open Go.ChangeShapes Go.WideShapes Go.ChangeAt Go.RowKit
theorem jmK {t:X} (h:PlainX t):t.op=2∨t.op=1∧t.len=0∨t.op=3∧t.n=0∧t.s=⟨#[]⟩∧t.set=[]:=by
 cases t with
 | no=>exact h.elim
 | mk op a n s set len kid =>
  rcases h.1 with ⟨h1|h1,h2⟩|h3
  ·exact .inr (.inl ⟨h1,h2⟩)
  ·exact .inl h1
  ·exact .inr (.inr h3)
theorem joa {t:X} {w0 w:World} {su u:Value} (h:t.At 0 w0 su u) (hl:t.len=0) (hb:Below w0.heap.size w0 w):Foot (fun j=>j<w0.heap.size) w t su (.slice none 0 0):=by
 have h2:t.At 0 w0 su (.slice none 0 0):=by
  cases t with
  | no=>exact h.elim
  | mk op a n s set len kid =>
   have hl':len=0:=hl
   subst hl'
   exact X.InB.mk' h.size h.num h.setLen h.sets (.inl ⟨rfl,_,_,rfl⟩)
 exact Foot.old h2 hb
abbrev finW (w:World) (A:Nat) (x:X) (su u:Value):World:=(((((w.setCell ⟨A,0,none⟩ (.int .i64 x.op)).setCell ⟨A,1,none⟩ (.int .i64 x.at_)).setCell ⟨A,2,none⟩ (.int .i64 x.n)).setCell ⟨A,3,none⟩ (.string x.s)).setCell ⟨A,4,none⟩ su).setCell ⟨A,5,none⟩ u
theorem jdg (w:World) (A:Nat) (x:X) (su u:Value) {j:Nat} (hj:j≠A):(finW w A x su u).heap[j]? = w.heap[j]? := by
 have e:∀ (V:World) (k:Nat) (y:Value),(V.setCell ⟨A,k,none⟩ y).heap[j]? = V.heap[j]? := fun V k y=>bhs V ⟨A,k,none⟩ y j hj
 rw [e,e,e,e,e,e]
theorem jju (w:World) (A:Nat) (x:X) (su u:Value):(finW w A x su u).heap.size=w.heap.size:=by simp
theorem jhd {S K A c:Nat} {a:Addr} {o:Option FX} {W w5:World} {x y:X} {r:FX} {F:Nat→Prop} {su u sy uy:Value} (hb:But (fun j=>j=K) W w5) (hA:W.heap.size≤A) (hAF:¬ F A) (hKA:K≠A)
  (ho:o=some r) (h1:r.1=[x]) (h2:CountAt K w5 (c+r.2.1)) (h3:c+r.2.1≤4000) (h4:Foot F w5 x su u) (h5:∀ j,F j→j<S∨W.heap.size≤j) (he:aggX y sy uy=aggX x su u):jeI S K a o c W (finW w5 A y sy uy) (.returned (.tuple #[aggX y sy uy,.nilIface])):=by
 refine ⟨But.sixO hb hA _ _ _ _ _ _,.inl ⟨r,x,su,u,F,ho,h1,?_,h3,by rw [he],?_,h5⟩⟩
 ·exact (jdg w5 A y sy uy hKA).trans h2
 ·exact h4.keep (fun j hj=>jdg w5 A y sy uy (fun e=>hAF (by rw [←e];exact hj))) (by rw [jju];exact nlr _)
theorem jl9 {K B:Nat} {w0:World} {a:Addr} (t:X) (hp:PlainX t) (hc:t.count≤2097152) (hk:∀ i,i<t.len→jih K B w0 a (t.kid i)):jih K B w0 a t:=by
 intro L f W c su u hF hf hL ht
 obtain ⟨pu,cu,e1⟩:=ht.xs.shape
 obtain ⟨ps,cs,e2⟩:=ht.sets.shape
 subst e1 e2
 have hKW:K<W.heap.size:=(aes.1 hF.cnt).1
 have hBW:B<W.heap.size:=(aes.1 hF.self).1
 obtain ⟨A,hA⟩:∃ A,A=W.heap.size:=⟨_,rfl⟩
 obtain ⟨W1,hW1⟩:∃ W1,W1=(W.alloc (.cells #[.int .i64 t.op,.int .i64 t.at_,.int .i64 t.n,.string t.s,.slice ps t.set.length cs,.slice pu t.len cu] 27)).alloc (.cells #[.int .i64 0,.int .i64 0,.int .i64 0,.string ⟨#[]⟩,.slice none 0 0,.slice none 0 0] 27):=⟨_,rfl⟩
 have nb:Below W.heap.size W W1:=by rw [hW1];exact (newx W _).trans ((newx _ _).mono (by simp))
 have hs1:W1.heap.size=A+2:=by rw [hW1,hA];simp
 have hbx:SixO W1 A t (.slice ps t.set.length cs) (.slice pu t.len cu):=by rw [hW1,hA];exact (bha _ _ _ (by simp)).trans (han W _)
 have hrs:W1.heap[A+1]? = some (.cells #[.int .i64 0,.int .i64 0,.int .i64 0,.string ⟨#[]⟩,.slice none 0 0,.slice none 0 0] 27 (0,0)):=by
  have:=han (W.alloc (.cells #[.int .i64 t.op,.int .i64 t.at_,.int .i64 t.n,.string t.s,.slice ps t.set.length cs,.slice pu t.len cu] 27)) (.cells #[.int .i64 0,.int .i64 0,.int .i64 0,.string ⟨#[]⟩,.slice none 0 0,.slice none 0 0] 27)
  rw [World.size_alloc] at this
  rw [hW1,hA];exact this
 have hc1:CountAt K W1 c:=hF.cnt.below nb
 have kc:W1.cell? ⟨K,0,none⟩=some (.int .i64 c):=crw W1 K 0 _ _ _ hc1
 have kf:W1.frozen? ⟨K,0,none⟩=false:=fzr W1 K 0 _ _ hc1
 obtain ⟨W2,hW2⟩:∃ W2,W2=W1.setCell ⟨K,0,none⟩ (.int .i64 ((c:Int)+1)):=⟨_,rfl⟩
 have hc2:CountAt K W2 (c+1):=by
  have:=heap_setCell_same W1 K 0 _ _ (.int .i64 ((c:Int)+1)) hc1
  rw [hW2];exact this
 have hoth:∀ j,j≠K→W2.heap[j]? = W1.heap[j]? := fun j hj=>by rw [hW2];exact bhs W1 ⟨K,0,none⟩ _ j hj
 have hbut:But (fun j=>j=K) W W2:=by rw [hW2];exact But.setCell (X:=fun j=>j=K) (p:=⟨K,0,none⟩) (But.of_all nb) (.inr rfl) _
 have hs2:W2.heap.size=A+2:=by rw [hW2];simpa using hs1
 have H2:Hid (SixO W2 A t (.slice ps t.set.length cs) (.slice pu t.len cu)∧W2.heap[A+1]? = some (.cells #[.int .i64 0,.int .i64 0,.int .i64 0,.string ⟨#[]⟩,.slice none 0 0,.slice none 0 0] 27 (0,0))∧CountAt K W2 (c+1)∧But (fun j=>j=K) W W2) :=
  ⟨(hoth A (by omega)).trans hbx,(hoth (A+1) (by omega)).trans hrs,hc2,hbut⟩
 have HWW:Hid (W1=(W.alloc (.cells #[.int .i64 t.op,.int .i64 t.at_,.int .i64 t.n,.string t.s,.slice ps t.set.length cs,.slice pu t.len cu] 27)).alloc (.cells #[.int .i64 0,.int .i64 0,.int .i64 0,.string ⟨#[]⟩,.slice none 0 0,.slice none 0 0] 27)∧A=W.heap.size∧W2=W1.setCell ⟨K,0,none⟩ (.int .i64 ((c:Int)+1))):=⟨hW1,hA,hW2⟩
 have HSZ:Hid (K<A∧B<A∧A=W.heap.size∧W2.heap.size=A+2):=⟨by omega,by omega,hA,hs2⟩
 have hfew:=hF.few
 have HF:=jad hF
 have HX:=jad (And.intro hp (And.intro hL (And.intro ht (And.intro hf (And.intro hc hk)))))
 have HCE:Hid (∀ w3,(∀ j,j<A+2→j≠K→w3.heap[j]? = W2.heap[j]?)→SixO w3 A t (.slice ps t.set.length cs) (.slice pu t.len cu)∧w3.heap[A+1]? = some (.cells #[.int .i64 0,.int .i64 0,.int .i64 0,.string ⟨#[]⟩,.slice none 0 0,.slice none 0 0] 27 (0,0))):=fun w3 h =>
  ⟨(h A (by omega) (by have:=HSZ.out.1;omega)).trans H2.out.1,(h (A+1) (by omega) (by have:=HSZ.out.1;omega)).trans H2.out.2.1⟩
 obtain ⟨q0,q1,q2,q3,q4,q5⟩:=H2.out.1.cells
 have k2:W2.cell? ⟨K,0,none⟩=some (.int .i64 ((c:Int)+1)):=crw W2 K 0 _ _ _ H2.out.2.2.1
 clear hp hc hk hF hf hL ht hA hW1 nb hs1 hbx hrs hc1 hW2 hc2 hoth hbut hs2 hKW hBW
 by_cases hmany:(4000:Int)<(c:Int)+1
 ·have HFL:Hid (∀ r,jaX t L=some r→4000<c+r.2.1):=fun r hr=>by have:=(jfo hr).1;omega
  have z:=H2.out.2.1
  have z0:=crw W2 _ 0 _ _ _ z
  have z1:=crw W2 _ 1 _ _ _ z
  have z2:=crw W2 _ 2 _ _ _ z
  have z3:=crw W2 _ 3 _ _ _ z
  have z4:=crw W2 _ 4 _ _ _ z
  have z5:=crw W2 _ 5 _ _ _ z
  have zf:∀ j,W2.frozen? ⟨A+1,j,none⟩=false:=fun j=>fzr W2 _ j _ _ z
  have ger:W2.cell? ⟨0,0,none⟩=some (.iface 194 (.pointer (some a))):=HF.out.err.below (HF.out.bel.trans (H2.out.2.2.2.below HF.out.bel.size (fun j hj=>by have:=HF.out.ne.2.1;omega)))
  have HGA:Hid (W.heap.size≤A+1):=by have:=HSZ.out.2.2.1;show _≤_;omega
  clear z HX HCE HF HSZ q0 q1 q2 q3 q4 q5
  go_enter Tryz.func63,Tryz.ntmps63
  go_upto_region 1 with fail
  rw [←HWW.out.1,←HWW.out.2.1]
  go_upto_region 2 with fail
  rw [←HWW.out.2.2]
  go_wp2_with fail
  go_region
  all_goals
   go_wp2_with fail
   refine bpr (v:=.tuple #[noXV,errV a]) (by rw [jac (p:=6) (q:=7) (ty:=27) (by kernel_rfl)];simp [go_sem,noXV,errV,z0,z1,z2,z3,z4,z5]) rfl ?_
   refine ⟨?_,.inr ⟨HFL.out,.mk 0 0 0 ⟨#[]⟩ [] 0 (fun _=>.no),none,none,0,0,0,0,rfl⟩⟩
   first
    | exact But.sixO H2.out.2.2.2 HGA.out _ _ _ _ _ _
    | exact (But.sixO H2.out.2.2.2 HGA.out _ _ _ _ _ _).drew
    | exact But.sixO H2.out.2.2.2.drew HGA.out _ _ _ _ _ _
 have hmany2:c+1≤4000:=by omega
 have HGA:Hid (W.heap.size≤A+1∧W.heap.size≤A):=by have:=HSZ.out.2.2.1;exact ⟨by omega,by omega⟩
 have HFA:Hid (∀ w3,Below W2.heap.size W2 w3→FillerAt K B w0 w3 a (c+1)∧Finds K w0 w3 f L∧But (fun j=>j=K) W w3):=fun w3 h =>
  ⟨(HF.out.but H2.out.2.2.2 H2.out.2.2.1 hmany2).below h,HX.out.2.2.2.1.but (H2.out.2.2.2.trans (But.of_all h)),H2.out.2.2.2.trans (But.of_all h)⟩
 have HIS:Hid (Calls Tryz.prog 64 #[.agg #[.int .i64 t.op,.int .i64 t.at_,.int .i64 t.n,.string t.s,.slice ps t.set.length cs,.slice pu t.len cu]] W2 fun e w'=>e=.returned (.bool (decide (t.op=2)))∧Below W2.heap.size W2 w'):=joM _ _ _ _ _ _ _
 have HKE:Hid (∀ w3,Below W2.heap.size W2 w3→∀ j,j<A+2→j≠K→w3.heap[j]? = W2.heap[j]?):=fun w3 h j hj _=>h.block j (by rw [HSZ.out.2.2.2];exact hj)
 rcases jmK HX.out.1 with h2|h13
 ·rw [dqt h2] at HIS
  have HSY:Hid (∀ w3,Below W2.heap.size W2 w3→Calls Tryz.prog 65 #[.agg #[.int .i64 t.op,.int .i64 t.at_,.int .i64 t.n,.string t.s,.slice ps t.set.length cs,.slice pu t.len cu],f] w3 fun e w'=>joI w0 a (symF t L) e∧Below w3.heap.size w3 w'):=fun w3 h =>
   jkj t _ _ (HFA.out w3 h).2.1 HX.out.2.2.1 (HFA.out w3 h).1.errW
  have HH2:=jad h2
  clear h2
  go_enter Tryz.func63,Tryz.ntmps63
  go_upto_region 1 with fail
  rw [←HWW.out.1,←HWW.out.2.1]
  go_upto_region 2 with fail
  rw [←HWW.out.2.2]
  go_wp2_with fail
  refine HIS.out.mono ?_
  rintro e w3 ⟨rfl,hb3⟩
  have HB3:=jad hb3
  obtain ⟨f0,f1,f2,f3,f4,f5⟩:=(HCE.out w3 (HKE.out w3 hb3)).1.cells
  clear hb3 q0 q1 q2 q3 q4 q5 k2 kc kf
  go_wp2_with fail
  refine (HSY.out w3 HB3.out).mono ?_
  rintro e w4 ⟨hret,hb4⟩
  have HB4:Hid (Below W2.heap.size W2 w4):=HB3.out.trans (hb4.mono HB3.out.size)
  clear hb4 f0 f1 f2 f3 f4 f5
  have z:=(HCE.out w4 (HKE.out w4 HB4.out)).2
  have z0:=crw w4 _ 0 _ _ _ z
  have z1:=crw w4 _ 1 _ _ _ z
  have z2:=crw w4 _ 2 _ _ _ z
  have z3:=crw w4 _ 3 _ _ _ z
  have z4:=crw w4 _ 4 _ _ _ z
  have z5:=crw w4 _ 5 _ _ _ z
  have zf:∀ j,w4.frozen? ⟨A+1,j,none⟩=false:=fun j=>fzr w4 _ j _ _ z
  clear z
  rcases hret with ⟨x,sx,ux,hs,hx,rfl⟩|⟨hs,rfl⟩
  ·obtain ⟨p1,c1,e1⟩:=hx.sets.shape
   obtain ⟨p2,c2,e2⟩:=hx.xs.shape
   subst e1 e2
   obtain ⟨m,hm⟩:=jf8 HH2.out hs
   have HFIN:Hid (jeI w0.heap.size K a (jaX t L) c W (finW w4 (A+1) x (.slice p1 x.set.length c1) (.slice p2 x.len c2)) (.returned (.tuple #[aggX x (.slice p1 x.set.length c1) (.slice p2 x.len c2),.nilIface]))) :=
    jhd (F:=fun j=>j<w0.heap.size) (HFA.out w4 HB4.out).2.2 HGA.out.1 (by have a1:=HF.out.bel.size;have a2:=HGA.out.1;omega) (by have:=HSZ.out.1;omega) hm rfl (H2.out.2.2.1.below HB4.out) hmany2 (Foot.old hx (HFA.out w4 HB4.out).1.bel) (fun j hj=>.inl hj) rfl
   clear hs hx hm
   go_wp2_with fail
   refine bpr (v:=.tuple #[aggX x (.slice p1 x.set.length c1) (.slice p2 x.len c2),.nilIface]) (by rw [jac (p:=6) (q:=7) (ty:=27) (by kernel_rfl)];simp [go_sem,z0,z1,z2,z3,z4,z5]) rfl ?_
   exact HFIN.out
  ·have HFL:Hid (∀ r,jaX t L=some r→4000<c+r.2.1):=fun r hr=>by rw [jf7 HH2.out hs] at hr;cases hr
   have HBF:Hid (But (fun j=>j=K) W w4):=(HFA.out w4 HB4.out).2.2
   clear hs
   unfold noXV errV
   go_wp2_with fail
   refine bpr (v:=.tuple #[noXV,errV a]) (by rw [jac (p:=6) (q:=7) (ty:=27) (by kernel_rfl)];simp [go_sem,noXV,errV,z0,z1,z2,z3,z4,z5]) rfl ?_
   exact ⟨But.sixO HBF.out HGA.out.1 _ _ _ _ _ _,.inr ⟨HFL.out,.mk 0 0 0 ⟨#[]⟩ [] 0 (fun _=>.no),none,none,0,0,0,0,rfl⟩⟩
 ·have h2n:t.op≠2:=by rcases h13 with h|h <;> omega
  rw [dqf h2n] at HIS
  have HKD:Hid (∀ w3,Below W2.heap.size W2 w3→Calls Tryz.prog 66 #[.slice pu t.len cu,f,.func (.func 63) #[] #[.pointer (some ⟨K,0,none⟩),.pointer (some ⟨B,0,none⟩)]] w3 fun e w'=>jgf w0.heap.size K a (remF t L 0) (c+1) w3 w' e):=fun w3 h =>
   jiv t _ HX.out.1 HX.out.2.2.2.2.2 (HFA.out w3 h).1 (HFA.out w3 h).2.1 HX.out.2.1 HX.out.2.2.1.xs HX.out.2.2.2.2.1
  have HSF:Hid (∀ w3,Below W2.heap.size W2 w3→w3.cell? ⟨B,0,none⟩=some (.func (.func 63) #[] #[.pointer (some ⟨K,0,none⟩),.pointer (some ⟨B,0,none⟩)])):=fun w3 h=>crw w3 B 0 _ _ _ (HFA.out w3 h).1.self
  have H13:=jad h13
  clear h13 h2n
  go_enter Tryz.func63,Tryz.ntmps63
  go_upto_region 1 with fail
  rw [←HWW.out.1,←HWW.out.2.1]
  go_upto_region 2 with fail
  rw [←HWW.out.2.2]
  go_wp2_with fail
  refine HIS.out.mono ?_
  rintro e w3 ⟨rfl,hb3⟩
  have HB3:=jad hb3
  obtain ⟨f0,f1,f2,f3,f4,f5⟩:=(HCE.out w3 (HKE.out w3 hb3)).1.cells
  have s0:=HSF.out w3 hb3
  clear hb3 q0 q1 q2 q3 q4 q5 k2 kc kf
  go_wp2_with fail
  refine (HKD.out w3 HB3.out).mono ?_
  rintro e w4 ⟨hb4,hcase⟩
  have HB4:=jad hb4
  have HKE4:Hid (∀ j,j<A+2→j≠K→w4.heap[j]? = W2.heap[j]?):=fun j hj hne=>(hb4.block j (by have a1:=HB3.out.size;have a2:=HSZ.out.2.2.2;omega) hne).trans (HKE.out w3 HB3.out j hj hne)
  have HBF:Hid (But (fun j=>j=K) W w4):=(HFA.out w3 HB3.out).2.2.trans hb4
  have HW3:Hid (A+2≤w3.heap.size):=by have a1:=HB3.out.size;have a2:=HSZ.out.2.2.2;show _≤_;omega
  obtain ⟨g0,g1,g2,g3,g4,g5⟩:=(HCE.out w4 HKE4.out).1.cells
  have gf:∀ j,w4.frozen? ⟨A,j,none⟩=false:=fun j=>fzr w4 _ j _ _ (HCE.out w4 HKE4.out).1
  have z:=(HCE.out w4 HKE4.out).2
  have z0:=crw w4 _ 0 _ _ _ z
  have z1:=crw w4 _ 1 _ _ _ z
  have z2:=crw w4 _ 2 _ _ _ z
  have z3:=crw w4 _ 3 _ _ _ z
  have z4:=crw w4 _ 4 _ _ _ z
  have z5:=crw w4 _ 5 _ _ _ z
  have zf:∀ j,w4.frozen? ⟨A+1,j,none⟩=false:=fun j=>fzr w4 _ j _ _ z
  clear z hb4 f0 f1 f2 f3 f4 f5 s0
  have HOT:Hid (∀ v j,j≠A→(w4.setCell ⟨A,5,none⟩ v).heap[j]? = w4.heap[j]?):=fun v j hj=>bhs w4 ⟨A,5,none⟩ v j hj
  have HB5:Hid (∀ v,But (fun j=>j=K) W (w4.setCell ⟨A,5,none⟩ v)):=fun v=>HBF.out.setCell (.inl (by exact HGA.out.2)) v
  rcases hcase with ⟨r,v,la,h1,h2,h3,h4,rfl,h6⟩|⟨h1,rfl⟩
  ·obtain ⟨pv,cv,ev,-⟩:=h6.shape
   have HFIN:Hid (jeI w0.heap.size K a (jaX t L) c W (finW (w4.setCell ⟨A,5,none⟩ v) (A+1) t (.slice ps t.set.length cs) v) (.returned (.tuple #[aggX t (.slice ps t.set.length cs) v,.nilIface]))):=by
    have hKA:=HSZ.out.1
    have hS1:=HF.out.bel.size
    have hA0:=HSZ.out.2.2.1
    rcases H13.out with ⟨ho,hl⟩|⟨ho,hn,hs,hst⟩
    ·have hr:r=([],0,0):=by rw [jdn t L (by omega)] at h1;injection h1 with h1;exact h1.symm
     have hv:v=.slice none 0 0:=h6.emp (by rw [hr])
     subst hv
     have hft:Foot (fun j=>j<w0.heap.size) (w4.setCell ⟨A,5,none⟩ (.slice none 0 0)) t (.slice ps t.set.length cs) (.slice none 0 0) :=
      (joa HX.out.2.2.1 hl (HF.out.bel.trans (HBF.out.below HF.out.bel.size (fun j hj=>by have:=HF.out.ne.2.1;omega)))).keep (fun j hj=>HOT.out _ j (by omega)) (by simp)
     refine jhd (x:=t) (r:=([t],1,0)) (F:=fun j=>j<w0.heap.size) (HB5.out _) HGA.out.1 (by omega) (by omega) (jl3 ho) rfl ?_ hmany2 hft (fun j hj=>.inl hj) rfl
     refine (HOT.out _ K (by omega)).trans ?_
     rw [hr] at h3
     exact h3
    ·have hsu0:SetB 0 w0 (.slice ps t.set.length cs) []:=by
      have h9:=HX.out.2.2.1.sets
      obtain ⟨SU,hSU⟩:∃ SU,SU=Value.slice ps t.set.length cs:=⟨_,rfl⟩
      rw [←hSU] at h9 ⊢
      rw [hst] at h9
      exact h9
     obtain ⟨F,hF1,hF2⟩:=h6.list (op:=t.op) (a:=t.at_) hsu0
     have hfd:jaX t L=some ([.mk t.op t.at_ 0 ⟨#[]⟩ [] r.1.length (fun i=>r.1.getD i .no)],r.2.1+1,r.2.2):=by rw [jfn ho,h1];rfl
     have hno:∀ j,F j→j≠A∧j≠A+1:=fun j hj=>by have a1:=hF2 j hj;have a2:=HW3.out;omega
     refine jhd (x:=.mk t.op t.at_ 0 ⟨#[]⟩ [] r.1.length (fun i=>r.1.getD i .no)) (su:=.slice ps t.set.length cs) (u:=v) (F:=F) (HB5.out _) HGA.out.1 (fun h=>(hno _ h).2 rfl) (by omega) hfd rfl ?_ (by show c+(r.2.1+1)≤4000;omega) (hF1.keep (fun j hj=>HOT.out _ j (hno j hj).1) (by simp)) (fun j hj=>by have a1:=hF2 j hj;have a2:=HW3.out;omega) ?_
     ·refine (HOT.out _ K (by omega)).trans ?_
      have e:c+(r.2.1+1)=c+1+r.2.1:=by omega
      show w4.heap[K]? = _
      rw [e]
      exact h3
     ·show Value.agg #[.int .i64 t.op,.int .i64 t.at_,.int .i64 t.n,.string t.s,.slice ps t.set.length cs,v]=Value.agg #[.int .i64 t.op,.int .i64 t.at_,.int .i64 0,.string ⟨#[]⟩,.slice ps t.set.length cs,v]
      rw [hn,hs]
   clear h1 h2 h3 h4 h6
   subst ev
   go_wp2_with fail
   refine bpr (v:=.tuple #[aggX t (.slice ps t.set.length cs) (.slice pv r.1.length cv),.nilIface]) (by rw [jac (p:=6) (q:=7) (ty:=27) (by kernel_rfl)];simp [go_sem,z0,z1,z2,z3,z4,z5]) rfl ?_
   exact HFIN.out
  ·have HFL:Hid (∀ r,jaX t L=some r→4000<c+r.2.1):=fun r hr=>by
    rcases H13.out with ⟨ho,hl⟩|⟨ho,_⟩
    ·have:=h1 ([],0,0) (jdn t L (by omega))
     have h9:4000<c+1+0:=this
     omega
    ·rw [jfn ho] at hr
     obtain ⟨ks,hks,e⟩:=jar hr
     have:=h1 ks hks
     rw [←e]
     show 4000<c+(ks.2.1+1)
     omega
   clear h1
   unfold errV
   go_wp2_with fail
   refine bpr (v:=.tuple #[aggX t (.slice ps t.set.length cs) (.slice none 0 0),errV a]) (by rw [jac (p:=6) (q:=7) (ty:=27) (by kernel_rfl)];simp [go_sem,errV,z0,z1,z2,z3,z4,z5]) rfl ?_
   exact ⟨But.sixO (HB5.out _) HGA.out.1 _ _ _ _ _ _,.inr ⟨HFL.out,t,ps,none,_,_,_,_,rfl⟩⟩
theorem jpT {K B:Nat} {w0:World} {a:Addr} (t:X):PlainX t→t.count≤2097152→jih K B w0 a t:=by
 induction t with
 | no=>intro h;exact h.elim
 | mk op at_ n s set len kid ih =>
  intro hp hc
  refine jl9 _ hp hc fun i hi=>ih i (hp.2 i hi) ?_
  have h1:=jbo (fun i=>(kid i).count) i len hi
  have h2:(X.mk op at_ n s set len kid).count=1+sumX (fun i=>(kid i).count) len:=rfl
  omega
end Go.Proofs.YtjmlfacbcfbhdaaGreatDoor
