/- spec.l3One at a list. Conditions: as of the rest of it. -/
import Derived.Test.YtjmlfacbcfbhdaaGreatDoorYA
import Derived.Test.YtjmlfacbcfbhdaaGreatDoorY3
import Derived.BigQuiet
import Derived.WalkSmall
import Derived.Deep.AppendLies
import Derived.Deep.QuietTactic
set_option maxRecDepth 100000
set_option maxHeartbeats 8000000
namespace Go.Proofs.YtjmlfacbcfbhdaaGreatDoor
open Go.ChangeShapes Go.WideShapes Go.ChangeAt Go.RowKit
def OutAt (w:World) (N:Nat) (ta:Nat) (lv:Value):Prop:=w.heap[N]? = some (.cells #[.int .i64 3,.int .i64 ta,.int .i64 0,.string ⟨#[]⟩,lv] 72 (0,0))
theorem OutAt.c0 {w:World} {N ta:Nat} {lv:Value} (h:OutAt w N ta lv):w.cell? ⟨N,0,none⟩=some (.int .i64 3):=crw w N 0 _ _ _ h
theorem OutAt.c1 {w:World} {N ta:Nat} {lv:Value} (h:OutAt w N ta lv):w.cell? ⟨N,1,none⟩=some (.int .i64 ta):=crw w N 1 _ _ _ h
theorem OutAt.c2 {w:World} {N ta:Nat} {lv:Value} (h:OutAt w N ta lv):w.cell? ⟨N,2,none⟩=some (.int .i64 0):=crw w N 2 _ _ _ h
theorem OutAt.c3 {w:World} {N ta:Nat} {lv:Value} (h:OutAt w N ta lv):w.cell? ⟨N,3,none⟩=some (.string ⟨#[]⟩):=crw w N 3 _ _ _ h
theorem OutAt.c4 {w:World} {N ta:Nat} {lv:Value} (h:OutAt w N ta lv):w.cell? ⟨N,4,none⟩=some lv:=crw w N 4 _ _ _ h
theorem OutAt.fr {w:World} {N ta:Nat} {lv:Value} (h:OutAt w N ta lv) (j:Nat):w.frozen? ⟨N,j,none⟩=false:=fzr w N j _ _ h
theorem OutAt.set {w:World} {N ta:Nat} {lv:Value} (h:OutAt w N ta lv) (y:Value):OutAt (w.setCell ⟨N,4,none⟩ y) N ta y:=heap_setCell_same w N 4 _ _ y h
def jnA (w0 w wr:World) (R C N:Nat) (tv:Value) (ts:List Tok) (E f k:Nat) (ta:Nat) (kres:Rdr (List D)):Prop :=
 FrS w wr [C]∧Below w0.heap.size w0 wr∧w.heap.size+3≤wr.heap.size∧wr.heap[R]? = some (.cells #[.int .i64 0,.int .i64 0,.int .i64 0,.string ⟨#[]⟩,.slice none 0 0] 72 (0,0))∧∃ lv,OutAt wr N ta lv ∧
  ((∃ acc j m,k=m+1∧CuAt wr C tv (j:Nat) E (-1)∧(∃ la SS,Acc (w.heap.size+3) wr acc lv la SS)∧(lv=.slice none 0 0∨acc≠[])∧j≤ts.length∧jb4 E (one E (f+1)) (m+1) acc (ts.drop j)=kres∧ts.length-j≤m∧acc.length+(ts.length-j)≤ts.length∧ts.length-j≤f)
   ∨ (k=0∧∃ p z,kres=.bad p∧0≤p∧CuAt wr C tv z E p∧∃ q l c,lv=.slice q l c))
abbrev jeU (w:World) (C i:Nat) (o1 o2 o3:Obj):World:=((((w.setCell ⟨C,1,none⟩ (.int .i64 ((i:Int)+1))).alloc o1).alloc o2).alloc o3).drew.drew
theorem jlo {w:World} {C:Nat} {tv:Value} {i E:Nat} (h:CuAt w C tv i E (-1)) (o1 o2 o3:Obj) :
  FrS w (jeU w C i o1 o2 o3) [C]∧CuAt (jeU w C i o1 o2 o3) C tv ((i:Int)+1) E (-1)∧(jeU w C i o1 o2 o3).heap.size=w.heap.size+3∧(jeU w C i o1 o2 o3).heap[w.heap.size]? = some o1∧(jeU w C i o1 o2 o3).heap[w.heap.size+1+1]? = some o3:=by
 obtain ⟨q1,q2,q3,q4,q5⟩:=jgA h o1 o2
 have b:Below (jd9 w C i o1 o2).heap.size (jd9 w C i o1 o2) (jeU w C i o1 o2 o3):=by
  have hb:=newb (((w.setCell ⟨C,1,none⟩ (.int .i64 ((i:Int)+1))).alloc o1).alloc o2) o3
  exact ⟨hb.os,hb.tape,hb.output,hb.size,hb.block⟩
 have n3:=han (((w.setCell ⟨C,1,none⟩ (.int .i64 ((i:Int)+1))).alloc o1).alloc o2) o3
 have e:(((w.setCell ⟨C,1,none⟩ (.int .i64 ((i:Int)+1))).alloc o1).alloc o2).heap.size=w.heap.size+1+1:=q3
 rw [e] at n3
 refine ⟨q1.trans (FrS.below b _),q2.below b,?_,(b.block _ (by omega)).trans q4,n3⟩
 show (((((w.setCell ⟨C,1,none⟩ (.int .i64 ((i:Int)+1))).alloc o1).alloc o2).alloc o3).heap.size)=_
 simp [World.setCell]
abbrev finL (wr:World) (R C nq:Nat) (z:Value) (v0 v1 v2 v3 v4:Value):World:=(((((((wr.drewN nq).setCell ⟨C,1,none⟩ z).setCell ⟨R,0,none⟩ v0).setCell ⟨R,1,none⟩ v1).setCell ⟨R,2,none⟩ v2).setCell ⟨R,3,none⟩ v3).setCell ⟨R,4,none⟩ v4)
theorem jhA {wr:World} {R C nq x:Nat} {z v0 v1 v2 v3 v4:Value} (h1:x≠R) (h2:x≠C):(finL wr R C nq z v0 v1 v2 v3 v4).heap[x]? = wr.heap[x]? :=
 (jhX h1).trans (bhs (wr.drewN nq) ⟨C,1,none⟩ z x h2)
theorem jhB {w wr:World} {R C nq E:Nat} {tv:Value} {z y b:Int} {v0 v1 v2 v3 v4:Value} (hR:w.heap.size≤R) (hC:C≠R) (hfr:FrS w wr [C]) (hcu:CuAt wr C tv z E b) :
  FrS w (finL wr R C nq (.int .i64 y) v0 v1 v2 v3 v4) [C]∧CuAt (finL wr R C nq (.int .i64 y) v0 v1 v2 v3 v4) C tv y E b:=by
 have e1:(finL wr R C nq (.int .i64 y) v0 v1 v2 v3 v4).os=wr.os:=by simp only [finL,World.setCell,World.drewN]
 have e2:(finL wr R C nq (.int .i64 y) v0 v1 v2 v3 v4).tape=wr.tape:=by simp only [finL,World.setCell,World.drewN]
 have e3:(finL wr R C nq (.int .i64 y) v0 v1 v2 v3 v4).output=wr.output:=by simp only [finL,World.setCell,World.drewN]
 have e4:(finL wr R C nq (.int .i64 y) v0 v1 v2 v3 v4).heap.size=wr.heap.size:=by simp [World.setCell,World.drewN]
 refine ⟨⟨e1.trans hfr.os,e2.trans hfr.tape,e3.trans hfr.output,by rw [e4];exact hfr.size,fun x hx hn=>?_⟩,?_⟩
 ·exact (jhA (by omega) (by simpa using hn)).trans (hfr.block x hx hn)
 ·have h:CuAt (wr.drewN nq) C tv z E b:=hcu
  have e:=jhX (w:=(wr.drewN nq).setCell ⟨C,1,none⟩ (.int .i64 y)) (N:=R) (x:=C) (v0:=v0) (v1:=v1) (v2:=v2) (v3:=v3) (v4:=v4) hC
  have h2:=h.at' y
  unfold CuAt at h2 ⊢
  rw [←h2]
  exact e
theorem jhN {w0 w w2 w3:World} {R C N ta E:Nat} {tv lv:Value} {z b:Int} {o o' zz:Obj} (hRN:R=w.heap.size∧N=w.heap.size+2) (hC:C<R) (hC0:w0.heap.size≤C) (hfr:FrS w w2 [C]) (hbl:Below w0.heap.size w0 w2) (hsz:w.heap.size+3≤w2.heap.size) (hR:w2.heap[R]? = some zz) (hout:OutAt w2 N ta lv) (hcu:CuAt w2 C tv z E b)
  (hg:((w2.alloc o).alloc o').grownBy w3 lv.ownBlock) (hB:∀ x,lv.ownBlock=some x→w.heap.size+3≤x) :
  (w3.cell? ⟨N,4,none⟩=some lv∧w3.frozen? ⟨N,4,none⟩=false)∧∀ y,FrS w (w3.setCell ⟨N,4,none⟩ y) [C]∧Below w0.heap.size w0 (w3.setCell ⟨N,4,none⟩ y)∧w.heap.size+3≤(w3.setCell ⟨N,4,none⟩ y).heap.size∧(w3.setCell ⟨N,4,none⟩ y).heap[R]? = some zz∧OutAt (w3.setCell ⟨N,4,none⟩ y) N ta y∧CuAt (w3.setCell ⟨N,4,none⟩ y) C tv z E b∧∀ x,w.heap.size+3≤x→(w3.setCell ⟨N,4,none⟩ y).heap[x]? = w3.heap[x]? := by
 obtain ⟨rfl,rfl⟩:=hRN
 have hs1:((w2.alloc o).alloc o').heap.size=w2.heap.size+2:=by simp
 have hgs:=hg.size
 rw [hs1] at hgs
 have hfs:=hfr.size
 have hbs:=hbl.size
 have keep:∀ x,x<w.heap.size+3→w3.heap[x]? = w2.heap[x]? := fun x hx =>
  (hg.block x (by omega) (fun e=>by have:=hB x e.symm;omega)).trans ((bha (w2.alloc o) o' x (by simp;omega)).trans (bha w2 o x (by omega)))
 have hout3:OutAt w3 (w.heap.size+2) ta lv:=(keep _ (by omega)).trans hout
 have hfr3:FrS w w3 [C]:=⟨hg.os.trans hfr.os,hg.tape.trans hfr.tape,hg.output.trans hfr.output,by omega,fun x hx hn=>(keep x (by omega)).trans (hfr.block x hx hn)⟩
 refine ⟨⟨hout3.c4,hout3.fr 4⟩,fun y=>?_⟩
 have set:∀ x,x≠w.heap.size+2→(w3.setCell ⟨w.heap.size+2,4,none⟩ y).heap[x]? = w3.heap[x]? := fun x hx=>bhs w3 ⟨w.heap.size+2,4,none⟩ y x hx
 have hss:(w3.setCell ⟨w.heap.size+2,4,none⟩ y).heap.size=w3.heap.size:=by simp [World.setCell]
 have hfr4:FrS w (w3.setCell ⟨w.heap.size+2,4,none⟩ y) [C]:=⟨hfr3.os,hfr3.tape,hfr3.output,by omega,fun x hx hn=>(set x (by omega)).trans (hfr3.block x hx hn)⟩
 refine ⟨hfr4,?_,by omega,(set _ (by omega)).trans ((keep _ (by omega)).trans hR),hout3.set y,(set _ (by omega)).trans ((keep _ (by omega)).trans hcu),fun x hx=>set x (by omega)⟩
 exact ⟨hg.os.trans hbl.os,hg.tape.trans hbl.tape,hg.output.trans hbl.output,by omega,fun x hx=>(set x (by omega)).trans ((keep x (by omega)).trans (hbl.block x hx))⟩
theorem jm3 (w0:World) (C:Nat) (hC0:w0.heap.size≤C) (ts:List Tok) (g cap E f:Nat) (htv:TokCells w0 (.slice (some ⟨g,0,none⟩) ts.length cap) ts) (hts:ts.length≤4000) (hone:jjn w0 C (.slice (some ⟨g,0,none⟩) ts.length cap) ts E f)
  (w:World) (i:Nat) (hbel:Below w0.heap.size w0 w) (h:CuAt w C (.slice (some ⟨g,0,none⟩) ts.length cap) i E (-1)) (hi:i<ts.length) (hfu:ts.length-i≤f+1) (t:Tok) (hk:t.kind=1)
  (t0:w.cell? ⟨g,i*4,none⟩=some (.int .i64 t.kind)) (t1:w.cell? ⟨g,i*4+1,none⟩=some (.int .i64 t.at_)) (t2:w.cell? ⟨g,i*4+2,none⟩=some (.int .i64 t.n)) (t3:w.cell? ⟨g,i*4+3,none⟩=some (.string t.text)) (res:Rdr D)
  (hres:res=match jb4 E (one E (f+1)) ((ts.drop (i+1)).length+1) [] (ts.drop (i+1)) with
   | .bad p=>.bad p
   | .ok ds r1=>.ok (jir t ds) r1) :
  Calls Tryz.prog 86 #[.pointer (some ⟨C,0,none⟩)] w (jfb w C (.slice (some ⟨g,0,none⟩) ts.length cap) ts E res):=by
 obtain ⟨i0,hin,hz0,hz1,hz2⟩:=info_parts jfi
 have c0:=h.c0;have c1:=h.c1;have c2:=h.c2;have c3:=h.c3
 have hf:=h.fr 1;have hf3:=h.fr 3
 have hC:=h.lt
 have HTS:Hid (∀ o1 o2 o3,FrS w (jeU w C i o1 o2 o3) [C]∧CuAt (jeU w C i o1 o2 o3) C (.slice (some ⟨g,0,none⟩) ts.length cap) ((i:Int)+1) E (-1)∧(jeU w C i o1 o2 o3).heap.size=w.heap.size+3∧(jeU w C i o1 o2 o3).heap[w.heap.size]? = some o1∧(jeU w C i o1 o2 o3).heap[w.heap.size+1+1]? = some o3):=fun o1 o2 o3=>jlo h o1 o2 o3
 have HB:Hid (Below w0.heap.size w0 w):=hbel
 have HONE:Hid (jjn w0 C (.slice (some ⟨g,0,none⟩) ts.length cap) ts E f):=hone
 have HTV:Hid (TokCells w0 (.slice (some ⟨g,0,none⟩) ts.length cap) ts):=htv
 have HRES:Hid (res=match jb4 E (one E (f+1)) ((ts.drop (i+1)).length+1) [] (ts.drop (i+1)) with
   | .bad p=>.bad p
   | .ok ds r1=>.ok (jir t ds) r1):=hres
 have hl1:(ts.drop (i+1)).length=ts.length-(i+1):=by simp
 generalize hkr:jb4 E (one E (f+1)) ((ts.drop (i+1)).length+1) [] (ts.drop (i+1))=kres at *
 have HKR:Hid (jb4 E (one E (f+1)) (ts.length-(i+1)+1) [] (ts.drop (i+1))=kres):=by
  show _=_
  rw [←hl1];exact hkr
 clear h hres hbel hone htv hkr hl1
 obtain ⟨tk,ta,tn,tx⟩:=t
 simp only at t0 t1 t2 t3 hk HRES
 subst hk
 have a0:=fun x y=>jaG ((newb w x).trans ((newb _ y).mono (by simp))) _ _ c0;have a1:=fun x y=>jaG ((newb w x).trans ((newb _ y).mono (by simp))) _ _ c1;have a3:=fun x y=>jaG ((newb w x).trans ((newb _ y).mono (by simp))) _ _ c3
 have d0:=fun x=>jaG (newb w x) _ _ c0;have d1:=fun x=>jaG (newb w x) _ _ c1;have d2:=fun x=>jaG (newb w x) _ _ c2;have d3:=fun x=>jaG (newb w x) _ _ c3
 have hil:¬ ((ts.length:Int)≤(i:Int)):=by omega
 have b0:=fun x y=>jaG ((newb w x).trans ((newb _ y).mono (by simp))) _ _ t0;have b1:=fun x y=>jaG ((newb w x).trans ((newb _ y).mono (by simp))) _ _ t1;have b2:=fun x y=>jaG ((newb w x).trans ((newb _ y).mono (by simp))) _ _ t2;have b3:=fun x y=>jaG ((newb w x).trans ((newb _ y).mono (by simp))) _ _ t3
 have e0:=fun x=>jaG (newb w x) _ _ t0;have e1:=fun x=>jaG (newb w x) _ _ t1;have e2:=fun x=>jaG (newb w x) _ _ t2;have e3:=fun x=>jaG (newb w x) _ _ t3
 go_enter Tryz.func86,Tryz.ntmps86
 go_wp2_with fail
 go_region
 all_goals
  go_wp2_with fail
  go_region
  all_goals
   go_wp2_with fail
   obtain ⟨q1,q2,q3,q4,q5⟩:=HTS.out (.cells #[.int .i64 0,.int .i64 0,.int .i64 0,.string ⟨#[]⟩,.slice none 0 0] 72) (.cells #[.int .i64 1,.int .i64 ta,.int .i64 tn,.string tx] 166) (.cells #[.int .i64 3,.int .i64 ta,.int .i64 0,.string ⟨#[]⟩,.slice none 0 0] 72)
   unfold jeU at q1 q2 q3 q4 q5
   have H0:Hid (jnA w0 w _ w.heap.size C (w.heap.size+1+1) (.slice (some ⟨g,0,none⟩) ts.length cap) ts E f (ts.length-(i+1)+1) ta kres) :=
    ⟨q1,q1.below0 HB.out hC0,by omega,q4,.slice none 0 0,q5,.inl ⟨[],i+1,ts.length-(i+1),rfl,q2,⟨[],[],Acc.nil _ _⟩,.inl rfl,by omega,HKR.out,nlr _,by simp,by omega⟩⟩
   clear q1 q2 q3 q4 q5 a0 a1 a3 d0 d1 d2 d3 b0 b1 b2 b3 e0 e1 e2 e3 t0 t1 t2 t3 c0 c1 c2 c3 hf hf3 HTS hil HKR
   obtain ⟨R,hR,N,hN⟩:∃ R,w.heap.size=R∧∃ N,w.heap.size+1+1=N:=⟨_,rfl,_,rfl⟩
   have HRN:Hid (R=w.heap.size∧N=w.heap.size+2):=⟨hR.symm,hN.symm⟩
   rw [hN] at H0
   rw [hN]
   rw [hR] at H0 hC
   rw [hR]
   clear hR hN
   rw [dqf (show ¬ ts.length≤i by omega)]
   go_loopg [] (ts.length-(i+1)+1) (fun k wr=>jnA w0 w wr R C N (.slice (some ⟨g,0,none⟩) ts.length cap) ts E f k ta kres)
   case atStart=>exact H0.out
   case round =>
    obtain ⟨hfr,hbl,hsz,hoR,lv,hout,hcase⟩:=hrel
    have HF:Hid (FrS w wr [C]∧Below w0.heap.size w0 wr∧OutAt wr N ta lv):=⟨hfr,hbl,hout⟩
    have HR:Hid (wr.heap[R]? = some (.cells #[.int .i64 0,.int .i64 0,.int .i64 0,.string ⟨#[]⟩,.slice none 0 0] 72 (0,0))):=hoR
    have r0:=crw wr R 0 _ _ _ hoR;have r1:=crw wr R 1 _ _ _ hoR;have r2:=crw wr R 2 _ _ _ hoR;have r3:=crw wr R 3 _ _ _ hoR;have r4:=crw wr R 4 _ _ _ hoR
    simp only [List.getElem?_toArray,List.getElem?_cons_zero,List.getElem?_cons_succ] at r0 r1 r2 r3 r4
    have rf:∀ j,wr.frozen? ⟨R,j,none⟩=false:=fun j=>fzr wr R j _ _ hoR
    have rf0:=rf 0;have rf1:=rf 1;have rf2:=rf 2;have rf3:=rf 3;have rf4:=rf 4
    clear hfr hbl hout H0 hoR rf
    rcases hcase with ⟨acc,j,m,hkm,hcu,hac,hnil,hjle,heq,hfuel,hfew,hjf⟩|⟨hk0,p,z,hkp,hp0,hcu,q,l,c,rfl⟩
    ·have HCU:Hid (CuAt wr C (.slice (some ⟨g,0,none⟩) ts.length cap) (j:Nat) E (-1)):=hcu
     have c0:=hcu.c0;have c1:=hcu.c1;have c3:=hcu.c3;have cf:=hcu.fr 1
     have o0:=HF.out.2.2.c0;have o1:=HF.out.2.2.c1;have o2:=HF.out.2.2.c2;have o3:=HF.out.2.2.c3;have o4:=HF.out.2.2.c4
     have n1:C≠N:=by have:=HRN.out;omega
     have n2:N≠C:=by have:=HRN.out;omega
     have n3:C≠R:=by omega
     have n4:R≠C:=by omega
     clear hcu
     by_cases hk2:∃ h:j<ts.length,ts[j].kind=2
     ·obtain ⟨hjl,hk2⟩:=hk2
      obtain ⟨g',cap',hgv,t0,-⟩:=jnh (HTV.out.below HF.out.2.1) j hjl
      injection hgv with hgv _ hcap
      injection hgv with hgv
      injection hgv with hgv
      subst hgv hcap
      rw [hk2] at t0
      have hdrop:ts.drop j=ts[j]::ts.drop (j+1):=List.drop_eq_getElem_cons hjl
      have hkr:kres=.ok acc (ts.drop (j+1)):=by
       rw [←heq,hdrop]
       show (if _ then _ else _)=_
       rw [if_pos hk2]
      subst hkr
      obtain ⟨la,SS,hacc⟩:=hac
      obtain ⟨S,hS,hSn,hSB⟩:=hacc.sown hnil
      obtain ⟨pv,cv,rfl⟩:=hS.sl.shape
      have HS:Hid (SOwn wr acc.length (jav acc) (.slice pv acc.length cv) S∧S.Nodup∧∀ x∈S,w.heap.size+3≤x):=⟨hS,hSn,hSB⟩
      have hjn:¬ ((ts.length:Int)≤(j:Int)):=by omega
      have hjd:decide ((ts.length:Int)≤(j:Int))=false:=dqf hjn
      have hjd2:decide (ts.length≤j)=false:=dqf (by omega)
      clear hS hSn hSB hacc hdrop hk2 heq hnil hfew hfuel
      go_wp2_with fail
      go_quiet (fail)
      all_goals
       go_wp2_with fail
       refine bpr (v:=.agg #[.int .i64 3,.int .i64 ta,.int .i64 0,.string ⟨#[]⟩,.slice pv acc.length cv]) (by rw [jaT (p:=2) (ty:=72) (by kernel_rfl)];simp [go_sem,r0,r1,r2,r3,r4]) rfl ?_
       obtain ⟨x1,x2⟩:=jhB (nq:=nq) (y:=(j:Int)+1) (v0:=.int .i64 3) (v1:=.int .i64 ta) (v2:=.int .i64 0) (v3:=.string ⟨#[]⟩) (v4:=.slice pv acc.length cv) (Nat.le_of_eq HRN.out.1.symm) n3 HF.out.1 HCU.out
       obtain ⟨y1,y2,y3⟩:=HS.out
       rw [HRES.out]
       exact ⟨x1,.slice pv acc.length cv,S,j+1,rfl,jlV (y1.same (fun x hx=>jhA (by have:=y3 x hx;have:=HRN.out;omega) (by have:=y3 x hx;have:=HRN.out;omega))),y2,(fun x hx=>by have:=y3 x hx;omega),rfl,by omega,x2⟩
     ·have hdd:j=ts.length∨∃ h:j<ts.length,ts[j].kind≠2:=by
       rcases Nat.lt_or_ge j ts.length with h|h
       ·exact .inr ⟨h,fun e=>hk2 ⟨h,e⟩⟩
       ·exact .inl (by omega)
      have heq2:(match one E (f+1) (ts.drop j) with | .bad p=>(.bad p:Rdr (List D)) | .ok d r1=>jb4 E (one E (f+1)) m (acc++[d]) r1)=kres:=by
       rw [←heq]
       rcases hdd with h|⟨h,hn⟩
       ·subst h;simp [jb4,one]
       ·rw [List.drop_eq_getElem_cons h]
        show _=(if _ then _ else _)
        rw [if_neg hn]
        rfl
      have HEQ:Hid ((match one E (f+1) (ts.drop j) with | .bad p=>(.bad p:Rdr (List D)) | .ok d r1=>jb4 E (one E (f+1)) m (acc++[d]) r1)=kres):=heq2
      obtain ⟨la,SS,hacc⟩:=hac
      have HACC:Hid (Acc (w.heap.size+3) wr acc lv la SS):=hacc
      have HJ:Hid (ts.length-j≤m∧acc.length+(ts.length-j)≤ts.length∧ts.length-j≤f∧j≤ts.length):=⟨hfuel,hfew,hjf,hjle⟩
      clear heq heq2 hacc hnil hk2 hfuel hfew hjf hjle
      have HGO:Hid (∀ nq,Calls Tryz.prog 86 #[.pointer (some ⟨C,0,none⟩)] (wr.drewN nq) (jfb (wr.drewN nq) C (.slice (some ⟨g,0,none⟩) ts.length cap) ts E (one E (f+1) (ts.drop j)))) :=
       fun nq=>HONE.out (wr.drewN nq) j (below_drewN HF.out.2.1 nq) HCU.out HJ.out.2.2.2 HJ.out.2.2.1
      clear HONE
      rcases hdd with hje|⟨hjl,hkn⟩
      case' inl =>
       have hjd:decide ((ts.length:Int)≤(j:Int))=true:=dqt (by omega)
       have hjd1:(ts.length:Int)≤(j:Int):=by omega
       have hjd2:ts.length≤j:=by omega
       clear hje HTV
       go_wp2_with fail
       go_quiet (fail)
      case' inr =>
       obtain ⟨g',cap',hgv,t0,-⟩:=jnh (HTV.out.below HF.out.2.1) j hjl
       injection hgv with hgv _ hcap
       injection hgv with hgv
       injection hgv with hgv
       subst hgv hcap
       have hjn:¬ ((ts.length:Int)≤(j:Int)):=by omega
       have hjd:decide ((ts.length:Int)≤(j:Int))=false:=dqf hjn
       have hjd2:decide (ts.length≤j)=false:=dqf (by omega)
       have hkn1:(ts[j].kind != 2)=true:=by simpa using hkn
       have hkn3:(ts[j].kind==2)=false:=by simpa using hkn
       generalize ts[j].kind=kj at *
       clear HTV
       go_wp2_with fail
       go_quiet (fail)
      all_goals
       go_wp2_with fail
       refine (HGO.out nq).mono ?_
       rintro e w2 ⟨hf2,hm⟩
       have hsz2:w.heap.size+3≤w2.heap.size:=by
        have h1:=hf2.size
        have h2:(wr.drewN nq).heap.size=wr.heap.size:=rfl
        omega
       have hfw:FrS w w2 [C]:=HF.out.1.trans (show FrS wr w2 [C] from ⟨hf2.os,hf2.tape,hf2.output,hf2.size,hf2.block⟩)
       have hblk:∀ x,x<wr.heap.size→x≠C→w2.heap[x]? = wr.heap[x]? := fun x hx hn=>hf2.block x hx (by simpa using hn)
       have hbel2:Below w0.heap.size w0 w2:=hf2.below0 (below_drewN HF.out.2.1 nq) hC0
       have hR2:w2.heap[R]? = some (.cells #[.int .i64 0,.int .i64 0,.int .i64 0,.string ⟨#[]⟩,.slice none 0 0] 72 (0,0)):=(hblk R (by have:=HRN.out;omega) n4).trans HR.out
       have hout2:OutAt w2 N ta lv:=(hblk N (by have:=HRN.out;omega) n2).trans HF.out.2.2
       have hacc2:Acc (w.heap.size+3) w2 acc lv la SS:=HACC.out.same (fun x h1 h2=>hblk x h2 (by have:=HRN.out;omega))
       have hlB:∀ x,lv.ownBlock=some x→w.heap.size+3≤x:=fun x e=>(HACC.out.out x e).2
       have p4:=fun o=>jaG (newb w2 o) _ _ hout2.c4
       have q4:=fun o o'=>jaG ((newb w2 o).trans ((newb _ o').mono (by simp))) _ _ hout2.c4
       have hfew:acc.length≤4000:=by have:=HJ.out;omega
       have HW:Hid (FrS w w2 [C]∧Below w0.heap.size w0 w2∧w2.heap[R]? = some (.cells #[.int .i64 0,.int .i64 0,.int .i64 0,.string ⟨#[]⟩,.slice none 0 0] 72 (0,0))∧OutAt w2 N ta lv∧Acc (w.heap.size+3) w2 acc lv la SS):=⟨hfw,hbel2,hR2,hout2,hacc2⟩
       have HS2:Hid (wr.heap.size≤w2.heap.size):=hf2.size
       clear hf2 hfw hblk hbel2 hR2 hout2 hacc2 r0 r1 r2 r3 r4 rf0 rf1 rf2 rf3 rf4 c0 c1 c3 cf o0 o1 o2 o3 o4 HR HGO HCU
       cases hres:one E (f+1) (ts.drop j) with
       | bad p =>
        rw [hres] at hm
        have HK:Hid (kres=.bad p):=by
         have h:=HEQ.out
         rw [hres] at h
         exact h.symm
        obtain ⟨⟨v,rfl,va,vb,vc,vs,vp,vl,vk,rfl⟩,hp0,z,hcu2⟩:=hm
        have HCU2:Hid (CuAt w2 C (.slice (some ⟨g,0,none⟩) ts.length cap) z E p):=hcu2
        clear hcu2 HEQ hres
        go_wp2_with (at_builtin;refine wpList_append_lies _ rfl _ _ 70 rfl 0 72 i0 _ 5 64 Tryz.underlying70 hin hz0 hz1 hz2 rfl (by decide) lv acc.length (jaF la) rfl ((HW.out.2.2.2.2.own.alloc _).alloc _) ⟨w2.heap.size+1,0,none⟩ 1 1 [.int .i64 va,.int .i64 vb,.int .i64 vc,.string vs,.slice vp vl vk] rfl rfl ?c1 ?c2 (by decide) ?c3 ?c4 (nzl _) (w2.heap.size+1+1) (by simp) ?_)
        case c1 =>
         have hn:=han (w2.alloc (.cells #[.int .i64 va,.int .i64 vb,.int .i64 vc,.string vs,.slice vp vl vk] 72)) (.cells #[.int .i64 va,.int .i64 vb,.int .i64 vc,.string vs,.slice vp vl vk] 72)
         rw [show (w2.alloc (.cells #[.int .i64 va,.int .i64 vb,.int .i64 vc,.string vs,.slice vp vl vk] 72)).heap.size=w2.heap.size+1 from by simp] at hn
         exact World.news_of_block hn
        case c2=>simp [Value.oneCell']
        case c3=>unfold maxLen;omega
        case c4=>omega
        intro gg cap3 w3 hown3 hgrow hat hlt3
        obtain ⟨k1,k2⟩:=jhN HRN.out hC hC0 HW.out.1 HW.out.2.1 hsz2 HW.out.2.2.1 HW.out.2.2.2.1 HCU2.out hgrow hlB
        have k4:=k1.1;have kf:=k1.2
        have HN:Hid (jnA w0 w (w3.setCell ⟨N,4,none⟩ (.slice (some ⟨gg,0,none⟩) (acc.length+1) cap3)) R C N (.slice (some ⟨g,0,none⟩) ts.length cap) ts E f 0 ta kres):=by
         obtain ⟨s1,s2,s3,s4,s5,s6,s7⟩:=k2 (.slice (some ⟨gg,0,none⟩) (acc.length+1) cap3)
         exact ⟨s1,s2,s3,s4,_,s5,.inr ⟨rfl,p,z,HK.out,hp0,s6,_,_,_,rfl⟩⟩
        clear k1 k2 hown3 hgrow hat hlt3 HW p4 q4 HK HCU2
        go_wp2_with fail
        go_roundg 0
        case measure=>omega
        case rel=>exact HN.out
       | ok d r =>
        rw [hres] at hm
        have hless:=(je1 E (f+1) _ _ _ hres).1
        have HK:Hid (jb4 E (one E (f+1)) m (acc++[d]) r=kres):=by
         have h:=HEQ.out
         rw [hres] at h
         exact h
        obtain ⟨v,T,i',rfl,hdo,hTn,hTB,rfl,hi',hcu2⟩:=hm
        rw [List.length_drop,List.length_drop] at hless
        have hgk:1≤m:=by have:=HJ.out;omega
        obtain ⟨pv,cv,ev⟩:=hdo.sown.sl.shape
        subst ev
        have HCU2:Hid (CuAt w2 C (.slice (some ⟨g,0,none⟩) ts.length cap) (i':Nat) E (-1)):=hcu2
        have HD:Hid (DOwn w2 d (.slice pv d.len cv) T∧T.Nodup∧(∀ x∈T,wr.heap.size≤x)):=⟨hdo,hTn,hTB⟩
        have HI:Hid (i'≤ts.length∧j<i'):=⟨hi',by omega⟩
        clear hcu2 HEQ hres hdo hTn hTB hless hi'
        go_wp2_with (at_builtin;refine wpList_append_lies _ rfl _ _ 70 rfl 0 72 i0 _ 5 64 Tryz.underlying70 hin hz0 hz1 hz2 rfl (by decide) lv acc.length (jaF la) rfl ((HW.out.2.2.2.2.own.alloc _).alloc _) ⟨w2.heap.size+1,0,none⟩ 1 1 [.int .i64 d.op,.int .i64 d.at_,.int .i64 d.n,.string d.s,.slice pv d.len cv] rfl rfl ?c1 ?c2 (by decide) ?c3 ?c4 (nzl _) (w2.heap.size+1+1) (by simp) ?_)
        case c1 =>
         have hn:=han (w2.alloc (.cells #[.int .i64 d.op,.int .i64 d.at_,.int .i64 d.n,.string d.s,.slice pv d.len cv] 72)) (.cells #[.int .i64 d.op,.int .i64 d.at_,.int .i64 d.n,.string d.s,.slice pv d.len cv] 72)
         rw [show (w2.alloc (.cells #[.int .i64 d.op,.int .i64 d.at_,.int .i64 d.n,.string d.s,.slice pv d.len cv] 72)).heap.size=w2.heap.size+1 from by simp] at hn
         exact World.news_of_block hn
        case c2=>simp [Value.oneCell']
        case c3=>unfold maxLen;omega
        case c4=>omega
        intro gg cap3 w3 hown3 hgrow hat hlt3
        obtain ⟨k1,k2⟩:=jhN HRN.out hC hC0 HW.out.1 HW.out.2.1 hsz2 HW.out.2.2.1 HW.out.2.2.2.1 HCU2.out hgrow hlB
        have k4:=k1.1;have kf:=k1.2
        have HN:Hid (jnA w0 w (w3.setCell ⟨N,4,none⟩ (.slice (some ⟨gg,0,none⟩) (acc.length+1) cap3)) R C N (.slice (some ⟨g,0,none⟩) ts.length cap) ts E f m ta kres):=by
         obtain ⟨s1,s2,s3,s4,s5,s6,s7⟩:=k2 (.slice (some ⟨gg,0,none⟩) (acc.length+1) cap3)
         obtain ⟨d1,d2,d3⟩:=HD.out
         have hb1:=newb w2 (.cells #[.int .i64 d.op,.int .i64 d.at_,.int .i64 d.n,.string d.s,.slice pv d.len cv] 72)
         have hss:(w2.alloc (.cells #[.int .i64 d.op,.int .i64 d.at_,.int .i64 d.n,.string d.s,.slice pv d.len cv] 72)).heap.size=w2.heap.size+1:=by simp
         have a1:=HW.out.2.2.2.2.same (w':=w2.alloc (.cells #[.int .i64 d.op,.int .i64 d.at_,.int .i64 d.n,.string d.s,.slice pv d.len cv] 72)) (fun x _ hx=>hb1.block x hx)
         have a2:=d1.same (w':=w2.alloc (.cells #[.int .i64 d.op,.int .i64 d.at_,.int .i64 d.n,.string d.s,.slice pv d.len cv] 72)) _ (fun x hx=>hb1.block x (d1.there _ x hx))
         have a3:=a1.app a2 d2 (fun x hx h=>by have h1:=HACC.out.lt x h;have h2:=d3 x hx;omega) (fun x hx h=>by have h1:=(HACC.out.own.lt x h).2;have h2:=d3 x hx;omega) (fun x hx=>by have h2:=d3 x hx;omega) (by rw [hss];omega) hown3 hgrow (by rw [hss];exact hat)
         have a4:=a3.same (w':=w3.setCell ⟨N,4,none⟩ (.slice (some ⟨gg,0,none⟩) (acc.length+1) cap3)) (fun x hx _=>s7 x hx)
         have hJ:=HJ.out
         have hI:=HI.out
         exact ⟨s1,s2,s3,s4,_,s5,.inl ⟨acc++[d],i',m-1,by omega,s6,⟨_,_,a4⟩,.inr (by simp),hI.1,by rw [show m-1+1=m from by omega];exact HK.out,by omega,by rw [lla,List.length_singleton];omega,by omega⟩⟩
        clear k1 k2 hown3 hgrow hat hlt3 HW p4 q4 HK HCU2 HD HI
        go_wp2_with fail
        go_roundg m
        case measure=>omega
        case rel=>exact HN.out
    ·subst hk0 hkp
     have HCU:Hid (CuAt wr C (.slice (some ⟨g,0,none⟩) ts.length cap) z E p):=hcu
     have c0:=hcu.c0;have c1:=hcu.c1;have c3:=hcu.c3;have cf:=hcu.fr 1
     have o0:=HF.out.2.2.c0;have o1:=HF.out.2.2.c1;have o2:=HF.out.2.2.c2;have o3:=HF.out.2.2.c3;have o4:=HF.out.2.2.c4
     have hp:decide (p<0)=false:=dqf (by omega)
     have n1:C≠N:=by have:=HRN.out;omega
     have n2:N≠C:=by have:=HRN.out;omega
     have n3:C≠R:=by omega
     have n4:R≠C:=by omega
     clear hcu
     go_wp2_with fail
     go_quiet (fail)
     all_goals
      go_wp2_with fail
      refine bpr (v:=.agg #[.int .i64 3,.int .i64 ta,.int .i64 0,.string ⟨#[]⟩,.slice q l c]) (by rw [jaT (p:=2) (ty:=72) (by kernel_rfl)];simp [go_sem,r0,r1,r2,r3,r4]) rfl ?_
      obtain ⟨x1,x2⟩:=jhB (nq:=nq) (y:=wrap64 (z+1)) (v0:=.int .i64 3) (v1:=.int .i64 ta) (v2:=.int .i64 0) (v3:=.string ⟨#[]⟩) (v4:=.slice q l c) (Nat.le_of_eq HRN.out.1.symm) n3 HF.out.1 HCU.out
      rw [HRES.out]
      exact ⟨x1,⟨_,rfl,_,_,_,_,_,_,_,rfl⟩,hp0,_,x2⟩
end Go.Proofs.YtjmlfacbcfbhdaaGreatDoor
