/- impl.SameStx. Condition: at most 2^20 data, each set of at most 2^22. -/
import Derived.Test.YtjmlfacbcfbhdaaGreatDoorYA
import Derived.Test.YtjmlfacbcfbhdaaGreatDoorRows
import Derived.Test.YtjmlfacbcfbhdaaGreatDoorY47
import Derived.Test.YtjmlfacbcfbhdaaGreatDoorY21
import Derived.Test.YtjmlfacbcfbhdaaGreatDoorY0
import Derived.Deep.RegionLaw
import Derived.Deep.AppendLies
import Derived.Deep.LoopGhost
import Derived.Laws.OwnMore
set_option maxRecDepth 100000
set_option maxHeartbeats 8000000
namespace Go.Proofs.YtjmlfacbcfbhdaaGreatDoor
open Go.ChangeShapes Go.WideShapes Go.ChangeAt Go.RowKit
theorem XsB.fn {R:World→Value→List Int→Prop} {B:Nat} {w:World} {len:Nat} {kid:Nat→X} {v:Value} (h:XsB R B w len kid v):∃ (p:Option Addr) (cap:Nat) (U:Nat→Value×Value),v=.slice p len cap∧len≤maxLen ∧
  ∀ i,i<len→∃ b o,p=some ⟨b,o,none⟩∧Head6 w b (o+i*6) (kid i) (U i).1 (U i).2∧(kid i).InB R B w (U i).1 (U i).2:=by
 rcases h with ⟨rfl,p,cap,rfl⟩|⟨b,o,cap,U,V,rfl,hB,h1,h2,h3⟩
 ·exact ⟨p,cap,fun _=>(.nilIface,.nilIface),rfl,nzl _,fun i hi=>by omega⟩
 ·exact ⟨_,cap,fun i=>(U i,V i),rfl,Nat.le_trans h1 h2,fun i hi=>⟨b,o,rfl,h3 i hi⟩⟩
theorem X.Small.set {t:X} (h:t.Small):t.set.length≤4194304:=by
 cases t with
 | no=>simp [X.set]
 | mk op a n s set len kid=>exact h.1
theorem X.Small.kid {t:X} (h:t.Small) (i:Nat) (hi:i<t.len):(t.kid i).Small:=by
 cases t with
 | no=>simp [X.len] at hi
 | mk op a n s set len kid=>exact h.2 i hi
theorem jku (x y:X) (p q:Option Addr) (c1 c2:Nat) (su sv:Value) (w:World) (hsu:SetB 0 w su x.set) (hsv:SetB 0 w sv y.set) (hl1:x.set.length≤4194304) (hl2:y.set.length≤4194304) :
  Calls Tryz.prog 22 #[.agg #[.int .i64 x.op,.int .i64 x.at_,.int .i64 x.n,.string x.s,su,.slice p x.len c1,.int .i64 y.op,.int .i64 y.at_,.int .i64 y.n,.string y.s,sv,.slice q y.len c2]] w fun e w'=>e=.returned (.bool (jek x y))∧Below w.heap.size w w':=by
 have hh:=jft x y
 have HSS:Hid (∀ w1,Below w.heap.size w w1→Calls Tryz.prog 49 #[su,sv] w1 fun e w'=>e=.returned (.bool (jcw x.set y.set))∧Below w1.heap.size w1 w'):=fun w1 hb=>jg0 _ _ _ _ w1 (hsu.rd.below hb) (hsv.rd.below hb) hl1 hl2
 clear hsu hsv hl1 hl2
 generalize jek x y=R at *
 generalize jcw x.set y.set=SB at *
 generalize x.op=op at *
 generalize x.at_=a at *
 generalize x.n=n at *
 generalize x.s=s at *
 generalize x.len=len at *
 generalize y.op=op2 at *
 generalize y.at_=a2 at *
 generalize y.n=n2 at *
 generalize y.s=s2 at *
 generalize y.len=len2 at *
 have HB:Hid (∀ o1,Below w.heap.size w (w.alloc o1)):=fun o1=>newx w _
 rcases hh with ⟨hR,t0,t1,t2,t5,t3⟩|⟨hR,c|⟨c0,c|⟨c1,c|⟨c2,c|⟨c5,c⟩⟩⟩⟩⟩
 ·subst hR t0 t1 t2 t5 t3
  go_enter Tryz.func22,Tryz.ntmps22
  go_wp2_with fail
  refine (HSS.out _ (newx w _)).mono ?_
  rintro e w1 ⟨rfl,hb1⟩
  have hP:w1.heap[w.heap.size]? = some (.cells #[.int .i64 op,.int .i64 a,.int .i64 n,.string s,su,.slice p len c1,.int .i64 op,.int .i64 a2,.int .i64 n,.string s,sv,.slice q len c2] 54 (0,0)):=(hb1.block _ (by simp)).trans (han w _)
  have p5:w1.cell? ⟨w.heap.size,5,none⟩=some (.slice p len c1):=crw w1 _ 5 _ _ _ hP
  have p11:w1.cell? ⟨w.heap.size,11,none⟩=some (.slice q len c2):=crw w1 _ 11 _ _ _ hP
  have HB1:Hid (Below w.heap.size w w1):=(newx w _).trans (hb1.mono (by simp))
  clear hb1 hP
  go_wp2_with fail
  go_ret
  exact ⟨rfl,HB1.out⟩
 ·subst hR
  have d1:(op==op2)=false:=by simpa using c
  go_enter Tryz.func22,Tryz.ntmps22
  go_wp2_with fail
  go_ret
  exact ⟨rfl,HB.out _⟩
 ·subst hR c0
  have d1:(n==n2)=false:=by simpa using c
  go_enter Tryz.func22,Tryz.ntmps22
  go_wp2_with fail
  go_ret
  exact ⟨rfl,HB.out _⟩
 ·subst hR c0 c1
  go_enter Tryz.func22,Tryz.ntmps22
  go_wp2_with fail
  go_ret
  exact ⟨rfl,HB.out _⟩
 ·subst hR c0 c1 c2 c
  go_enter Tryz.func22,Tryz.ntmps22
  go_wp2_with fail
  refine (HSS.out _ (newx w _)).mono ?_
  rintro e w1 ⟨rfl,hb1⟩
  have HB1:Hid (Below w.heap.size w w1):=(newx w _).trans (hb1.mono (by simp))
  clear hb1
  go_wp2_with fail
  go_ret
  exact ⟨rfl,HB1.out⟩
 ·subst hR c0 c1 c2 c5
  have d1:((len:Int)==(len2:Int))=false:=by rw [beq_eq_false_iff_ne];omega
  go_enter Tryz.func22,Tryz.ntmps22
  go_wp2_with fail
  refine (HSS.out _ (newx w _)).mono ?_
  rintro e w1 ⟨rfl,hb1⟩
  have hP:w1.heap[w.heap.size]? = some (.cells #[.int .i64 op,.int .i64 a,.int .i64 n,.string s,su,.slice p len c1,.int .i64 op,.int .i64 a2,.int .i64 n,.string s,sv,.slice q len2 c2] 54 (0,0)):=(hb1.block _ (by simp)).trans (han w _)
  have p5:w1.cell? ⟨w.heap.size,5,none⟩=some (.slice p len c1):=crw w1 _ 5 _ _ _ hP
  have p11:w1.cell? ⟨w.heap.size,11,none⟩=some (.slice q len2 c2):=crw w1 _ 11 _ _ _ hP
  have HB1:Hid (Below w.heap.size w w1):=(newx w _).trans (hb1.mono (by simp))
  clear hb1 hP
  go_wp2_with fail
  go_ret
  exact ⟨rfl,HB1.out⟩
theorem jkZ:(Tryz.prog.info? 54).map (fun i=>(i.zero,i.size,i.bytes))=some (some (.agg #[.int .i64 0,.int .i64 0,.int .i64 0,.string ⟨#[]⟩,.slice none 0 0,.slice none 0 0,.int .i64 0,.int .i64 0,.int .i64 0,.string ⟨#[]⟩,.slice none 0 0,.slice none 0 0]),12,176):=by kernel_rfl
theorem jlN {w wr w3:World} {o1 o2:Obj} {g' PB j:Nat} {x:Value} (hbel:Below w.heap.size w wr) (hg:((wr.alloc o1).alloc o2).drew.grownBy w3 (some g')) (hb3:w.heap.size+2≤g') (hsz:PB<wr.heap.size) (hne:g'≠PB) (hq:wr.cell? ⟨PB,j,none⟩=some x) :
  Below w.heap.size w w3∧PB<w3.heap.size∧w3.cell? ⟨PB,j,none⟩=some x:=by
 have h1:Below wr.heap.size wr ((wr.alloc o1).alloc o2).drew:=((newx wr o1).trans ((newx _ o2).mono (by simp))).drew
 have h2:=hg.size
 have h3:=h1.size
 have h4:=hbel.size
 refine ⟨(hbel.trans (h1.mono h4)).trans ⟨hg.os,hg.tape,hg.output,hg.size,fun j hj=>hg.block j (by omega) (by intro e;injection e with e;omega)⟩,by omega,hg.cell (jat h1 _ _ hq) (by simpa using fun e=>hne e.symm)⟩
structure LeftX (w wr:World) (R:Bool) (st:List XP) (g cap:Nat):Prop where
 all:jbc st=R
 ins:joV w st
 own:wr.ownsRow (w.heap.size+2) 54 12 (.slice (some ⟨g,0,none⟩) st.length cap) st.length (jbC st)
 bel:Below w.heap.size w wr
 size:w.heap.size+2≤wr.heap.size
theorem jfw (x y:X) (w:World) (su u sv v:Value) (hu:x.At 0 w su u) (hv:y.At 0 w sv v) (hsx:x.Small) (hsy:y.Small) (hc:x.count≤1048577) :
  Calls Tryz.prog 8 #[.agg #[.int .i64 x.op,.int .i64 x.at_,.int .i64 x.n,.string x.s,su,u],.agg #[.int .i64 y.op,.int .i64 y.at_,.int .i64 y.n,.string y.s,sv,v]] w fun e w'=>e=.returned (.bool (sameX x y))∧Below w.heap.size w w':=by
 obtain ⟨i0,hi,hz0,hz1,hz2⟩:=info_parts jkZ
 obtain ⟨p,cap,e1⟩:=hu.xs.shape
 obtain ⟨ps,caps,e3⟩:=hu.sets.shape
 obtain ⟨q,cap2,e2⟩:=hv.xs.shape
 obtain ⟨qs,cap2s,e4⟩:=hv.sets.shape
 have H0:Hid (jbc [(x,y,(su,u),(sv,v))]=sameX x y∧jbB [(x,y,(su,u),(sv,v))]≤1048577∧joV w [(x,y,(su,u),(sv,v))]):=⟨by simp [jbc],by simpa [jbB] using hc,by intro q hq;simp only [List.mem_singleton] at hq;subst hq;exact ⟨⟨hu,hsx⟩,⟨hv,hsy⟩⟩⟩
 clear hu hv hc hsx hsy
 generalize hR:sameX x y=R at *
 generalize hn:jbB [(x,y,(su,u),(sv,v))]=n0 at *
 have HN:Hid (jbB [(x,y,(su,u),(sv,v))]=n0):=hn
 clear hR hn
 subst e1 e2 e3 e4
 go_enter Tryz.func8,Tryz.ntmps8
 go_wp2_with fail
 go_loopg [5] n0 (fun k lv wr=>∃ (st:List XP) (g cap:Nat),jbB st=k∧k≤1048577∧lv=.slice (some ⟨g,0,none⟩) st.length cap∧LeftX w wr R st g cap)
 case atStart =>
  have hb:∀ o1 o2 o3,Below w.heap.size w (((w.alloc o1).alloc o2).alloc o3)∧w.heap.size+2≤(((w.alloc o1).alloc o2).alloc o3).heap.size:=fun o1 o2 o3=>⟨Below.trans (newx w _) (Below.trans ((newx _ _).mono (B':=w.heap.size) (by simp)) ((newx _ _).mono (B':=w.heap.size) (by simp;omega))),by simp⟩
  refine ⟨_,_,_,HN.out,H0.out.2.1,rfl,H0.out.1,H0.out.2.2,?_,(hb _ _ _).1,(hb _ _ _).2⟩
  exact jmG rfl (by simp) (by omega) rfl rfl (by unfold maxLen;omega)
 case round =>
  obtain ⟨st,g,gc,hst,hk,rfl,hL⟩:=hrel
  have HST:Hid (jbB st=gk):=hst
  have HL:Hid (LeftX w wr R st g gc):=hL
  clear hst hL H0 HN
  rcases List.eq_nil_or_concat st with hnil|⟨r,pr,hst⟩
  ·subst hnil
   have HRR:Hid (R=true):=HL.out.all.symm
   have HB:Hid (Below w.heap.size w wr):=HL.out.bel
   clear HL HST
   go_wp2_with fail
   go_ret
   exact ⟨by rw [HRR.out];rfl,HB.out⟩
  ·rw [List.concat_eq_append] at hst
   subst hst
   obtain ⟨a,b,⟨sa,ua⟩,⟨sb,ub⟩⟩:=pr
   have hins:=HL.out.ins (a,b,(sa,ua),(sb,ub)) (by simp)
   obtain ⟨pa,ca,U,ea,hla,hata⟩:=hins.1.1.xs.fn
   obtain ⟨pb,cb,V,eb,hlb,hatb⟩:=hins.2.1.xs.fn
   obtain ⟨pas,cas,eas⟩:=hins.1.1.sets.shape
   obtain ⟨pbs,cbs,ebs⟩:=hins.2.1.sets.shape
   simp only at ea eb eas ebs
   have HSE:Hid ((SetB 0 w (.slice pas a.set.length cas) a.set∧SetB 0 w (.slice pbs b.set.length cbs) b.set)∧(a.Small∧b.Small)):=⟨⟨by rw [←eas];exact hins.1.1.sets,by rw [←ebs];exact hins.2.1.sets⟩,hins.1.2,hins.2.2⟩
   subst ea eb eas ebs
   have HA:Hid (∀ i,i<a.len→∃ b o,pa=some ⟨b,o,none⟩∧Head6 w b (o+i*6) (a.kid i) (U i).1 (U i).2∧(a.kid i).At 0 w (U i).1 (U i).2):=hata
   have HBB:Hid (∀ i,i<b.len→∃ b' o,pb=some ⟨b',o,none⟩∧Head6 w b' (o+i*6) (b.kid i) (V i).1 (V i).2∧(b.kid i).At 0 w (V i).1 (V i).2):=hatb
   clear hata hatb hins
   have hcell:∀ j,j<12→wr.cell? ⟨g,r.length*12+j,none⟩=(XP.cells (a,b,(.slice pas a.set.length cas,.slice pa a.len ca),(.slice pbs b.set.length cbs,.slice pb b.len cb)))[j]? := by
    intro j hj
    have h1:=HL.out.own.cellAt (r.length*12+j) (by simp;omega)
    rw [h1,jcM,List.getElem?_append_right (by rw [jcN];omega),jcN]
    simp [jbC]
   have l0:=hcell 0 (by omega);have l1:=hcell 1 (by omega);have l2:=hcell 2 (by omega);have l3:=hcell 3 (by omega);have l4:=hcell 4 (by omega)
   have l5:=hcell 5 (by omega);have l6:=hcell 6 (by omega);have l7:=hcell 7 (by omega);have l8:=hcell 8 (by omega);have l9:=hcell 9 (by omega);have l10:=hcell 10 (by omega);have l11:=hcell 11 (by omega)
   simp only [XP.cells,Nat.add_zero,List.getElem?_cons_zero,List.getElem?_cons_succ] at l0 l1 l2 l3 l4 l5 l6 l7 l8 l9 l10 l11
   clear hcell
   obtain ⟨hr1,hr2,hr3,hr4⟩:=je3 HL.out.own
   have hlen:(r++[(a,b,(Value.slice pas a.set.length cas,Value.slice pa a.len ca),(Value.slice pbs b.set.length cbs,Value.slice pb b.len cb))]).length=r.length+1:=by simp
   have hrl:r.length<1048577:=by have:=jeD (r++[(a,b,(Value.slice pas a.set.length cas,Value.slice pa a.len ca),(Value.slice pbs b.set.length cbs,Value.slice pb b.len cb))]);rw [HST.out] at this;omega
   rw [hlen] at hr1 ⊢
   unfold maxLen at hr2 hla hlb
   clear hlen
   generalize hrn:r.length=rn at *
   have HRN:Hid (r.length=rn):=hrn
   clear hrn
   have hO1:=jiU (n:=rn) (xs:=jbC r) (ys:=jbC [(a,b,(Value.slice pas a.set.length cas,Value.slice pa a.len ca),(Value.slice pbs b.set.length cbs,Value.slice pb b.len cb))]) (by rw [←jcM];exact HL.out.own) (by rw [jcN,HRN.out]) (by simp [HRN.out])
   have HO1:Hid (wr.ownsRow (w.heap.size+2) 54 12 (.slice (some ⟨g,0,none⟩) rn gc) rn (jbC r)):=hO1
   clear hO1
   have HBL:Hid (Below w.heap.size w wr):=HL.out.bel
   go_wp2_with fail
   refine (jku a b pa pb ca cb _ _ _ (HSE.out.1.1.kept (nlr _) (fun x u _=>jat (HBL.out.trans ((newx wr _).mono HBL.out.size)) x u)) (HSE.out.1.2.kept (nlr _) (fun x u _=>jat (HBL.out.trans ((newx wr _).mono HBL.out.size)) x u)) HSE.out.2.1.set HSE.out.2.2.set).mono ?_
   rintro e w1 ⟨rfl,hb1⟩
   have hnb:=newx wr (.cells #[.int .i64 a.op,.int .i64 a.at_,.int .i64 a.n,.string a.s,.slice pas a.set.length cas,.slice pa a.len ca,.int .i64 b.op,.int .i64 b.at_,.int .i64 b.n,.string b.s,.slice pbs b.set.length cbs,.slice pb b.len cb] 54)
   have HO2:Hid (w1.ownsRow (w.heap.size+2) 54 12 (.slice (some ⟨g,0,none⟩) rn gc) rn (jbC r)):=jaY (jaY HO1.out hnb) hb1
   have hb2:Below wr.heap.size wr w1:=hnb.trans (hb1.mono hnb.size)
   have HB1:Hid (Below w.heap.size w w1):=HBL.out.trans (hb2.mono HBL.out.size)
   have hP:w1.heap[wr.heap.size]? = some (.cells #[.int .i64 a.op,.int .i64 a.at_,.int .i64 a.n,.string a.s,.slice pas a.set.length cas,.slice pa a.len ca,.int .i64 b.op,.int .i64 b.at_,.int .i64 b.n,.string b.s,.slice pbs b.set.length cbs,.slice pb b.len cb] 54 (0,0)):=(hb1.block _ (by simp)).trans (han wr _)
   have hp4:w1.cell? ⟨wr.heap.size,5,none⟩=some (.slice pa a.len ca):=crw w1 _ 5 _ _ _ hP
   have hp9:w1.cell? ⟨wr.heap.size,11,none⟩=some (.slice pb b.len cb):=crw w1 _ 11 _ _ _ hP
   have hPs:wr.heap.size<w1.heap.size:=(aes.1 hP).1
   clear hb1 hb2 hnb hP HO1 HBL l0 l1 l2 l3 l4 l5 l6 l7 l8 l9 l10 l11
   have hh:=jft a b
   rcases hh with ⟨hR,-,-,-,-,hab⟩|⟨hR,-⟩
   ·rw [hR]
    have HPS:Hid (∀ k,jbc (r++jaH a b U V k)=jbc (r++jaH a b U V k)):=fun _=>rfl
    have HAL:Hid (jbc (r++jaH a b U V a.len)=R):=(jmL r a b _ _ U V hR).symm.trans HL.out.all
    have HTT:Hid (jbB (r++jaH a b U V a.len)+1=gk):=(jiX r a b _ _ U V).trans HST.out
    have HIN:Hid (joV w (r++jaH a b U V a.len)):=by
     intro z hz
     rcases lma.1 hz with hz|hz
     ·exact HL.out.ins z (List.mem_append_left _ hz)
     ·simp only [jaH,List.mem_map,List.mem_range] at hz
      obtain ⟨j,hj,rfl⟩:=hz
      obtain ⟨_,_,_,_,h1⟩:=HA.out j hj
      obtain ⟨_,_,_,_,h2⟩:=HBB.out j (by omega)
      exact ⟨⟨h1,HSE.out.2.1.kid j hj⟩,⟨h2,HSE.out.2.2.kid j (by omega)⟩⟩
    have hal:a.len≤1048577:=by
     have h1:=jeD (r++jaH a b U V a.len)
     have h2:=HTT.out
     rw [lla,jcF] at h1
     omega
    have hral:rn+a.len≤1048577:=by
     have h1:=jeD (r++jaH a b U V a.len)
     have h2:=HTT.out
     have h3:=HRN.out
     rw [lla,jcF] at h1
     omega
    have HSZ:Hid (w.heap.size+2≤wr.heap.size):=HL.out.size
    clear hR HPS HL HST hla hlb
    generalize hbl:b.len=bl at *
    subst hab
    clear hbl
    generalize wr.heap.size=PB at *
    go_wp2_with fail
    go_loopw [5,34] (fun lv i wi=>∃ (k g' c':Nat),i=.int .i64 k∧k≤a.len∧lv=.slice (some ⟨g',0,none⟩) ((rn+k:Nat)) c'∧g'≠PB∧wi.ownsRow (w.heap.size+2) 54 12 (.slice (some ⟨g',0,none⟩) ((rn+k:Nat)) c') (rn+k) (jbC (r++jaH a b U V k))∧Below w.heap.size w wi∧PB<wi.heap.size∧wi.cell? ⟨PB,11,none⟩=some (.slice pb a.len cb)) (fun _ i _=>a.len-(intOf i).toNat)
    case atStart=>exact ⟨0,g,gc,rfl,nzl _,rfl,by omega,by simpa [jaH] using HO2.out,HB1.out,hPs,hp9⟩
    case round =>
     obtain ⟨k,g',c',rfl,hka,rfl,hgne,hown,hbel,hsz,hq9⟩:=hrel
     have HOW:Hid (wr.ownsRow (w.heap.size+2) 54 12 (.slice (some ⟨g',0,none⟩) (rn+k) c') (rn+k) (jbC (r++jaH a b U V k))):=hown
     have HBW:Hid (Below w.heap.size w wr):=hbel
     obtain ⟨-,-,hb3,hb4⟩:=je3 hown
     clear hown hbel HO2 HB1 hp4 hp9 hPs hr1 hr2 hr3 hr4
     by_cases hlt:(k:Int)<a.len
     ·have hlt':k<a.len:=by omega
      obtain ⟨ba,oa,hpa,hda,-⟩:=HA.out k hlt'
      obtain ⟨bb,ob,hpb,hdb,-⟩:=HBB.out k hlt'
      subst hpa hpb
      obtain ⟨c0,c1,c2,c3,c4,c5⟩:=hda.below HBW.out
      obtain ⟨d0,d1,d2,d3,d4,d5⟩:=hdb.below HBW.out
      have hmem:=HIN.out ((a.kid k),(b.kid k),U k,V k) (by refine List.mem_append_right _ ?_;simp only [jaH,List.mem_map,List.mem_range];exact ⟨k,hlt',rfl⟩)
      obtain ⟨pu,cu,eu⟩:=hmem.1.1.xs.shape
      obtain ⟨pv,cv,ev⟩:=hmem.2.1.xs.shape
      obtain ⟨pus,cus,eus⟩:=hmem.1.1.sets.shape
      obtain ⟨pvs,cvs,evs⟩:=hmem.2.1.sets.shape
      simp only at eu ev eus evs
      rw [eu] at c5
      rw [ev] at d5
      rw [eus] at c4
      rw [evs] at d4
      have HEU:Hid (U k=(.slice pus (a.kid k).set.length cus,.slice pu (a.kid k).len cu)∧V k=(.slice pvs (b.kid k).set.length cvs,.slice pv (b.kid k).len cv)):=⟨by rw [←eus,←eu],by rw [←evs,←ev]⟩
      clear eu ev eus evs hda hdb hmem
      go_wp2_with fail
      generalize hW:wr.alloc (.cells #[.int .i64 (a.kid k).op,.int .i64 (a.kid k).at_,.int .i64 (a.kid k).n,.string (a.kid k).s,.slice pus (a.kid k).set.length cus,.slice pu (a.kid k).len cu] 27)=W
      have hWb:Below wr.heap.size wr W:=by rw [←hW];exact newx _ _
      have hWk:W.heap[wr.heap.size]? = some (.cells #[.int .i64 (a.kid k).op,.int .i64 (a.kid k).at_,.int .i64 (a.kid k).n,.string (a.kid k).s,.slice pus (a.kid k).set.length cus,.slice pu (a.kid k).len cu] 27 (0,0)):=by rw [←hW];exact han _ _
      have hWs:W.heap.size=wr.heap.size+1:=by rw [←hW];simp
      have k0:W.cell? ⟨wr.heap.size,0,none⟩=some (.int .i64 (a.kid k).op):=crw W _ 0 _ _ _ hWk
      have k1:W.cell? ⟨wr.heap.size,1,none⟩=some (.int .i64 (a.kid k).at_):=crw W _ 1 _ _ _ hWk
      have k2:W.cell? ⟨wr.heap.size,2,none⟩=some (.int .i64 (a.kid k).n):=crw W _ 2 _ _ _ hWk
      have k3:W.cell? ⟨wr.heap.size,3,none⟩=some (.string (a.kid k).s):=crw W _ 3 _ _ _ hWk
      have k4:W.cell? ⟨wr.heap.size,4,none⟩=some (.slice pus (a.kid k).set.length cus):=crw W _ 4 _ _ _ hWk
      have k5:W.cell? ⟨wr.heap.size,5,none⟩=some (.slice pu (a.kid k).len cu):=crw W _ 5 _ _ _ hWk
      have m0:=jat hWb _ _ d0;have m1:=jat hWb _ _ d1;have m2:=jat hWb _ _ d2;have m3:=jat hWb _ _ d3;have m4:=jat hWb _ _ d4;have m5:=jat hWb _ _ d5;have m9:=jat hWb _ _ hq9
      have HWO:Hid (W.ownsRow (w.heap.size+2) 54 12 (.slice (some ⟨g',0,none⟩) (rn+k) c') (rn+k) (jbC (r++jaH a b U V k))):=jaY HOW.out hWb
      have HQ9:Hid (wr.cell? ⟨PB,11,none⟩=some (.slice (some ⟨bb,ob,none⟩) a.len cb)):=hq9
      have hWS:Hid (W.heap.size=wr.heap.size+1):=hWs
      have HWE:Hid (wr.alloc (.cells #[.int .i64 (a.kid k).op,.int .i64 (a.kid k).at_,.int .i64 (a.kid k).n,.string (a.kid k).s,.slice pus (a.kid k).set.length cus,.slice pu (a.kid k).len cu] 27)=W):=hW
      have HBS:Hid (w.heap.size+1≤W.heap.size):=by
       show _≤_
       omega
      clear hW hWb hWk c0 c1 c2 c3 c4 c5 d0 d1 d2 d3 d4 d5 hq9 hWs
      go_region_law
       ((refine step_append_lies _ (by rfl) _ _ _ (by rfl) (w.heap.size+2) 54 i0 _ 12 176 Tryz.underlying55 hi hz0 hz1 hz2 rfl (by omega) (.slice (some ⟨g',0,none⟩) (rn+k) c') (rn+k) (jbC (r++jaH a b U V k)) (by rfl) ((HWO.out.alloc _).drew) ⟨W.heap.size,0,none⟩ 1 1 [.int .i64 (a.kid k).op,.int .i64 (a.kid k).at_,.int .i64 (a.kid k).n,.string (a.kid k).s,.slice pus (a.kid k).set.length cus,.slice pu (a.kid k).len cu,.int .i64 (b.kid k).op,.int .i64 (b.kid k).at_,.int .i64 (b.kid k).n,.string (b.kid k).s,.slice pvs (b.kid k).set.length cvs,.slice pv (b.kid k).len cv] (by rfl) (by rfl) (World.news_of_block (cs:=#[.int .i64 (a.kid k).op,.int .i64 (a.kid k).at_,.int .i64 (a.kid k).n,.string (a.kid k).s,.slice pus (a.kid k).set.length cus,.slice pu (a.kid k).len cu,.int .i64 (b.kid k).op,.int .i64 (b.kid k).at_,.int .i64 (b.kid k).n,.string (b.kid k).s,.slice pvs (b.kid k).set.length cvs,.slice pv (b.kid k).len cv]) (t:=54) (fr:=(0,0)) (han W _)) (by simp [Value.oneCell']) (by omega) (by unfold maxLen;omega) (by omega) (by simp;exact HBS.out) (W.heap.size+1) (by simp) ?_;intro gg cap3 w3 hown3 hgrow hat hlt3))
      all_goals
       have hpp:jbC (r++jaH a b U V k)++[.int .i64 (a.kid k).op,.int .i64 (a.kid k).at_,.int .i64 (a.kid k).n,.string (a.kid k).s,.slice pus (a.kid k).set.length cus,.slice pu (a.kid k).len cu,.int .i64 (b.kid k).op,.int .i64 (b.kid k).at_,.int .i64 (b.kid k).n,.string (b.kid k).s,.slice pvs (b.kid k).set.length cvs,.slice pv (b.kid k).len cv]=jbC (r++jaH a b U V (k+1)):=by
        rw [jc6,←List.append_assoc,jcM _ [_],HEU.out.1,HEU.out.2];rfl
       rw [hpp] at hown3
       have hgg:gg≠PB:=by
        rcases hat with h|h
        ·have:g'=gg:=by simpa [Value.ownBlock] using h
         omega
        ·have:=hWS.out;omega
       have HS3:Hid (Below w.heap.size w w3∧PB<w3.heap.size∧w3.cell? ⟨PB,11,none⟩=some (.slice (some ⟨bb,ob,none⟩) a.len cb)):=by
        have h:=hgrow
        rw [←HWE.out] at h
        exact jlN HBW.out h hb3 hsz hgne HQ9.out
       have HO3:Hid (w3.ownsRow (w.heap.size+2) 54 12 (.slice (some ⟨gg,0,none⟩) (rn+k+1) cap3) (rn+k+1) (jbC (r++jaH a b U V (k+1)))):=hown3
       have HGG:Hid (gg≠PB):=hgg
       clear hown3 hpp hgrow hat hlt3 hgg
       go_wp2_with fail
       go_roundw
       case rel=>first|exact ⟨k+1,gg,cap3,by go_num,by omega,rfl,HGG.out,HO3.out,HS3.out.1,HS3.out.2.1,HS3.out.2.2⟩|((repeat apply Exists.intro);exact ⟨⟨k+1,gg,cap3,by go_num,by omega,rfl,HGG.out,HO3.out,HS3.out.1,HS3.out.2.1,HS3.out.2.2⟩,rfl⟩)
       case measure=>simp [intOf];omega
     ·have hke:k=a.len:=by omega
      go_wp2_with fail
      go_roundg (jbB (r++jaH a b U V a.len))
      case measure=>have:=HTT.out;omega
      case rel =>
       subst hke
       have h1:=HTT.out
       have h2:=HOW.out
       have h3:=HRN.out
       refine ⟨r++jaH a b U V a.len,g',c',rfl,by omega,by rw [lla,jcF,h3],HAL.out,HIN.out,?_,HBW.out,by have:=HSZ.out;omega⟩
       rw [lla,jcF,h3];exact h2
   ·rw [hR]
    have HRR:Hid (R=false):=HL.out.all.symm.trans (jpe r a b _ _ hR)
    clear HL HST HO2
    go_wp2_with fail
    go_ret
    exact ⟨by rw [HRR.out];rfl,HB1.out⟩
end Go.Proofs.YtjmlfacbcfbhdaaGreatDoor
