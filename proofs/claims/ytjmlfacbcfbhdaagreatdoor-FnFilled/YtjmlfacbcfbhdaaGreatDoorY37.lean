/- How often, and the Gots of a turn, plainly: by the set of names alone. No conditions. -/
import Derived.Test.YtjmlfacbcfbhdaaGreatDoorYA
import Derived.Test.YtjmlfacbcfbhdaaGreatDoorY36
import Derived.Test.YtjmlfacbcfbhdaaGreatDoorY20
import Derived.Deep.RegionWith
set_option maxRecDepth 100000
set_option maxHeartbeats 8000000
namespace Go.Proofs.YtjmlfacbcfbhdaaGreatDoor
open Go.ChangeShapes Go.WideShapes Go.ChangeAt Go.RowKit
def ErrAt (W:World) (a:Addr):Prop:=W.cell? ⟨0,0,none⟩=some (.iface 194 (.pointer (some a)))
theorem ErrAt.below {W W':World} {a:Addr} (h:ErrAt W a) (hb:Below W.heap.size W W'):ErrAt W' a:=jat hb _ _ h
def errV (a:Addr):Value:=.iface 194 (.pointer (some a))
def noXV:Value:=.agg #[.int .i64 0,.int .i64 0,.int .i64 0,.string ⟨#[]⟩,.slice none 0 0,.slice none 0 0]
def symF (t:X) (L:List G):Option X:=if jan t=true then none else match jag L t.s with|none=>some t|some g=>if g.deep=0 then some g.one else none
def joI (w0:World) (a:Addr) (o:Option X) (e:Ending):Prop:=(∃ x su u,o=some x∧x.At 0 w0 su u∧e=.returned (.tuple #[.agg #[.int .i64 x.op,.int .i64 x.at_,.int .i64 x.n,.string x.s,su,u],.nilIface]))∨(o=none∧e=.returned (.tuple #[noXV,errV a]))
theorem jh9 {t:X} {L:List G} (h:jan t=true):symF t L=none:=if_pos h
theorem jfW {t:X} {L:List G} (h:jan t=false) (hf:jag L t.s=none):symF t L=some t:=by unfold symF;rw [if_neg (by rw [h];simp),hf]
theorem jho {t:X} {L:List G} {g:G} (h:jan t=false) (hf:jag L t.s=some g) (hd:g.deep=0):symF t L=some g.one:=by unfold symF;rw [if_neg (by rw [h];simp),hf];simp only;rw [if_pos hd]
theorem jh8 {t:X} {L:List G} {g:G} (hf:jag L t.s=some g) (hd:g.deep≠0):symF t L=none:=by
 unfold symF
 split
 ·rfl
 ·rw [hf];simp only;rw [if_neg hd]
theorem jkj {K:Nat} {w0 W:World} {f:Value} {L:List G} {a:Addr} (t:X) (su u:Value) (hf:Finds K w0 W f L) (ht:t.At 0 w0 su u) (he:ErrAt W a) :
  Calls Tryz.prog 65 #[.agg #[.int .i64 t.op,.int .i64 t.at_,.int .i64 t.n,.string t.s,su,u],f] W fun e w'=>joI w0 a (symF t L) e∧Below W.heap.size W w':=by
 obtain ⟨ps,cs,es⟩:=ht.sets.shape
 obtain ⟨pu,cu,eu⟩:=ht.xs.shape
 subst es eu
 have HT:=jaf ht
 obtain ⟨T0,hT0⟩:∃ T0,T0=W.heap.size:=⟨_,rfl⟩
 obtain ⟨W1,hW1⟩:∃ W1,W1=(W.alloc (.cells #[.int .i64 t.op,.int .i64 t.at_,.int .i64 t.n,.string t.s,.slice ps t.set.length cs,.slice pu t.len cu] 27)).alloc (.cells #[.int .i64 0,.int .i64 0,.int .i64 0,.string ⟨#[]⟩,.slice none 0 0,.slice none 0 0] 27):=⟨_,rfl⟩
 have hb1:Below W.heap.size W W1:=by rw [hW1];exact (newx W _).trans ((newx _ _).mono (by simp))
 have S1:Hid (W1.heap[T0]? = some (.cells #[.int .i64 t.op,.int .i64 t.at_,.int .i64 t.n,.string t.s,.slice ps t.set.length cs,.slice pu t.len cu] 27 (0,0))∧W1.heap[T0+1]? = some (.cells #[.int .i64 0,.int .i64 0,.int .i64 0,.string ⟨#[]⟩,.slice none 0 0,.slice none 0 0] 27 (0,0))∧Below W.heap.size W W1∧ErrAt W1 a):=by
  refine ⟨?_,?_,hb1,he.below hb1⟩
  ·rw [hW1,hT0,bha _ _ _ (by simp)];exact han W _
  ·have:=han (W.alloc (.cells #[.int .i64 t.op,.int .i64 t.at_,.int .i64 t.n,.string t.s,.slice ps t.set.length cs,.slice pu t.len cu] 27)) (.cells #[.int .i64 0,.int .i64 0,.int .i64 0,.string ⟨#[]⟩,.slice none 0 0,.slice none 0 0] 27)
   rw [World.size_alloc] at this
   rw [hW1,hT0];exact this
 have hc:=hf.2 W1 (But.of_all hb1) t.s
 have W1E:=jaf hW1
 have T0E:=jaf hT0
 have HTR:Hid (W.heap.size≤T0+1):=by show _≤_;omega
 clear hf he ht hb1 hW1 hT0
 have s3:W1.cell? ⟨T0,3,none⟩=some (.string t.s):=crw W1 _ 3 _ _ _ S1.out.1
 have key:∀ (e:Ending) (w5:World),je9 w0 (jag L t.s) e→Below W1.heap.size W1 w5→∃ (g':G) (kn:Bool) (pa pb pc:Option Addr) (ca cb cc na nb nc:Nat),e=.returned (.tuple #[.agg #[.string g'.name,.int .i64 g'.deep,.int .i64 g'.one.op,.int .i64 g'.one.at_,.int .i64 g'.one.n,.string g'.one.s,.slice pa na ca,.slice pb nb cb,.slice pc nc cc],.bool kn]) ∧
   ((kn=false∧jag L t.s=none)∨(kn=true∧∃ g,jag L t.s=some g∧Like g g'∧g'.one.At 0 w0 (.slice pa na ca) (.slice pb nb cb))):=by
  intro e w5 hr _
  rcases hr with ⟨hn,rfl⟩|⟨g,g',x,y,z,hn,hlk,hat,rfl⟩
  ·exact ⟨.mk ⟨#[]⟩ 0 (.mk 0 0 0 ⟨#[]⟩ [] 0 (fun _=>.no)) 0 (fun _=>.no),false,none,none,none,0,0,0,0,0,0,rfl,.inl ⟨rfl,hn⟩⟩
  ·obtain ⟨⟨pa,ca,ea⟩,⟨pb,cb,eb⟩,⟨pc,cc,ec⟩⟩:=hat.shape
   subst ea eb ec
   exact ⟨g',true,pa,pb,pc,ca,cb,cc,_,_,_,rfl,.inr ⟨rfl,g,hn,hlk,hat.parts.2.1⟩⟩
 have KEY:=jaf key
 clear key
 rcases hc with ⟨P,B,ef,hC⟩|⟨S2,T2,F2,ef,hC⟩
 all_goals
  subst ef
  have HC:=jaf hC
  clear hC
  go_enter Tryz.func65,Tryz.ntmps65
  go_upto_region 1 with fail
  rw [←W1E.out,←T0E.out]
  go_wp2_with fail
  refine HC.out.mono ?_
  rintro e w5 ⟨hret,hb5⟩
  obtain ⟨g',kn,pa,pb,pc,ca,cb,cc,na,nb,nc,rfl,hcase⟩:=KEY.out e w5 hret hb5
  obtain ⟨W6,hW6⟩:∃ W6,W6=w5.alloc (.cells #[.string g'.name,.int .i64 g'.deep,.int .i64 g'.one.op,.int .i64 g'.one.at_,.int .i64 g'.one.n,.string g'.one.s,.slice pa na ca,.slice pb nb cb,.slice pc nc cc] 42):=⟨_,rfl⟩
  obtain ⟨NB,hNB⟩:∃ NB,NB=w5.heap.size:=⟨_,rfl⟩
  have hb6:Below W1.heap.size W1 W6:=hb5.trans ((show Below w5.heap.size w5 W6 by rw [hW6];exact newx w5 _).mono hb5.size)
  have S6:Hid (Below W1.heap.size W1 W6∧W6.heap[NB]? = some (.cells #[.string g'.name,.int .i64 g'.deep,.int .i64 g'.one.op,.int .i64 g'.one.at_,.int .i64 g'.one.n,.string g'.one.s,.slice pa na ca,.slice pb nb cb,.slice pc nc cc] 42 (0,0))):=⟨hb6,by rw [hW6,hNB];exact han w5 _⟩
  have HCA:=jaf hcase
  have W6E:=jaf hW6
  have NBE:=jaf hNB
  clear hret hb5 hb6 hcase hW6 hNB s3
  have b6:=(S6.out.1.block T0 (aes.1 S1.out.1).1).trans S1.out.1
  have x0:W6.cell? ⟨T0,0,none⟩=some (.int .i64 t.op):=crw W6 _ 0 _ _ _ b6
  have x1:W6.cell? ⟨T0,1,none⟩=some (.int .i64 t.at_):=crw W6 _ 1 _ _ _ b6
  have x2:W6.cell? ⟨T0,2,none⟩=some (.int .i64 t.n):=crw W6 _ 2 _ _ _ b6
  have x3:W6.cell? ⟨T0,3,none⟩=some (.string t.s):=crw W6 _ 3 _ _ _ b6
  have x4:W6.cell? ⟨T0,4,none⟩=some (.slice ps t.set.length cs):=crw W6 _ 4 _ _ _ b6
  have x5:W6.cell? ⟨T0,5,none⟩=some (.slice pu t.len cu):=crw W6 _ 5 _ _ _ b6
  go_upto_region 2 with fail
  rw [←W6E.out,←NBE.out]
  go_wp2_with fail
  refine (jiE t _ _ W6).mono ?_
  rintro e w7 ⟨rfl,hb7⟩
  have h7:Below W1.heap.size W1 w7:=S6.out.1.trans (hb7.mono S6.out.1.size)
  have c7:=(h7.block T0 (aes.1 S1.out.1).1).trans S1.out.1
  have d7:=(h7.block (T0+1) (aes.1 S1.out.2.1).1).trans S1.out.2.1
  have e7:=(hb7.block NB (aes.1 S6.out.2).1).trans S6.out.2
  have S7:Hid (Below W.heap.size W w7):=S1.out.2.2.1.trans (h7.mono S1.out.2.2.1.size)
  have g7:w7.cell? ⟨0,0,none⟩=some (.iface 194 (.pointer (some a))):=S1.out.2.2.2.below h7
  have y0:w7.cell? ⟨T0,0,none⟩=some (.int .i64 t.op):=crw w7 _ 0 _ _ _ c7
  have y1:w7.cell? ⟨T0,1,none⟩=some (.int .i64 t.at_):=crw w7 _ 1 _ _ _ c7
  have y2:w7.cell? ⟨T0,2,none⟩=some (.int .i64 t.n):=crw w7 _ 2 _ _ _ c7
  have y3:w7.cell? ⟨T0,3,none⟩=some (.string t.s):=crw w7 _ 3 _ _ _ c7
  have y4:w7.cell? ⟨T0,4,none⟩=some (.slice ps t.set.length cs):=crw w7 _ 4 _ _ _ c7
  have y5:w7.cell? ⟨T0,5,none⟩=some (.slice pu t.len cu):=crw w7 _ 5 _ _ _ c7
  have r0:w7.cell? ⟨T0+1,0,none⟩=some (.int .i64 0):=crw w7 _ 0 _ _ _ d7
  have r1:w7.cell? ⟨T0+1,1,none⟩=some (.int .i64 0):=crw w7 _ 1 _ _ _ d7
  have r2:w7.cell? ⟨T0+1,2,none⟩=some (.int .i64 0):=crw w7 _ 2 _ _ _ d7
  have r3:w7.cell? ⟨T0+1,3,none⟩=some (.string ⟨#[]⟩):=crw w7 _ 3 _ _ _ d7
  have r4:w7.cell? ⟨T0+1,4,none⟩=some (.slice none 0 0):=crw w7 _ 4 _ _ _ d7
  have r5:w7.cell? ⟨T0+1,5,none⟩=some (.slice none 0 0):=crw w7 _ 5 _ _ _ d7
  have rf:∀ j,w7.frozen? ⟨T0+1,j,none⟩=false:=fun j=>fzr w7 _ j _ _ d7
  have n1:w7.cell? ⟨NB,1,none⟩=some (.int .i64 g'.deep):=crw w7 _ 1 _ _ _ e7
  have n2:w7.cell? ⟨NB,2,none⟩=some (.int .i64 g'.one.op):=crw w7 _ 2 _ _ _ e7
  have n3:w7.cell? ⟨NB,3,none⟩=some (.int .i64 g'.one.at_):=crw w7 _ 3 _ _ _ e7
  have n4:w7.cell? ⟨NB,4,none⟩=some (.int .i64 g'.one.n):=crw w7 _ 4 _ _ _ e7
  have n5:w7.cell? ⟨NB,5,none⟩=some (.string g'.one.s):=crw w7 _ 5 _ _ _ e7
  have n6:w7.cell? ⟨NB,6,none⟩=some (.slice pa na ca):=crw w7 _ 6 _ _ _ e7
  have n7:w7.cell? ⟨NB,7,none⟩=some (.slice pb nb cb):=crw w7 _ 7 _ _ _ e7
  have hTR:=HTR.out
  clear hb7 h7 c7 d7 e7 b6 x0 x1 x2 x3 x4 x5
  have fin0:Hid (jan t=true∨(∃ g,jag L t.s=some g∧g.deep≠0)→symF t L=none):=by
   rintro (h|⟨g,h1,h2⟩)
   ·exact jh9 h
   ·exact jh8 h1 h2
  cases hdx:jan t with
  | true =>
   have HN:Hid (symF t L=none):=fin0.out (.inl hdx)
   clear hdx
   go_wp2_with fail
   go_region
   all_goals
    go_wp2_with fail
    refine bpr (v:=.tuple #[noXV,errV a]) (by rw [jac (p:=4) (q:=5) (ty:=27) (by kernel_rfl)];simp [go_sem,noXV,errV,r0,r1,r2,r3,r4,r5]) rfl ?_
    exact ⟨.inr ⟨HN.out,rfl⟩,((((((S7.out.setCell hTR _).setCell hTR _).setCell hTR _).setCell hTR _).setCell hTR _).setCell hTR _).drew⟩
  | false =>
   rcases HCA.out with ⟨hk,hfn⟩|⟨hk,g,hfs,hlk,hat⟩
   ·subst hk
    have HN:Hid (symF t L=some t):=jfW hdx hfn
    clear hdx hfn
    go_wp2_with fail
    refine bpr (v:=.tuple #[.agg #[.int .i64 t.op,.int .i64 t.at_,.int .i64 t.n,.string t.s,.slice ps t.set.length cs,.slice pu t.len cu],.nilIface]) (by rw [jac (p:=4) (q:=5) (ty:=27) (by kernel_rfl)];simp [go_sem,r0,r1,r2,r3,r4,r5]) rfl ?_
    exact ⟨.inl ⟨t,_,_,HN.out,HT.out,rfl⟩,((((((S7.out.setCell hTR _).setCell hTR _).setCell hTR _).setCell hTR _).setCell hTR _).setCell hTR _)⟩
   ·subst hk
    by_cases hd0:g'.deep=0
    ·have HN:Hid (symF t L=some g'.one):=by
      show _=_
      rw [jho hdx hfs (by rw [←hlk.1];exact hd0),hlk.2.1]
     have HAT:=jaf hat
     rw [hd0] at n1
     clear hdx hfs hlk hat hd0
     go_wp2_with fail
     refine bpr (v:=.tuple #[.agg #[.int .i64 g'.one.op,.int .i64 g'.one.at_,.int .i64 g'.one.n,.string g'.one.s,.slice pa na ca,.slice pb nb cb],.nilIface]) (by rw [jac (p:=4) (q:=5) (ty:=27) (by kernel_rfl)];simp [go_sem,r0,r1,r2,r3,r4,r5]) rfl ?_
     exact ⟨.inl ⟨g'.one,_,_,HN.out,HAT.out,rfl⟩,((((((S7.out.setCell hTR _).setCell hTR _).setCell hTR _).setCell hTR _).setCell hTR _).setCell hTR _)⟩
    ·have HN:Hid (symF t L=none):=fin0.out (.inr ⟨g,hfs,by rw [←hlk.1];exact hd0⟩)
     have hd1:(g'.deep==0)=false:=by simpa using hd0
     have hd2:(g'.deep != 0)=true:=by simpa using hd0
     clear hdx hfs hlk hat hd0
     go_wp2_with fail
     go_region
     all_goals
      go_wp2_with fail
      refine bpr (v:=.tuple #[noXV,errV a]) (by rw [jac (p:=4) (q:=5) (ty:=27) (by kernel_rfl)];simp [go_sem,noXV,errV,r0,r1,r2,r3,r4,r5]) rfl ?_
      exact ⟨.inr ⟨HN.out,rfl⟩,((((((S7.out.setCell hTR _).setCell hTR _).setCell hTR _).setCell hTR _).setCell hTR _).setCell hTR _).drew⟩
def jbk (L:List G) (ns:List ByteArray):List Nat:=ns.filterMap fun nm=>(jag L nm).bind fun g=>if 0<g.deep then some g.len else none
def jb5:List Nat→Option Nat
 | []=>none
 | n::r=>if r.all (fun x=>x==n)=true then some n else none
theorem sameN_some {l:List Nat} {n:Nat}:jb5 l=some n↔l≠[]∧∀ x∈l,x=n:=by
 cases l with
 | nil=>simp [jb5]
 | cons m r =>
  simp only [jb5]
  constructor
  ·intro h
   split at h
   ·rename_i ha
    injection h with h
    subst h
    rw [List.all_eq_true] at ha
    exact ⟨by simp,fun x hx=>by
     rcases List.mem_cons.1 hx with rfl|hx
     ·rfl
     ·simpa using ha x hx⟩
   ·cases h
  ·rintro ⟨_,h⟩
   have hm:=h m (by simp)
   subst hm
   rw [if_pos]
   rw [List.all_eq_true]
   intro x hx
   simpa using h x (List.mem_cons_of_mem _ hx)
theorem jmV {l l':List Nat} (h:∀ x,x∈l↔x∈l'):jb5 l=jb5 l':=by
 have he:l≠[]↔l'≠[]:=by
  constructor
  ·intro hl
   obtain ⟨x,hx⟩:=List.exists_mem_of_ne_nil l hl
   exact List.ne_nil_of_mem ((h x).1 hx)
  ·intro hl
   obtain ⟨x,hx⟩:=List.exists_mem_of_ne_nil l' hl
   exact List.ne_nil_of_mem ((h x).2 hx)
 apply Option.ext
 intro n
 rw [sameN_some,sameN_some,he]
 exact ⟨fun ⟨a,b⟩=>⟨a,fun x hx=>b x ((h x).2 hx)⟩,fun ⟨a,b⟩=>⟨a,fun x hx=>b x ((h x).1 hx)⟩⟩
theorem mem_lensF {L:List G} {ns:List ByteArray} {n:Nat}:n∈jbk L ns↔∃ nm∈ns,∃ g,jag L nm=some g∧0<g.deep∧g.len=n:=by
 unfold jbk
 rw [List.mem_filterMap]
 constructor
 ·rintro ⟨nm,hm,h⟩
  obtain ⟨g,hg,h⟩:=bind_some h
  split at h
  ·rename_i hd
   injection h with h
   exact ⟨nm,hm,g,hg,hd,h⟩
  ·cases h
 ·rintro ⟨nm,hm,g,hg,hd,rfl⟩
  exact ⟨nm,hm,by rw [hg,Option.bind_some,if_pos hd]⟩
theorem jmn {L:List G} {ns ns':List ByteArray} (h:∀ x,x∈ns↔x∈ns'):jb5 (jbk L ns)=jb5 (jbk L ns'):=by
 apply jmV
 intro n
 rw [mem_lensF,mem_lensF]
 exact ⟨fun ⟨nm,a,b⟩=>⟨nm,(h nm).1 a,b⟩,fun ⟨nm,a,b⟩=>⟨nm,(h nm).2 a,b⟩⟩
theorem jbS {L:List G} {nm:ByteArray} {r:List ByteArray} (h:∀ g,jag L nm=some g→¬ 0<g.deep):jbk L (nm::r)=jbk L r:=by
 unfold jbk
 rw [List.filterMap_cons]
 cases hg:jag L nm with
 | none=>rfl
 | some g=>simp only [Option.bind_some];rw [if_neg (h g hg)]
theorem jdv {L:List G} {nm:ByteArray} {r:List ByteArray} {g:G} (h:jag L nm=some g) (hd:0<g.deep):jbk L (nm::r)=g.len::jbk L r:=by
 unfold jbk
 rw [List.filterMap_cons,h]
 simp only [Option.bind_some]
 rw [if_pos hd]
theorem jd8 (L:List G) (m:Nat):∀ ns,jaq L ns (m:Int)=if (jbk L ns).all (fun x=>x==m)=true then (m:Int) else -1
 | []=>by simp [jaq,jbk]
 | nm::r=>by
  unfold jaq
  cases hg:jag L nm with
  | none =>
   rw [jbS (fun g h=>by rw [hg] at h;cases h)]
   exact jd8 L m r
  | some g =>
   simp only
   by_cases hd:0<g.deep
   ·rw [if_pos hd,jdv hg hd]
    by_cases he:g.len=m
    ·rw [if_neg (by omega),he,jd8 L m r]
     simp
    ·rw [if_pos (by omega),if_neg]
     simp [he]
   ·rw [if_neg hd,jbS (fun g' h=>by rw [hg] at h;injection h with h;subst h;exact hd)]
    exact jd8 L m r
theorem jfX (L:List G):∀ ns,jaq L ns (-1)=match jb5 (jbk L ns) with|some n=>(n:Int)|none=>-1
 | []=>rfl
 | nm::r=>by
  unfold jaq
  cases hg:jag L nm with
  | none =>
   rw [jbS (fun g h=>by rw [hg] at h;cases h)]
   exact jfX L r
  | some g =>
   simp only
   by_cases hd:0<g.deep
   ·rw [if_pos hd,if_neg (by omega),jdv hg hd,jd8]
    simp only [jb5]
    split
    ·rfl
    ·rfl
   ·rw [if_neg hd,jbS (fun g' h=>by rw [hg] at h;injection h with h;subst h;exact hd)]
    exact jfX L r
theorem jov {L:List G} {k:Nat} {ns:List ByteArray} {nm:ByteArray} (hn:∀ g x,jag L x=some g→0<g.deep→k<g.len→g.sm k≠.no) (h:¬ (nm∈ns∧∃ g,jag L nm=some g∧0<g.deep∧k<g.len)):jag (jaA L k ns) nm=none:=by
 induction ns with
 | nil=>rfl
 | cons x r ih =>
  have ih':=ih (fun ⟨a,b⟩=>h ⟨List.mem_cons_of_mem _ a,b⟩)
  unfold jaA at ih' ⊢
  rw [List.filterMap_cons]
  cases hg:jag L x with
  | none=>exact ih'
  | some g =>
   simp only [Option.bind_some]
   by_cases hc:0<g.deep∧k<g.len
   ·rw [if_pos hc]
    simp only [jag]
    have hne:=hn g x hg hc.1 hc.2
    have hnm:((g.sm k).named x).name=x:=by
     cases hs:g.sm k with
     | no=>exact absurd hs hne
     | mk a b c d e=>rfl
    rw [hnm,if_neg]
    ·exact ih'
    ·intro q
     rw [jbW] at q
     subst q
     exact h ⟨by simp,g,hg,hc⟩
   ·rw [if_neg hc]
    exact ih'
theorem jnj {L:List G} {k:Nat} {ns:List ByteArray} {nm:ByteArray} {g:G} (hn:∀ g x,jag L x=some g→0<g.deep→k<g.len→g.sm k≠.no) (hm:nm∈ns) (hg:jag L nm=some g) (hd:0<g.deep) (hk:k<g.len):jag (jaA L k ns) nm=some ((g.sm k).named nm):=by
 induction ns with
 | nil=>cases hm
 | cons x r ih =>
  unfold jaA at ih ⊢
  rw [List.filterMap_cons]
  by_cases hx:x=nm
  ·subst hx
   rw [hg]
   simp only [Option.bind_some]
   rw [if_pos ⟨hd,hk⟩]
   simp only [jag]
   have hne:=hn g x hg hd hk
   have hnm:((g.sm k).named x).name=x:=by
    cases hs:g.sm k with
    | no=>exact absurd hs hne
    | mk a b c d e=>rfl
   rw [hnm,if_pos ((jbW _ _).2 rfl)]
  ·have hr:nm∈r:=by
    rcases List.mem_cons.1 hm with h|h
    ·exact absurd h.symm hx
    ·exact h
   have ih':=ih hr
   cases hg2:jag L x with
   | none=>exact ih'
   | some g2 =>
    simp only [Option.bind_some]
    by_cases hc:0<g2.deep∧k<g2.len
    ·rw [if_pos hc]
     simp only [jag]
     have hne:=hn g2 x hg2 hc.1 hc.2
     have hnm:((g2.sm k).named x).name=x:=by
      cases hs:g2.sm k with
      | no=>exact absurd hs hne
      | mk a b c d e=>rfl
     rw [hnm,if_neg (fun q=>hx ((jbW _ _).1 q))]
     exact ih'
    ·rw [if_neg hc]
     exact ih'
theorem jkI (g:G) (nm:ByteArray):Like (g.named nm) g:=by
 cases g with
 | no=>exact Like.refl _
 | mk a b c d e=>exact ⟨rfl,rfl,rfl,rfl⟩
def SevOk (w0:World) (L:List G) (Am:ByteArray→Option Value) (often:Nat) (ns:List ByteArray):Prop :=
 (∀ nm v,Am nm=some v→nm∈ns∧∃ g g' a b c,jag L nm=some g∧0<g.deep∧Like g g'∧v=aggG g' a b c∧GAt w0 g' a b c∧g.len=often)∧∀ nm∈ns,∀ g,jag L nm=some g→0<g.deep→∃ v,Am nm=some v
theorem SevOk.nil (w0:World) (L:List G) (n:Nat):SevOk w0 L (fun _=>none) n []:=⟨fun nm v h=>by simp at h,fun nm h=>by cases h⟩
theorem SevOk.skip {w0:World} {L:List G} {Am:ByteArray→Option Value} {often:Nat} {ns:List ByteArray} (h:SevOk w0 L Am often ns) {nm:ByteArray} (hn:∀ g,jag L nm=some g→¬ 0<g.deep):SevOk w0 L Am often (ns++[nm]):=by
 refine ⟨fun x v hx=>⟨List.mem_append_left _ (h.1 x v hx).1,(h.1 x v hx).2⟩,fun x hx g hg hd=>?_⟩
 rcases lma.1 hx with hx|hx
 ·exact h.2 x hx g hg hd
 ·simp only [List.mem_singleton] at hx
  subst hx
  exact absurd hd (hn g hg)
theorem SevOk.add {w0:World} {L:List G} {Am:ByteArray→Option Value} {often:Nat} {ns:List ByteArray} (h:SevOk w0 L Am often ns) {nm:ByteArray} {g g':G} {a b c:Value} (hg:jag L nm=some g) (hd:0<g.deep) (hl:Like g g') (hat:GAt w0 g' a b c) (hne:(∀ s,Am s=none)∨g.len=often):SevOk w0 L (fun x=>if x=nm then some (aggG g' a b c) else Am x) g.len (ns++[nm]):=by
 constructor
 ·intro x v hx
  have hx:(if x=nm then some (aggG g' a b c) else Am x)=some v:=hx
  by_cases hxn:x=nm
  ·subst hxn
   rw [if_pos rfl] at hx
   injection hx with hx
   exact ⟨by simp,g,g',a,b,c,hg,hd,hl,hx.symm,hat,rfl⟩
  ·rw [if_neg hxn] at hx
   obtain ⟨m,g1,g2,a1,b1,c1,q1,q2,q3,q4,q5,q6⟩:=h.1 x v hx
   rcases hne with hn|hn
   ·rw [hn x] at hx;cases hx
   ·exact ⟨List.mem_append_left _ m,g1,g2,a1,b1,c1,q1,q2,q3,q4,q5,q6.trans hn.symm⟩
 ·intro x hx g1 hg1 hd1
  by_cases hxn:x=nm
  ·exact ⟨_,if_pos hxn⟩
  ·rcases lma.1 hx with hx|hx
   ·obtain ⟨v,hv⟩:=h.2 x hx g1 hg1 hd1
    exact ⟨v,by show (if x=nm then some (aggG g' a b c) else Am x)=some v;rw [if_neg hxn];exact hv⟩
   ·simp only [List.mem_singleton] at hx
    exact absurd hx hxn
theorem SevOk.empty {w0:World} {L:List G} {Am:ByteArray→Option Value} {often:Nat} {ns:List ByteArray} (h:SevOk w0 L Am often ns) (hn:∀ s,Am s=none):jb5 (jbk L ns)=none:=by
 cases hs:jb5 (jbk L ns) with
 | none=>rfl
 | some n =>
  obtain ⟨h1,_⟩:=sameN_some.1 hs
  obtain ⟨x,hx⟩:=List.exists_mem_of_ne_nil _ h1
  obtain ⟨nm,hm,g,hg,hd,_⟩:=mem_lensF.1 hx
  obtain ⟨v,hv⟩:=h.2 nm hm g hg hd
  rw [hn nm] at hv
  cases hv
theorem SevOk.full {w0:World} {L:List G} {Am:ByteArray→Option Value} {often:Nat} {ns:List ByteArray} (h:SevOk w0 L Am often ns) (hn:¬ ∀ s,Am s=none):jb5 (jbk L ns)=some often:=by
 rw [sameN_some]
 constructor
 ·intro he
  apply hn
  intro s
  cases hA:Am s with
  | none=>rfl
  | some v =>
   obtain ⟨m,g,g',a,b,c,q1,q2,q3,q4,q5,q6⟩:=h.1 s v hA
   have:g.len∈jbk L ns:=mem_lensF.2 ⟨s,m,g,q1,q2,rfl⟩
   rw [he] at this
   cases this
 ·intro x hx
  obtain ⟨nm,hm,g,hg,hd,hl⟩:=mem_lensF.1 hx
  obtain ⟨v,hv⟩:=h.2 nm hm g hg hd
  obtain ⟨m,g1,g',a,b,c,q1,q2,q3,q4,q5,q6⟩:=h.1 nm v hv
  rw [hg] at q1
  injection q1 with q1
  subst q1
  omega
theorem jmW {l:List Nat} {x y:Nat} (hx:x∈l) (hy:y∈l) (hne:x≠y):jb5 l=none:=by
 cases hs:jb5 l with
 | none=>rfl
 | some n =>
  obtain ⟨_,h⟩:=sameN_some.1 hs
  exact absurd ((h x hx).trans (h y hy).symm) hne
end Go.Proofs.YtjmlfacbcfbhdaaGreatDoor
