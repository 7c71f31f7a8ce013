/- Finders: the first one of a name, and those of a turn. No conditions. -/
import Derived.Test.YtjmlfacbcfbhdaaGreatDoorYA
import Derived.Test.YtjmlfacbcfbhdaaGreatDoorY35
import Derived.Test.YtjmlfacbcfbhdaaGreatDoorY34
import Derived.Test.YtjmlfacbcfbhdaaGreatDoorY21
import Derived.Test.YtjmlfacbcfbhdaaGreatDoorY28
import Derived.Test.YtjmlfacbcfbhdaaGreatDoorRows
import Derived.Test.YtjmlfacbcfbhdaaGreatDoorY22
import Derived.Test.YtjmlfacbcfbhdaaGreatDoorY20
import Derived.WalkKit
import Derived.ProofKit
import Derived.MapKept
import Derived.Maps.OwnSet
import Derived.Maps.OwnOps
import Derived.Maps.OwnIn
import Derived.Deep.Cut
set_option maxRecDepth 100000
set_option maxHeartbeats 8000000
namespace Go.Proofs.YtjmlfacbcfbhdaaGreatDoor
open Go.ChangeShapes Go.WideShapes Go.ChangeAt Go.RowKit
theorem jlb (p:X):jdd p:=by
 induction p with
 | no=>exact jd1 .no (fun i hi=>absurd hi (Nat.not_lt_zero _)) (fun i hi=>absurd hi (Nat.not_lt_zero _))
 | mk op a n s set len kid ih=>exact jd1 _ (fun i _=>ih i) (fun i _=>jh4 _ (ih i))
def ansM (p x:X):Option (List G):=if (jcd p&&jax x)=true then jai p x else none
def jnx (r:Option (List G)) (w:World) (e:Ending) (w':World):Prop:=Below w.heap.size w w'∧∃ v S,e=.returned (.tuple #[v,.bool r.isSome])∧GsOwn w' (r.getD []).length (fun i=>(r.getD []).getD i .no) v S∧S.Nodup∧∀ k∈S,w.heap.size≤k
theorem jkX {p:X} (h:jcd p=true) (hl:jdU p):(ja3 (jab p 0)).Nodup:=by
 have h1:(jaz p ([],false)).2=false:=by
  have h2:(jax p&&(!(jaz p ([],false)).2&&(!jan p&&jaS p)))=true:=h
  simp only [Bool.and_eq_true,Bool.not_eq_true'] at h2
  exact h2.2.1
 rw [jfI p 0 _ hl,jj0 _ [] false (by simp)] at h1
 simpa using h1
theorem GN.gs {w:World} {B:Nat} {v:Value} {L:List G} (h:GN w B v L):∃ S,GsOwn w L.length (fun i=>L.getD i .no) v S∧S.Nodup∧∀ k∈S,B≤k:=by
 obtain ⟨l,SS,h1,h2⟩:=h
 exact ⟨_,h1.gs',h1.own,h2⟩
theorem jh0 (p x:X) (w:World) (su u sx ux:Value) (hp:p.At 0 w su u) (hx:x.At 0 w sx ux) (hpw:p.weight≤1048576) (hxw:x.weight≤1048576) :
  Calls Tryz.prog 11 #[.agg #[.int .i64 p.op,.int .i64 p.at_,.int .i64 p.n,.string p.s,su,u],.agg #[.int .i64 x.op,.int .i64 x.at_,.int .i64 x.n,.string x.s,sx,ux]] w fun e w'=>jnx (ansM p x) w e w':=by
 obtain ⟨pu,cu,e1⟩:=hp.xs.shape
 obtain ⟨ps,cs,e2⟩:=hp.sets.shape
 obtain ⟨px,cx,e3⟩:=hx.xs.shape
 obtain ⟨pz,cz,e4⟩:=hx.sets.shape
 subst e1 e2 e3 e4
 obtain ⟨W,hW,a0,a1,asz,ab⟩:=jpv w (.cells #[.int .i64 p.op,.int .i64 p.at_,.int .i64 p.n,.string p.s,.slice ps p.set.length cs,.slice pu p.len cu] 27) (.cells #[.int .i64 x.op,.int .i64 x.at_,.int .i64 x.n,.string x.s,.slice pz x.set.length cz,.slice px x.len cx] 27)
 obtain ⟨N,hN⟩:∃ N,N=w.heap.size:=⟨_,rfl⟩
 rw [←hN] at a0 a1 asz ab
 have KW:Hid (∀ wx,Below W.heap.size W wx→Below w.heap.size w wx∧Six wx N p.op p.at_ p.n p.s (.slice ps p.set.length cs) (.slice pu p.len cu) 27∧Six wx (N+1) x.op x.at_ x.n x.s (.slice pz x.set.length cz) (.slice px x.len cx) 27):=fun wx hx=>⟨by rw [←hN];exact ab.trans (hx.mono (by omega)),(show Six W N p.op p.at_ p.n p.s (.slice ps p.set.length cs) (.slice pu p.len cu) 27 from a0).below hx,(show Six W (N+1) x.op x.at_ x.n x.s (.slice pz x.set.length cz) (.slice px x.len cx) 27 from a1).below hx⟩
 have HP:Hid (p.At 0 w (.slice ps p.set.length cs) (.slice pu p.len cu)∧x.At 0 w (.slice pz x.set.length cz) (.slice px x.len cx)∧p.weight≤1048576∧x.weight≤1048576):=⟨hp,hx,hpw,hxw⟩
 have HAN:Hid (ansM p x=if (jcd p&&jax x)=true then jai p x else none):=rfl
 have HNO:Hid (∀ wx:World,Below W.heap.size W wx→∀ r,r=none→jnx r w (.returned (.tuple #[.slice (some ⟨wx.heap.size,0,none⟩) 0 0,.bool false])) (wx.alloc (.cells #[] 42))):=fun wx hx r hr=>by
  rw [hr]
  have h0:=(KW.out wx hx).1
  obtain ⟨S,h1,h2,h3⟩:=(GN.empty (han wx (.cells #[] 42)) (nlr _)).gs
  exact ⟨h0.trans ((newx wx _).mono h0.size),_,S,rfl,h1,h2,fun k hk=>Nat.le_trans h0.size (h3 k hk)⟩
 have HWW:=jaa hW
 have HN:=jaa hN
 clear hp hx hpw hxw a0 a1 asz ab hW hN
 generalize ansM p x=r at *
 go_enter Tryz.func11,Tryz.ntmps11
 go_wp2_with fail
 rw [HWW.out,←HN.out]
 refine (jfQ p W _ _ (HP.out.1.below (KW.out W (brf _ _)).1) HP.out.2.2.1).mono ?_
 rintro e w1 ⟨rfl,hb1⟩
 have HB1:Hid (Below W.heap.size W w1):=hb1
 obtain ⟨y0,y1,y2,y3,y4,y5⟩:=(KW.out w1 hb1).2.2.cells
 clear hb1
 cases hpo:jcd p
 ·have HR:Hid (r=none):=by show _=_;rw [HAN.out,hpo];rfl
  go_wp2_with fail
  go_ret2
  exact HNO.out w1 HB1.out r HR.out
 ·have HOK:Hid (okG p∧(ja3 (jab p 0)).Nodup):=⟨jev hpo,jkX hpo (jg9 p (jev hpo))⟩
  go_wp2_with fail
  refine (jdI x w1 _ _ (HP.out.2.1.below (KW.out w1 HB1.out).1) HP.out.2.2.2).mono ?_
  rintro e w2 ⟨rfl,hb2⟩
  have HB2:Hid (Below W.heap.size W w2):=HB1.out.trans (hb2.mono HB1.out.size)
  clear hb2 y0 y1 y2 y3 y4 y5
  obtain ⟨x0,x1,x2,x3,x4,x5⟩:=(KW.out w2 HB2.out).2.1.cells
  obtain ⟨y0,y1,y2,y3,y4,y5⟩:=(KW.out w2 HB2.out).2.2.cells
  cases hxo:jax x
  ·have HR:Hid (r=none):=by show _=_;rw [HAN.out,hpo,hxo];rfl
   go_wp2_with fail
   go_ret2
   exact HNO.out w2 HB2.out r HR.out
  ·have HR:Hid (r=jai p x):=by show _=_;rw [HAN.out,hpo,hxo];rfl
   clear HAN hpo hxo
   go_wp2_with fail
   refine (jlb p x w2 _ _ _ _ (HP.out.1.below (KW.out w2 HB2.out).1) (HP.out.2.1.below (KW.out w2 HB2.out).1) HP.out.2.2.1 HP.out.2.2.2 HOK.out.1 HOK.out.2).mono ?_
   rintro e w3 ⟨hb3,v,ok,rfl,hcase⟩
   rw [←HR.out] at hcase
   have HB3:Hid (Below W.heap.size W w3):=HB2.out.trans (hb3.mono HB2.out.size)
   have HSZ:Hid (w.heap.size≤w2.heap.size):=(KW.out w2 HB2.out).1.size
   clear hb3 x0 x1 x2 x3 x4 x5 y0 y1 y2 y3 y4 y5
   rcases hcase with ⟨l,hml,rfl,hgl,_⟩|⟨hml,rfl⟩
   ·have HF:Hid (jnx r w (.returned (.tuple #[v,.bool true])) w3):=by
     obtain ⟨S,h1,h2,h3⟩:=hgl.gs
     rw [hml]
     exact ⟨(KW.out w3 HB3.out).1,v,S,rfl,h1,h2,fun k hk=>Nat.le_trans HSZ.out (h3 k hk)⟩
    clear hml hgl
    go_wp2_with fail
    go_ret2
    exact HF.out
   ·have HR2:Hid (r=none):=hml
    clear hml
    go_wp2_with fail
    go_ret2
    exact HNO.out w3 HB3.out r HR2.out
theorem jo1 {o:Option (List G)} (i:Nat) (h:∀ l,o=some l→∀ g∈l,GW g):GW ((o.getD []).getD i .no):=by
 cases o with
 | none=>exact trivial
 | some l =>
  rw [Option.getD_some,lgd]
  cases hl:l[i]? with
  | none=>exact trivial
  | some y=>exact h l rfl y (List.mem_of_getElem? hl)
theorem jn2 (p:X):∀ (x:X) (l:List G),x.weight≤1048576→jai p x=some l→∀ g∈l,GW g:=by
 induction p with
 | no=>intro x l _ h;cases h
 | mk op a n s set len kid ih =>
  intro x l hx hm g hg
  rw [jai] at hm
  by_cases h2:op=2
  ·rw [if_pos h2] at hm
   injection hm with hm
   subst hm
   split at hg
   ·simp at hg
   ·simp only [List.mem_singleton] at hg
    subst hg
    exact ⟨hx,fun i hi=>absurd hi (Nat.not_lt_zero _)⟩
  ·rw [if_neg h2] at hm
   by_cases h1:op=1
   ·rw [if_pos h1] at hm
    split at hm
    ·injection hm with hm;subst hm;simp at hg
    ·cases hm
   ·rw [if_neg h1] at hm
    split at hm
    ·split at hm
     ·split at hm
      ·rename_i hl
       obtain ⟨i,l',hi,hf,hg'⟩:=jfE hm g hg
       exact ih i (x.kid i) l' (Nat.le_trans (Nat.le_trans (Nat.le_add_right _ _) (ja7 (p:=x) (i:=i) (by omega))) hx) hf g hg'
      ·cases hm
     ·split at hm
      ·cases hm
      ·rename_i hl
       cases hA:jaw (fun i=>jai (kid i) (x.kid i)) (len-2) with
       | none=>rw [hA] at hm;cases hm
       | some A =>
        cases hE:jcW (jab (kid (len-2)) 0) (fun j=>jai (kid (len-2)) (x.kid (len-2+j))) (x.len-(len-2)) with
        | none=>rw [hA,hE] at hm;cases hm
        | some E =>
         rw [hA,hE] at hm
         injection hm with hm
         subst hm
         rcases lma.1 hg with hg|hg
         ·obtain ⟨i,l',hi,hf,hg'⟩:=jfE hA g hg
          exact ih i (x.kid i) l' (Nat.le_trans (Nat.le_trans (Nat.le_add_right _ _) (ja7 (p:=x) (i:=i) (by omega))) hx) hf g hg'
         ·rw [jnN hE] at hg
          obtain ⟨i,hi,rfl⟩:=List.mem_map.1 hg
          refine ⟨(by show (X.no).weight≤1048576;exact nzl _),fun t ht=>?_⟩
          exact jo1 i (fun l' hl'=>ih (len-2) _ l' (Nat.le_trans (Nat.le_trans (Nat.le_add_right _ _) (ja7 (p:=x) (i:=len-2+t) (by omega))) hx) hl')
    ·cases hm
theorem jhD {α:Type} {f:Nat→List α} {x:α}:∀ {n:Nat},x∈jaB f n→∃ i,i<n∧x∈f i
 | 0,h=>by simp [jaB] at h
 | n+1,h=>by
  simp only [jaB,List.mem_append] at h
  rcases h with h|h
  ·obtain ⟨i,hi,hx⟩:=jhD h
   exact ⟨i,by omega,hx⟩
  ·exact ⟨n,by omega,h⟩
theorem jiQ (p:X):∀ (d:Int) (q:ByteArray×Int),q∈jab p d→(q.1.toList==jb3)=false:=by
 induction p with
 | no=>intro d q h;simp [jab] at h
 | mk op a n s set len kid ih =>
  intro d q h
  simp only [jab,List.mem_append] at h
  rcases h with h|h
  ·split at h
   ·rename_i hn
    simp only [List.mem_singleton] at h
    subst h
    unfold jbl at hn
    simp only [Bool.and_eq_true,Bool.not_eq_true'] at hn
    exact hn.2.2
   ·simp at h
  ·obtain ⟨i,_,hx⟩:=jhD h
   exact ih i _ q hx
theorem jiM {p x:X} {l:List G} (hp:okG p) (hm:jai p x=some l):∀ g∈l,(g.name.toList==jb3)=false:=by
 intro g hg
 have h1:=jfD p x l hp hm
 have h2:(g.name,g.deep)∈jeB l:=List.mem_map.2 ⟨g,hg,rfl⟩
 rw [h1] at h2
 exact jiQ p 0 _ h2
theorem jkl {l:List G} (h:∀ g∈l,(g.name.toList==jb3)=false) {nm:ByteArray} (hn:(nm.toList==jb3)=true):jag l nm=none:=by
 cases hf:jag l nm with
 | none=>rfl
 | some g =>
  obtain ⟨hm,he⟩:=jb1 hf
  have h1:=h g hm
  rw [beq_iff_eq] at he hn
  rw [he,hn] at h1
  simp at h1
def SMap (w:World) (M:Nat) (A:ByteArray→Option Value):Prop:=∃ es clock,w.heap[M]? = some (.map es clock)∧(∀ x∈es.toList,∃ s,x.key=.string s)∧(es.toList.map (·.key)).Nodup∧∀ s v,A s=some v↔∃ x∈es.toList,x.key=.string s∧x.val=v
theorem SMap.same {w w':World} {M:Nat} {A:ByteArray→Option Value} (h:SMap w M A) (hb:w'.heap[M]? = w.heap[M]?):SMap w' M A:=by
 obtain ⟨es,clock,h1,h2⟩:=h
 exact ⟨es,clock,hb.trans h1,h2⟩
theorem SMap.lt {w:World} {M:Nat} {A:ByteArray→Option Value} (h:SMap w M A):M<w.heap.size:=by
 obtain ⟨es,clock,h1,_⟩:=h
 exact (aes.1 h1).1
theorem SMap.below {w w':World} {M:Nat} {A:ByteArray→Option Value} (h:SMap w M A) (hb:Below w.heap.size w w'):SMap w' M A:=h.same (hb.block M h.lt)
theorem SMap.noRow {w:World} {M g:Nat} {A:ByteArray→Option Value} (h:SMap w M A) {cs:Array Value} {ty:TypeId} {fr:Nat×Nat} (hg:w.heap[g]? = some (.cells cs ty fr)):g≠M:=by
 obtain ⟨es,clock,h1,_⟩:=h
 intro e
 subst e
 rw [h1] at hg
 cases hg
theorem SMap.ext {w:World} {M:Nat} {A A':ByteArray→Option Value} (h:SMap w M A) (he:∀ s,A s=A' s):SMap w M A':=by
 obtain ⟨es,clock,h1,h2,h3,h4⟩:=h
 exact ⟨es,clock,h1,h2,h3,fun s v=>by rw [←he s];exact h4 s v⟩
section
variable {P : Program} {mt kt et : TypeId}
theorem jeS (w:World) (hm:P.underlying mt=some (.map kt et)) (n:Int):(Instr.makeMap mt (some (.int .i64 n))).run P w=.ok (.map (some w.heap.size)) (w.alloc (.map #[] 0)):=by
 simp [Instr.makeMap,run_underlying hm,asInt,asIntOf,Result.andThen]
theorem SMap.lookup {w:World} {M:Nat} {A:ByteArray→Option Value} (h:SMap w M A) (hm:P.underlying mt=some (.map kt et)) (hk:P.underlying kt=some .string) {z:Value} (hz:(zeroValue et).run P w=.ok z w) (s:ByteArray) :
  (Instr.lookup mt (.map (some M)) (.string s) true).run P w=.ok (match A s with|some v=>.tuple #[v,.bool true]|none=>.tuple #[z,.bool false]) w:=by
 obtain ⟨es,clock,h1,h2,h3,h4⟩:=h
 have hg:=MapKept.run_getObj_map (P:=P) h1
 have hks:∀ x∈es.toList,MapKept.IsKey .string x.key:=fun x hx=>by obtain ⟨s,e⟩:=h2 x hx;rw [e];trivial
 rcases MapKept.findNow_spec (d:=.string) (k:=.string s) trivial es.toList 0 hks with ⟨q1,q2⟩|⟨j,e0,q1,q2,q3⟩
 ·have hA:A s=none:=by
   cases hA:A s with
   | none=>rfl
   | some v =>
    obtain ⟨x,hx,e,_⟩:=(h4 s v).1 hA
    exact absurd e (q2 x hx)
  simp [Instr.lookup,run_underlying hm,hg,MapKept.run_checkKey hk (k:=.string s) trivial,MapKept.run_findKey hk q1,hz,hA,Result.andThen]
 ·have hA:A s=some e0.val:=(h4 s e0.val).2 ⟨e0,List.mem_of_getElem? q2,q3,rfl⟩
  simp [Instr.lookup,run_underlying hm,hg,MapKept.run_checkKey hk (k:=.string s) trivial,MapKept.run_findKey hk q1,hA,Result.andThen]
theorem SMap.update {w:World} {M:Nat} {A:ByteArray→Option Value} (h:SMap w M A) (hm:P.underlying mt=some (.map kt et)) (hk:P.underlying kt=some .string) (s:ByteArray) (v:Value) :
  ∃ w',(Instr.mapUpdate mt (.map (some M)) (.string s) v).run P w=.ok () w'∧SMap w' M (fun x=>if x=s then some v else A x)∧w.grownBy w' (some M)∧w'.heap.size=w.heap.size:=by
 obtain ⟨es,clock,h1,h2,h3,h4⟩:=h
 have hg:=MapKept.run_getObj_map (P:=P) h1
 have hks:∀ x∈es.toList,MapKept.IsKey .string x.key:=fun x hx=>by obtain ⟨s,e⟩:=h2 x hx;rw [e];trivial
 have grow:∀ o:Obj,w.grownBy {w with heap:=w.heap.setIfInBounds M o} (some M)∧({w with heap:=w.heap.setIfInBounds M o}:World).heap.size=w.heap.size:=fun o =>
  ⟨⟨rfl,rfl,rfl,by simp,fun k hk hne=>(MapKept.heap_set (o':=o) h1).2 k (fun e=>hne (by rw [e]))⟩,by simp⟩
 rcases MapKept.findNow_spec (d:=.string) (k:=.string s) trivial es.toList 0 hks with ⟨q1,q2⟩|⟨j,e0,q1,q2,q3⟩
 ·have hset:=MapKept.run_setObj_map (P:=P) (.map (es.push {key:=.string s,val:=v,born:=clock}) (clock+1)) h1
  refine ⟨{w with heap:=w.heap.setIfInBounds M (.map (es.push {key:=.string s,val:=v,born:=clock}) (clock+1))},?_,⟨_,_,(MapKept.heap_set h1).1,?_,?_,?_⟩,(grow _).1,(grow _).2⟩
  ·simp [Instr.mapUpdate,run_underlying hm,hg,MapKept.run_checkKey hk (k:=.string s) trivial,MapKept.run_findKey hk q1,hset,Result.andThen]
  ·intro x hx
   simp only [Array.toList_push,List.mem_append,List.mem_singleton] at hx
   rcases hx with hx|rfl
   ·exact h2 x hx
   ·exact ⟨s,rfl⟩
  ·simp only [Array.toList_push,List.map_append,List.map_cons,List.map_nil]
   refine List.nodup_append.2 ⟨h3,by simp,fun a ha b hb=>?_⟩
   simp only [List.mem_singleton] at hb
   subst hb
   obtain ⟨x,hx,rfl⟩:=List.mem_map.1 ha
   exact q2 x hx
  ·intro t u
   simp only [Array.toList_push,List.mem_append,List.mem_singleton]
   by_cases hts:t=s
   ·subst hts
    rw [if_pos rfl]
    constructor
    ·intro e
     injection e with e
     exact ⟨_,.inr rfl,rfl,e⟩
    ·rintro ⟨x,hx|rfl,e1,e2⟩
     ·exact absurd e1 (q2 x hx)
     ·rw [←e2]
   ·rw [if_neg hts,h4 t u]
    constructor
    ·rintro ⟨x,hx,e1,e2⟩
     exact ⟨x,.inl hx,e1,e2⟩
    ·rintro ⟨x,hx|rfl,e1,e2⟩
     ·exact ⟨x,hx,e1,e2⟩
     ·simp only at e1
      injection e1 with e1
      exact absurd e1.symm hts
 ·have hj:es[j]? = some e0:=by simpa using q2
  have hset:=MapKept.run_setObj_map (P:=P) (.map (es.modify j fun e=>{e with key:=.string s,val:=v}) clock) h1
  have hkeys:=MapKept.modify_keys (es:=es) j (fun e=>{e with key:=.string s,val:=v}) (fun e he=>by rw [hj] at he;cases he;exact q3.symm)
  have hmem:∀ x,x∈(es.modify j fun e=>{e with key:=.string s,val:=v}).toList↔(x={e0 with key:=.string s,val:=v}∨(x∈es.toList∧x.key≠.string s)):=by
   intro x
   have hlt:j<es.size:=(aes.1 hj).1
   have hej:es[j]=e0:=by rw [Array.getElem?_eq_getElem hlt] at hj;exact Option.some.inj hj
   constructor
   ·intro hx
    obtain ⟨i,hi⟩:=List.getElem?_of_mem hx
    rw [Array.getElem?_toList,Array.getElem?_modify] at hi
    by_cases hij:j=i
    ·subst hij
     rw [if_pos rfl,hj] at hi
     left
     exact (Option.some.inj hi).symm
    ·rw [if_neg hij] at hi
     right
     have hxm:x∈es.toList:=by rw [←Array.getElem?_toList] at hi;exact List.mem_of_getElem? hi
     refine ⟨hxm,fun e=>hij ?_⟩
     have n1:(es.toList.map (·.key))[i]? = some (.string s):=by rw [List.getElem?_map,Array.getElem?_toList,hi];simp [e]
     have n2:(es.toList.map (·.key))[j]? = some (.string s):=by rw [List.getElem?_map,Array.getElem?_toList,hj];simp [q3]
     exact (List.getElem?_inj (List.getElem?_eq_some_iff.1 n2).1 h3).1 (n2.trans n1.symm)
   ·rintro (rfl|⟨hx,hne⟩)
    ·have:(es.modify j fun e=>{e with key:=.string s,val:=v}).toList[j]? = some {e0 with key:=.string s,val:=v}:=by
      rw [Array.getElem?_toList,Array.getElem?_modify,if_pos rfl,hj];rfl
     exact List.mem_of_getElem? this
    ·obtain ⟨i,hi⟩:=List.getElem?_of_mem hx
     have hij:j≠i:=by
      intro e
      subst e
      rw [Array.getElem?_toList,hj] at hi
      have:=Option.some.inj hi
      subst this
      exact hne q3
     have:(es.modify j fun e=>{e with key:=.string s,val:=v}).toList[i]? = some x:=by
      rw [Array.getElem?_toList,Array.getElem?_modify,if_neg hij,←Array.getElem?_toList];exact hi
     exact List.mem_of_getElem? this
  refine ⟨{w with heap:=w.heap.setIfInBounds M (.map (es.modify j fun e=>{e with key:=.string s,val:=v}) clock)},?_,⟨_,_,(MapKept.heap_set h1).1,?_,?_,?_⟩,(grow _).1,(grow _).2⟩
  ·simp [Instr.mapUpdate,run_underlying hm,hg,MapKept.run_checkKey hk (k:=.string s) trivial,MapKept.run_findKey hk q1,hj,q3,MapKept.run_keyThatStays (d:=.string) (k:=.string s) trivial,hset,Result.andThen]
  ·intro x hx
   rcases (hmem x).1 hx with rfl|⟨hx,_⟩
   ·exact ⟨s,rfl⟩
   ·exact h2 x hx
  ·rw [hkeys];exact h3
  ·intro t u
   by_cases hts:t=s
   ·subst hts
    show (if t=t then some v else A t)=some u↔_
    rw [if_pos rfl]
    constructor
    ·intro e
     injection e with e
     exact ⟨_,(hmem _).2 (.inl rfl),rfl,e⟩
    ·rintro ⟨x,hx,e1,e2⟩
     rcases (hmem x).1 hx with rfl|⟨_,hne⟩
     ·rw [←e2]
     ·exact absurd e1 hne
   ·show (if t=s then some v else A t)=some u↔_
    rw [if_neg hts,h4 t u]
    constructor
    ·rintro ⟨x,hx,e1,e2⟩
     exact ⟨x,(hmem x).2 (.inr ⟨hx,by rw [e1];intro e;injection e with e;exact hts e⟩),e1,e2⟩
    ·rintro ⟨x,hx,e1,e2⟩
     rcases (hmem x).1 hx with rfl|⟨hx,_⟩
     ·simp only at e1
      injection e1 with e1
      exact absurd e1.symm hts
     ·exact ⟨x,hx,e1,e2⟩
theorem jcy (w:World) {ops:Array Oper} {rest:List Oper} {o:Oper} {a:Act} {Q:Exit→Act→World→Prop} (hg:o.guard=none) (m x:Operand) (hop:o.op=Op.lookup mt m x true) {M:Nat} {A:ByteArray→Option Value} (h:SMap w M A)
  (hm:P.underlying mt=some (.map kt et)) (hk:P.underlying kt=some .string) {z:Value} (hz:(zeroValue et).run P w=.ok z w) (s:ByteArray) (hM:a.eval m=.map (some M)) (hx:a.eval x=.string s) (v:Value) (hA:A s=some v)
  (hK:wpList P ops Q rest (a.put o.dst (.tuple #[v,.bool true])) w):wpList P ops Q (o::rest) a w:=by
 refine wpList_plain hg fun K' hK'=>?_
 have hrun:=h.lookup hm hk hz s
 rw [hA] at hrun
 unfold Oper.wp
 simp [execOp,hop,hM,hx,hrun,Result.andThen]
 exact hK' _ _ hK
theorem jcP (w:World) {ops:Array Oper} {rest:List Oper} {o:Oper} {a:Act} {Q:Exit→Act→World→Prop} (hg:o.guard=none) (m x:Operand) (hop:o.op=Op.lookup mt m x true) {M:Nat} {A:ByteArray→Option Value} (h:SMap w M A)
  (hm:P.underlying mt=some (.map kt et)) (hk:P.underlying kt=some .string) {z:Value} (hz:(zeroValue et).run P w=.ok z w) (s:ByteArray) (hM:a.eval m=.map (some M)) (hx:a.eval x=.string s) (hA:A s=none)
  (hK:wpList P ops Q rest (a.put o.dst (.tuple #[z,.bool false])) w):wpList P ops Q (o::rest) a w:=by
 refine wpList_plain hg fun K' hK'=>?_
 have hrun:=h.lookup hm hk hz s
 rw [hA] at hrun
 unfold Oper.wp
 simp [execOp,hop,hM,hx,hrun,Result.andThen]
 exact hK' _ _ hK
theorem SMap.len {w:World} {M:Nat} {A:ByteArray→Option Value} (h:SMap w M A) (hm:P.underlying mt=some (.map kt et)):∃ n:Nat,(∀ ty,(Builtin.len_ #[mt] ty #[.map (some M)]).run P w=.ok (.int .i64 n) w)∧(n=0↔∀ s,A s=none):=by
 obtain ⟨es,clock,h1,h2,h3,h4⟩:=h
 have hg:=MapKept.run_getObj_map (P:=P) h1
 refine ⟨es.size,fun ty=>by simp [Builtin.len_,run_underlying hm,hg,Result.andThen,goInt],?_⟩
 constructor
 ·intro h0 s
  cases hA:A s with
  | none=>rfl
  | some v =>
   obtain ⟨x,hx,_⟩:=(h4 s v).1 hA
   have:es.toList.length=0:=by simpa using h0
   have:=List.eq_nil_of_length_eq_zero this
   rw [this] at hx
   cases hx
 ·intro h0
  rcases Nat.eq_zero_or_pos es.size with hz|hz
  ·exact hz
  ·obtain ⟨s,e⟩:=h2 es[0] (by simp)
   have:=(h4 s es[0].val).2 ⟨es[0],by simp,e,rfl⟩
   rw [h0 s] at this
   cases this
theorem jeG {F:Fence} {nF:Nat} (w:World) {ops:Array Oper} {rest:List Oper} {o:Oper} {a:Act} {Q:Exit→Act→World→Prop} (hg:o.guard=none) (m x y:Operand) (hop:o.op=Op.mapUpdate mt m x y) {M:Nat} {A:ByteArray→Option Value} (h:SMap w M A)
  (hm:P.underlying mt=some (.map kt et)) (hk:P.underlying kt=some .string) (s:ByteArray) (v:Value) (hM:a.eval m=.map (some M)) (hx:a.eval x=.string s) (hv:a.eval y=v)
  (hK:∀ w',SMap w' M (fun x=>if x=s then some v else A x)→w.grownBy w' (some M)→w'.heap.size=w.heap.size→wpListIn F nF P ops Q rest (a.put o.dst undef) w'):wpListIn F nF P ops Q (o::rest) a w:=by
 refine wpListIn_plain hg fun K' hK'=>?_
 obtain ⟨w',hrun,r1,r2,r3⟩:=h.update hm hk s v
 unfold Oper.wpIn
 refine ⟨by simp [Oper.about,hop],?_⟩
 rw [Oper.semAt_plain F _ _ (by rw [hop];intro c hc';cases hc')]
 simp [execOp,hop,hM,hx,hv,hrun,Result.andThen]
 exact hK' _ _ (hK w' r1 r2 r3)
end
theorem jgc {fn:Func} {p q r:Tmp} {t1 t2 t3:TypeId} (h:fn.results=#[.cell p t1,.cell q t2,.cell r t3]) (tmps:Array Value) (P:Program) (w:World) :
  (results fn tmps).run P w=((asAddr (tmps.getD p undef)).run P w).andThen fun a w₁=>((loadVar t1 a).run P w₁).andThen fun v w₂=>((asAddr (tmps.getD q undef)).run P w₂).andThen fun b w₃=>((loadVar t2 b).run P w₃).andThen fun y w₄=>((asAddr (tmps.getD r undef)).run P w₄).andThen fun c w₅=>((loadVar t3 c).run P w₅).andThen fun z w₆=>.ok (.tuple #[v,y,z]) w₆:=by
 simp only [results,h]
 simp [Sem.run_bind,Result.andThen]
theorem jac {fn:Func} {p q:Tmp} {ty:TypeId} (h:fn.results=#[.cell p ty,.tmp q]) (tmps:Array Value) (P:Program) (w:World) :
  (results fn tmps).run P w=((asAddr (tmps.getD p undef)).run P w).andThen fun a w₁=>((loadVar ty a).run P w₁).andThen fun v w₂=>.ok (.tuple #[v,tmps.getD q undef]) w₂:=by
 simp only [results,h]
 simp [Sem.run_bind,Result.andThen]
def Like (g g':G):Prop:=g'.deep=g.deep∧g'.one=g.one∧g'.len=g.len∧g'.sm=g.sm
theorem Like.refl (g:G):Like g g:=⟨rfl,rfl,rfl,rfl⟩
def noGV:Value:=.agg #[.string ⟨#[]⟩,.int .i64 0,.int .i64 0,.int .i64 0,.int .i64 0,.string ⟨#[]⟩,.slice none 0 0,.slice none 0 0,.slice none 0 0]
def je9 (w0:World) (o:Option G) (e:Ending):Prop:=(o=none∧e=.returned (.tuple #[noGV,.bool false]))∨∃ g g' a b c,o=some g∧Like g g'∧GAt w0 g' a b c∧e=.returned (.tuple #[aggG g' a b c,.bool true])
def jeQ (L:List G) (nm:ByteArray):Nat→Nat→Option Nat
 | _,0=>none
 | i,k+1=>if (L.getD i .no).name=nm then some i else jeQ L nm (i+1) k
theorem jbW (a b:ByteArray):(a.toList==b.toList)=true↔a=b:=by
 rw [beq_iff_eq,ByteArray.toList_eq,ByteArray.toList_eq]
 constructor
 ·intro h
  apply ByteArray.ext
  exact Array.toList_inj.1 h
 ·intro h;rw [h]
theorem jgn (nm:ByteArray):∀ (L A:List G),(jeQ (A++L) nm A.length L.length).map (fun j=>(A++L).getD j .no)=jag L nm
 | [],A=>rfl
 | g::L,A=>by
  have e:A++g::L=(A++[g])++L:=by simp
  have ih:=jgn nm L (A++[g])
  rw [←e] at ih
  have hl:(A++[g]).length=A.length+1:=by simp
  rw [hl] at ih
  have hg:(A++g::L).getD A.length .no=g:=by simp [List.getD_eq_getElem?_getD]
  show ((if ((A++g::L).getD A.length .no).name=nm then some A.length else jeQ (A++g::L) nm (A.length+1) L.length).map _)=_
  rw [hg]
  by_cases h:g.name=nm
  ·rw [if_pos h]
   simp only [jag]
   rw [if_pos ((jbW _ _).2 h)]
   simp
  ·rw [if_neg h,ih]
   simp only [jag]
   rw [if_neg (fun q=>h ((jbW _ _).1 q))]
theorem jkm (L:List G) (nm:ByteArray):(jeQ L nm 0 L.length).map (fun j=>L.getD j .no)=jag L nm:=by
 have:=jgn nm L []
 simpa using this
def jbm (L:List G) (i k:Nat) (s:ByteArray):Option Value:=(jeQ L s i k).map (fun j:Nat=>Value.int .i64 (j:Int))
theorem jiW {L:List G} {i k j:Nat} {s:ByteArray} (h:jeQ L s i k=some j):jbm L i k s=some (.int .i64 j):=by unfold jbm;rw [h];rfl
theorem jk1 {L:List G} {i k:Nat} {s:ByteArray} (h:jeQ L s i k=none):jbm L i k s=none:=by unfold jbm;rw [h];rfl
theorem jhR (L:List G) (i k:Nat) (s:ByteArray):(if s=(L.getD i .no).name then some (Value.int .i64 (i:Int)) else jbm L (i+1) k s)=jbm L i (k+1) s:=by
 unfold jbm
 show _=(if (L.getD i .no).name=s then some i else jeQ L s (i+1) k).map _
 by_cases hs:s=(L.getD i .no).name
 ·rw [if_pos hs,if_pos hs.symm];rfl
 ·rw [if_neg hs,if_neg (fun e=>hs e.symm)]
theorem jjx (L:List G) (nm:ByteArray):∀ k i j,jeQ L nm i k=some j→j<i+k
 | 0,i,j,h=>by cases h
 | k+1,i,j,h=>by
  unfold jeQ at h
  split at h
  ·injection h with h;omega
  ·have:=jjx L nm k (i+1) j h;omega
structure FirstAt (w0 W:World) (L:List G) (P B M:Nat) (v:Value):Prop where
 boxP:W.heap[P]? = some (.cells #[.map (some M)] 116 (0,0))
 boxB:W.heap[B]? = some (.cells #[v] 28 (0,0))
 map:SMap W M (jbm L 0 L.length)
 gs:GsAt w0 L.length (fun i=>L.getD i .no) v
 bel:Below w0.heap.size w0 W
theorem FirstAt.below {w0 W W':World} {L:List G} {P B M:Nat} {v:Value} (h:FirstAt w0 W L P B M v) (hb:Below W.heap.size W W'):FirstAt w0 W' L P B M v :=
 ⟨(hb.block _ (aes.1 h.boxP).1).trans h.boxP,(hb.block _ (aes.1 h.boxB).1).trans h.boxB,h.map.below hb,h.gs,h.bel.trans (hb.mono h.bel.size)⟩
theorem jaf {p:Prop} (h:p):Hid p:=h
theorem jpQ (w:World):(zeroValue 3).run Tryz.prog w=.ok (.int .i64 0) w:=by kernel_rfl
theorem jkk (w0 W:World) (L:List G) (P B M:Nat) (v:Value) (h:FirstAt w0 W L P B M v) (nm:ByteArray) :
  Calls Tryz.prog 68 #[.string nm,.pointer (some ⟨P,0,none⟩),.pointer (some ⟨B,0,none⟩)] W fun e w'=>je9 w0 (jag L nm) e∧Below W.heap.size W w':=by
 have hfind:=jkm L nm
 obtain ⟨pv,cv,ev⟩:=h.gs.shape
 subst ev
 obtain ⟨R,hR⟩:∃ R,R=W.heap.size:=⟨_,rfl⟩
 obtain ⟨WA,hWA⟩:∃ WA,WA=W.alloc (.cells #[.string ⟨#[]⟩,.int .i64 0,.int .i64 0,.int .i64 0,.int .i64 0,.string ⟨#[]⟩,.slice none 0 0,.slice none 0 0,.slice none 0 0] 42):=⟨_,rfl⟩
 have hnb:Below W.heap.size W WA:=by rw [hWA];exact newx W _
 have hA:=h.below hnb
 have HA:Hid (FirstAt w0 WA L P B M (.slice pv L.length cv)∧Below W.heap.size W WA):=⟨hA,hnb⟩
 have hRA:WA.heap[R]? = some (.cells #[.string ⟨#[]⟩,.int .i64 0,.int .i64 0,.int .i64 0,.int .i64 0,.string ⟨#[]⟩,.slice none 0 0,.slice none 0 0,.slice none 0 0] 42 (0,0)):=by rw [hWA,hR];exact han W _
 have p0:WA.cell? ⟨P,0,none⟩=some (.map (some M)):=crw WA _ 0 _ _ _ hA.boxP
 have q0:WA.cell? ⟨B,0,none⟩=some (.slice pv L.length cv):=crw WA _ 0 _ _ _ hA.boxB
 have r0:WA.cell? ⟨R,0,none⟩=some (.string ⟨#[]⟩):=crw WA _ 0 _ _ _ hRA
 have r1:WA.cell? ⟨R,1,none⟩=some (.int .i64 0):=crw WA _ 1 _ _ _ hRA
 have r2:WA.cell? ⟨R,2,none⟩=some (.int .i64 0):=crw WA _ 2 _ _ _ hRA
 have r3:WA.cell? ⟨R,3,none⟩=some (.int .i64 0):=crw WA _ 3 _ _ _ hRA
 have r4:WA.cell? ⟨R,4,none⟩=some (.int .i64 0):=crw WA _ 4 _ _ _ hRA
 have r5:WA.cell? ⟨R,5,none⟩=some (.string ⟨#[]⟩):=crw WA _ 5 _ _ _ hRA
 have r6:WA.cell? ⟨R,6,none⟩=some (.slice none 0 0):=crw WA _ 6 _ _ _ hRA
 have r7:WA.cell? ⟨R,7,none⟩=some (.slice none 0 0):=crw WA _ 7 _ _ _ hRA
 have r8:WA.cell? ⟨R,8,none⟩=some (.slice none 0 0):=crw WA _ 8 _ _ _ hRA
 have rf:∀ j,WA.frozen? ⟨R,j,none⟩=false:=fun j=>fzr WA _ j _ _ hRA
 have WE:=jaf hWA
 have RE:=jaf hR
 clear h hnb hA hRA hWA hR
 cases hf:jeQ L nm 0 L.length with
 | none =>
  have HN:Hid (jag L nm=none):=by rw [←hfind,hf];rfl
  have HF:=jaf hf
  clear hf hfind
  go_enter Tryz.func68,Tryz.ntmps68
  go_upto_region 1 with fail
  rw [←WE.out,←RE.out]
  go_wp2_with (at_lookup;refine jcP _ rfl _ _ rfl HA.out.1.map Tryz.underlying116 Tryz.underlying9 (jpQ _) nm rfl rfl (jk1 HF.out) ?_)
  refine bpr (v:=.tuple #[noGV,.bool false]) (by rw [jac (p:=4) (q:=5) (ty:=42) (by kernel_rfl)];simp [go_sem,noGV,r0,r1,r2,r3,r4,r5,r6,r7,r8]) rfl ?_
  have hRR:W.heap.size≤R:=by rw [RE.out];exact nlr _
  exact ⟨.inl ⟨HN.out,rfl⟩,(((((((((HA.out.2.setCell hRR _).setCell hRR _).setCell hRR _).setCell hRR _).setCell hRR _).setCell hRR _).setCell hRR _).setCell hRR _).setCell hRR _)⟩
 | some j =>
  have hjl:j<L.length:=by have:=jjx L nm _ _ _ hf;omega
  have HN:Hid (jag L nm=some (L.getD j .no)):=by rw [←hfind,hf];rfl
  have HF:=jaf hf
  clear hf hfind
  obtain ⟨p1,cp1,e1,hp0,hc1,hc2,hat⟩:=HA.out.1.gs
  injection e1 with e1 _ e3
  subst e1 e3
  obtain ⟨b,o,ga,gb,gc,hp,hd,hgat⟩:∃ b o a b' c,pv=some ⟨b,o,none⟩∧Head9 w0 b (o+j*9) (L.getD j .no) a b' c∧GAt w0 (L.getD j .no) a b' c:=hat j hjl
  generalize L.getD j .no=g at *
  subst hp
  obtain ⟨c0,c1,c2,c3,c4,c5,c6,c7,c8⟩:=hd.below HA.out.1.bel
  have HG:=jaf hgat
  obtain ⟨⟨pa,ca,ea⟩,⟨pb,cb,eb⟩,⟨pc,cc,ec⟩⟩:=hgat.shape
  unfold maxLen at hc2
  clear hat hd hgat hp0
  subst ea eb ec
  go_enter Tryz.func68,Tryz.ntmps68
  go_upto_region 1 with fail
  rw [←WE.out,←RE.out]
  go_wp2_with (at_lookup;refine jcy _ rfl _ _ rfl HA.out.1.map Tryz.underlying116 Tryz.underlying9 (jpQ _) nm rfl rfl (.int .i64 j) (jiW HF.out) ?_)
  refine bpr (v:=.tuple #[aggG g (.slice pa g.one.set.length ca) (.slice pb g.one.len cb) (.slice pc g.len cc),.bool true]) (by rw [jac (p:=4) (q:=5) (ty:=42) (by kernel_rfl)];simp [go_sem,r0,r1,r2,r3,r4,r5,r6,r7,r8]) rfl ?_
  have hRR:W.heap.size≤R:=by rw [RE.out];exact nlr _
  exact ⟨.inr ⟨g,g,_,_,_,HN.out,Like.refl g,HG.out,rfl⟩,(((((((((HA.out.2.setCell hRR _).setCell hRR _).setCell hRR _).setCell hRR _).setCell hRR _).setCell hRR _).setCell hRR _).setCell hRR _).setCell hRR _)⟩
def jjA (f:Value):Prop:=(∃ P B,f=.func (.func 68) #[] #[.pointer (some ⟨P,0,none⟩),.pointer (some ⟨B,0,none⟩)])∨∃ S T F,f=.func (.func 111) #[] #[.pointer (some ⟨S,0,none⟩),.pointer (some ⟨T,0,none⟩),.pointer (some ⟨F,0,none⟩)]
def jpC (f:Value) (nm:ByteArray) (W:World) (Post:Ending→World→Prop):Prop :=
 (∃ P B,f=.func (.func 68) #[] #[.pointer (some ⟨P,0,none⟩),.pointer (some ⟨B,0,none⟩)]∧Calls Tryz.prog 68 #[.string nm,.pointer (some ⟨P,0,none⟩),.pointer (some ⟨B,0,none⟩)] W Post) ∨
 ∃ S T F,f=.func (.func 111) #[] #[.pointer (some ⟨S,0,none⟩),.pointer (some ⟨T,0,none⟩),.pointer (some ⟨F,0,none⟩)]∧Calls Tryz.prog 111 #[.string nm,.pointer (some ⟨S,0,none⟩),.pointer (some ⟨T,0,none⟩),.pointer (some ⟨F,0,none⟩)] W Post
def Finds (K:Nat) (w0 W:World) (f:Value) (L:List G):Prop:=jjA f∧∀ W',But (fun j=>j=K) W W'→∀ nm,jpC f nm W' (fun e w'=>je9 w0 (jag L nm) e∧Below W'.heap.size W' w')
theorem Finds.but {K:Nat} {w0 W W1:World} {f:Value} {L:List G} (h:Finds K w0 W f L) (hb:But (fun j=>j=K) W W1):Finds K w0 W1 f L:=⟨h.1,fun W' hb' nm=>h.2 W' (hb.trans hb') nm⟩
theorem FirstAt.but {K:Nat} {w0 W W':World} {L:List G} {P B M:Nat} {v:Value} (h:FirstAt w0 W L P B M v) (hb:But (fun j=>j=K) W W') (hK:K≠P∧K≠B∧K≠M∧w0.heap.size≤K):FirstAt w0 W' L P B M v :=
 ⟨hb.at h.boxP (by omega),hb.at h.boxB (by omega),h.map.same (hb.block M h.map.lt (by omega)),h.gs,h.bel.trans (hb.below h.bel.size (fun k hk=>by omega))⟩
theorem jiw {K:Nat} {w0 W:World} {L:List G} {P B M:Nat} {v:Value} (h:FirstAt w0 W L P B M v) (hK:K≠P∧K≠B∧K≠M∧w0.heap.size≤K):Finds K w0 W (.func (.func 68) #[] #[.pointer (some ⟨P,0,none⟩),.pointer (some ⟨B,0,none⟩)]) L :=
 ⟨.inl ⟨P,B,rfl⟩,fun W' hb nm=>.inl ⟨P,B,rfl,jkk w0 W' L P B M v (h.but hb hK) nm⟩⟩
theorem joP (w:World):(zeroValue 42).run Tryz.prog w=.ok (.agg #[.string ⟨#[]⟩,.int .i64 0,.int .i64 0,.int .i64 0,.int .i64 0,.string ⟨#[]⟩,.slice none 0 0,.slice none 0 0,.slice none 0 0]) w:=by kernel_rfl
structure TurnAt (K:Nat) (w0 W:World) (L L':List G) (k:Nat) (S T F Ms:Nat) (f:Value) (A:ByteArray→Option Value):Prop where
 boxS:W.heap[S]? = some (.cells #[.map (some Ms)] 170 (0,0))
 boxT:W.heap[T]? = some (.cells #[.int .i64 k] 3 (0,0))
 boxF:W.heap[F]? = some (.cells #[f] 78 (0,0))
 map:SMap W Ms A
 fnd:Finds K w0 W f L
 bel:Below w0.heap.size w0 W
 no:∀ nm,A nm=none→jag L' nm=jag L nm
 yes:∀ nm v,A nm=some v→∃ g a b c g',v=aggG g a b c∧GAt w0 g a b c∧k<g.len∧jag L' nm=some g'∧Like g' (g.sm k)
 ne:K≠S∧K≠T∧K≠F∧K≠Ms∧w0.heap.size≤K
theorem TurnAt.but {K:Nat} {w0 W W':World} {L L':List G} {k S T F Ms:Nat} {f:Value} {A:ByteArray→Option Value} (h:TurnAt K w0 W L L' k S T F Ms f A) (hb:But (fun j=>j=K) W W'):TurnAt K w0 W' L L' k S T F Ms f A:=by
 have hn:=h.ne
 exact ⟨hb.at h.boxS (by omega),hb.at h.boxT (by omega),hb.at h.boxF (by omega),h.map.same (hb.block Ms h.map.lt (by omega)),h.fnd.but hb,h.bel.trans (hb.below h.bel.size (fun j hj=>by omega)),h.no,h.yes,h.ne⟩
theorem jmb {K:Nat} {w0 W:World} {L L':List G} {k S T F Ms:Nat} {f:Value} {A:ByteArray→Option Value} (h:TurnAt K w0 W L L' k S T F Ms f A) (nm:ByteArray) :
  Calls Tryz.prog 111 #[.string nm,.pointer (some ⟨S,0,none⟩),.pointer (some ⟨T,0,none⟩),.pointer (some ⟨F,0,none⟩)] W fun e w'=>je9 w0 (jag L' nm) e∧Below W.heap.size W w':=by
 obtain ⟨R,hR⟩:∃ R,R=W.heap.size:=⟨_,rfl⟩
 obtain ⟨WA,hWA⟩:∃ WA,WA=W.alloc (.cells #[.string ⟨#[]⟩,.int .i64 0,.int .i64 0,.int .i64 0,.int .i64 0,.string ⟨#[]⟩,.slice none 0 0,.slice none 0 0,.slice none 0 0] 42):=⟨_,rfl⟩
 have hnb:Below W.heap.size W WA:=by rw [hWA];exact newx W _
 have hA:=h.but (But.of_all hnb)
 have HA:Hid (TurnAt K w0 WA L L' k S T F Ms f A∧Below W.heap.size W WA∧WA.heap.size=R+1):=⟨hA,hnb,by rw [hWA,hR];simp⟩
 have hRA:WA.heap[R]? = some (.cells #[.string ⟨#[]⟩,.int .i64 0,.int .i64 0,.int .i64 0,.int .i64 0,.string ⟨#[]⟩,.slice none 0 0,.slice none 0 0,.slice none 0 0] 42 (0,0)):=by rw [hWA,hR];exact han W _
 have HRA:=jaf hRA
 have p0:WA.cell? ⟨S,0,none⟩=some (.map (some Ms)):=crw WA _ 0 _ _ _ hA.boxS
 have WE:=jaf hWA
 have RE:=jaf hR
 clear h hnb hA hRA hWA hR
 cases hAn:A nm with
 | none =>
  have HF:=jaf hAn
  have HN:Hid (jag L' nm=jag L nm):=HA.out.1.no nm hAn
  clear hAn
  obtain ⟨WB,hWB⟩:∃ WB,WB=WA.alloc (.cells #[.string ⟨#[]⟩,.int .i64 0,.int .i64 0,.int .i64 0,.int .i64 0,.string ⟨#[]⟩,.slice none 0 0,.slice none 0 0,.slice none 0 0] 42):=⟨_,rfl⟩
  have hnb2:Below WA.heap.size WA WB:=by rw [hWB];exact newx WA _
  have HB:Hid (TurnAt K w0 WB L L' k S T F Ms f A∧Below W.heap.size W WB∧WB.heap[R]? = some (.cells #[.string ⟨#[]⟩,.int .i64 0,.int .i64 0,.int .i64 0,.int .i64 0,.string ⟨#[]⟩,.slice none 0 0,.slice none 0 0,.slice none 0 0] 42 (0,0))):=⟨HA.out.1.but (But.of_all hnb2),HA.out.2.1.trans (hnb2.mono HA.out.2.1.size),(hnb2.block R (aes.1 HRA.out).1).trans HRA.out⟩
  have f0:WB.cell? ⟨F,0,none⟩=some f:=crw WB _ 0 _ _ _ HB.out.1.boxF
  have hc:=HB.out.1.fnd.2 WB (But.refl _ _) nm
  have WBE:=jaf hWB
  clear hWB hnb2
  rcases hc with ⟨P,B,ef,hC⟩|⟨S2,T2,F2,ef,hC⟩
  all_goals
   subst ef
   have HC:=jaf hC
   clear hC
   go_enter Tryz.func111,Tryz.ntmps111
   go_upto_region 1 with fail
   rw [←WE.out,←RE.out]
   go_upto_region 4 with (at_lookup;refine jcP _ rfl _ _ rfl HA.out.1.map Tryz.underlying170 Tryz.underlying9 (joP _) nm rfl rfl HF.out ?_)
   rw [←WBE.out]
   go_wp2_with fail
   refine HC.out.mono ?_
   rintro e w5 ⟨hret,hb5⟩
   have hR5:w5.heap[R]? = some (.cells #[.string ⟨#[]⟩,.int .i64 0,.int .i64 0,.int .i64 0,.int .i64 0,.string ⟨#[]⟩,.slice none 0 0,.slice none 0 0,.slice none 0 0] 42 (0,0)):=(hb5.block R (aes.1 HB.out.2.2).1).trans HB.out.2.2
   have r0:w5.cell? ⟨R,0,none⟩=some (.string ⟨#[]⟩):=crw w5 _ 0 _ _ _ hR5
   have r1:w5.cell? ⟨R,1,none⟩=some (.int .i64 0):=crw w5 _ 1 _ _ _ hR5
   have r2:w5.cell? ⟨R,2,none⟩=some (.int .i64 0):=crw w5 _ 2 _ _ _ hR5
   have r3:w5.cell? ⟨R,3,none⟩=some (.int .i64 0):=crw w5 _ 3 _ _ _ hR5
   have r4:w5.cell? ⟨R,4,none⟩=some (.int .i64 0):=crw w5 _ 4 _ _ _ hR5
   have r5:w5.cell? ⟨R,5,none⟩=some (.string ⟨#[]⟩):=crw w5 _ 5 _ _ _ hR5
   have r6:w5.cell? ⟨R,6,none⟩=some (.slice none 0 0):=crw w5 _ 6 _ _ _ hR5
   have r7:w5.cell? ⟨R,7,none⟩=some (.slice none 0 0):=crw w5 _ 7 _ _ _ hR5
   have r8:w5.cell? ⟨R,8,none⟩=some (.slice none 0 0):=crw w5 _ 8 _ _ _ hR5
   have rf:∀ j,w5.frozen? ⟨R,j,none⟩=false:=fun j=>fzr w5 _ j _ _ hR5
   have H5:Hid (Below W.heap.size W w5):=HB.out.2.1.trans (hb5.mono HB.out.2.1.size)
   have hRR:W.heap.size≤R:=by rw [RE.out];exact nlr _
   clear hb5 hR5 f0 p0
   rcases hret with ⟨hn,rfl⟩|⟨g,g',a,b,c,hn,hlk,hat,rfl⟩
   ·have HX:Hid (jag L' nm=none):=HN.out.trans hn
    clear hn
    unfold noGV
    go_wp2_with fail
    refine bpr (v:=.tuple #[noGV,.bool false]) (by rw [jac (p:=5) (q:=6) (ty:=42) (by kernel_rfl)];simp [go_sem,noGV,r0,r1,r2,r3,r4,r5,r6,r7,r8]) rfl ?_
    exact ⟨.inl ⟨HX.out,rfl⟩,(((((((((H5.out.setCell hRR _).setCell hRR _).setCell hRR _).setCell hRR _).setCell hRR _).setCell hRR _).setCell hRR _).setCell hRR _).setCell hRR _)⟩
   ·have HX:Hid (jag L' nm=some g∧Like g g'∧GAt w0 g' a b c):=⟨HN.out.trans hn,hlk,hat⟩
    obtain ⟨⟨pa,ca,ea⟩,⟨pb,cb,eb⟩,⟨pc,cc,ec⟩⟩:=hat.shape
    clear hn hlk hat
    subst ea eb ec
    go_wp2_with fail
    refine bpr (v:=.tuple #[aggG g' (.slice pa g'.one.set.length ca) (.slice pb g'.one.len cb) (.slice pc g'.len cc),.bool true]) (by rw [jac (p:=5) (q:=6) (ty:=42) (by kernel_rfl)];simp [go_sem,r0,r1,r2,r3,r4,r5,r6,r7,r8]) rfl ?_
    exact ⟨.inr ⟨g,g',_,_,_,HX.out.1,HX.out.2.1,HX.out.2.2,rfl⟩,(((((((((H5.out.setCell hRR _).setCell hRR _).setCell hRR _).setCell hRR _).setCell hRR _).setCell hRR _).setCell hRR _).setCell hRR _).setCell hRR _)⟩
 | some v =>
  have HF:=jaf hAn
  obtain ⟨g,a,b,c,g',ev,hgat,hkl,hfg,hlk⟩:=HA.out.1.yes nm v hAn
  obtain ⟨_,_,hsome⟩:=hgat.parts
  obtain ⟨⟨pa,ca,ea⟩,⟨pb,cb,eb⟩,⟨pc,cc,ec⟩⟩:=hgat.shape
  obtain ⟨p1,cp1,e1,hp0,hc1,hc2,hsat⟩:=hsome
  obtain ⟨b2,o2,sa,sb,sc,hp,hd,hgk⟩:=hsat k hkl
  rw [ec] at e1
  injection e1 with e1 _ e3
  subst e1 e3
  subst hp
  have HX:Hid (jag L' nm=some g'∧Like g' (g.sm k)∧GAt w0 (g.sm k) sa sb sc):=⟨hfg,hlk,hgk⟩
  obtain ⟨⟨qa,da,eqa⟩,⟨qb,db,eqb⟩,⟨qc,dc,eqc⟩⟩:=hgk.shape
  unfold maxLen at hc2
  clear hAn hgat hfg hlk hgk hsat hp0
  subst ea eb ec
  rw [ev] at HF
  subst eqa eqb eqc
  generalize hsm:g.sm k=gk at *
  obtain ⟨WB,hWB⟩:∃ WB,WB=WA.alloc (.cells #[.string g.name,.int .i64 g.deep,.int .i64 g.one.op,.int .i64 g.one.at_,.int .i64 g.one.n,.string g.one.s,.slice pa g.one.set.length ca,.slice pb g.one.len cb,.slice (some ⟨b2,o2,none⟩) g.len cc] 42):=⟨_,rfl⟩
  obtain ⟨NB,hNB⟩:∃ NB,NB=WA.heap.size:=⟨_,rfl⟩
  have hnb2:Below WA.heap.size WA WB:=by rw [hWB];exact newx WA _
  have hBn:WB.heap[NB]? = some (.cells #[.string g.name,.int .i64 g.deep,.int .i64 g.one.op,.int .i64 g.one.at_,.int .i64 g.one.n,.string g.one.s,.slice pa g.one.set.length ca,.slice pb g.one.len cb,.slice (some ⟨b2,o2,none⟩) g.len cc] 42 (0,0)):=by rw [hWB,hNB];exact han WA _
  have HB:Hid (TurnAt K w0 WB L L' k S T F Ms f A∧Below W.heap.size W WB):=⟨HA.out.1.but (But.of_all hnb2),HA.out.2.1.trans (hnb2.mono HA.out.2.1.size)⟩
  have hR5:WB.heap[R]? = some (.cells #[.string ⟨#[]⟩,.int .i64 0,.int .i64 0,.int .i64 0,.int .i64 0,.string ⟨#[]⟩,.slice none 0 0,.slice none 0 0,.slice none 0 0] 42 (0,0)):=(hnb2.block R (aes.1 HRA.out).1).trans HRA.out
  have r0:WB.cell? ⟨R,0,none⟩=some (.string ⟨#[]⟩):=crw WB _ 0 _ _ _ hR5
  have r1:WB.cell? ⟨R,1,none⟩=some (.int .i64 0):=crw WB _ 1 _ _ _ hR5
  have r2:WB.cell? ⟨R,2,none⟩=some (.int .i64 0):=crw WB _ 2 _ _ _ hR5
  have r3:WB.cell? ⟨R,3,none⟩=some (.int .i64 0):=crw WB _ 3 _ _ _ hR5
  have r4:WB.cell? ⟨R,4,none⟩=some (.int .i64 0):=crw WB _ 4 _ _ _ hR5
  have r5:WB.cell? ⟨R,5,none⟩=some (.string ⟨#[]⟩):=crw WB _ 5 _ _ _ hR5
  have r6:WB.cell? ⟨R,6,none⟩=some (.slice none 0 0):=crw WB _ 6 _ _ _ hR5
  have r7:WB.cell? ⟨R,7,none⟩=some (.slice none 0 0):=crw WB _ 7 _ _ _ hR5
  have r8:WB.cell? ⟨R,8,none⟩=some (.slice none 0 0):=crw WB _ 8 _ _ _ hR5
  have rf:∀ j,WB.frozen? ⟨R,j,none⟩=false:=fun j=>fzr WB _ j _ _ hR5
  have t0:WB.cell? ⟨T,0,none⟩=some (.int .i64 k):=crw WB _ 0 _ _ _ HB.out.1.boxT
  have n8:WB.cell? ⟨NB,8,none⟩=some (.slice (some ⟨b2,o2,none⟩) g.len cc):=crw WB _ 8 _ _ _ hBn
  obtain ⟨c0,c1,c2,c3,c4,c5,c6,c7,c8⟩:=hd.below HB.out.1.bel
  have WBE:=jaf hWB
  have NBE:=jaf hNB
  clear hWB hNB hnb2 hBn hR5 hd
  have hkI:(k:Int)<g.len:=by omega
  go_enter Tryz.func111,Tryz.ntmps111
  go_upto_region 1 with fail
  rw [←WE.out,←RE.out]
  go_upto_region 2 with (at_lookup;refine jcy _ rfl _ _ rfl HA.out.1.map Tryz.underlying170 Tryz.underlying9 (joP _) nm rfl rfl _ HF.out ?_)
  rw [←WBE.out,←NBE.out]
  clear p0
  have hRR:W.heap.size≤R:=by rw [RE.out];exact nlr _
  go_wp2_with fail
  refine bpr (v:=.tuple #[aggG gk (.slice qa gk.one.set.length da) (.slice qb gk.one.len db) (.slice qc gk.len dc),.bool true]) (by rw [jac (p:=5) (q:=6) (ty:=42) (by kernel_rfl)];simp [go_sem,r0,r1,r2,r3,r4,r5,r6,r7,r8]) rfl ?_
  exact ⟨.inr ⟨g',gk,_,_,_,HX.out.1,HX.out.2.1,HX.out.2.2,rfl⟩,(((((((((HB.out.2.setCell hRR _).setCell hRR _).setCell hRR _).setCell hRR _).setCell hRR _).setCell hRR _).setCell hRR _).setCell hRR _).setCell hRR _)⟩
theorem jlr {K:Nat} {w0 W:World} {L L':List G} {k S T F Ms:Nat} {f:Value} {A:ByteArray→Option Value} (h:TurnAt K w0 W L L' k S T F Ms f A):Finds K w0 W (.func (.func 111) #[] #[.pointer (some ⟨S,0,none⟩),.pointer (some ⟨T,0,none⟩),.pointer (some ⟨F,0,none⟩)]) L' :=
 ⟨.inr ⟨S,T,F,rfl⟩,fun _ hb nm=>.inr ⟨S,T,F,rfl,jmb (h.but hb) nm⟩⟩
theorem jo5 (Ms k:Nat) (f:Value) (hf:jjA f) (W:World):Calls Tryz.prog 103 #[.map (some Ms),.int .i64 k,f] W fun e w'=>e=.returned (.func (.func 111) #[] #[.pointer (some ⟨W.heap.size,0,none⟩),.pointer (some ⟨W.heap.size+1,0,none⟩),.pointer (some ⟨W.heap.size+2,0,none⟩)]) ∧
  w'=((W.alloc (.cells #[.map (some Ms)] 170)).alloc (.cells #[.int .i64 k] 3)).alloc (.cells #[f] 78):=by
 rcases hf with ⟨P,B,rfl⟩|⟨S,T,F,rfl⟩
 all_goals
  go_enter Tryz.func103,Tryz.ntmps103
  go_wp2_with fail
  go_ret
  exact ⟨rfl,rfl⟩
end Go.Proofs.YtjmlfacbcfbhdaaGreatDoor
