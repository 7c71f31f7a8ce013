/- What holds between the rounds of spec.l7Each. No conditions. -/
import Derived.Test.YtjmlfacbcfbhdaaGreatDoorYA
import Derived.Test.YtjmlfacbcfbhdaaGreatDoorY33
import Derived.Test.YtjmlfacbcfbhdaaGreatDoorY21
import Derived.Test.YtjmlfacbcfbhdaaGreatDoorY30
import Derived.Test.YtjmlfacbcfbhdaaGreatDoorY29
import Derived.Laws.EntriesVeiled
set_option maxRecDepth 100000
set_option maxHeartbeats 8000000
namespace Go.Proofs.YtjmlfacbcfbhdaaGreatDoor
open Go.ChangeShapes Go.WideShapes Go.ChangeAt Go.RowKit
theorem jcZ (t:X) (w:World) (sv v:Value) (hin:t.At 0 w sv v) (hwt:t.Nice) :
  Calls Tryz.prog 9 #[.agg #[.int .i64 t.op,.int .i64 t.at_,.int .i64 t.n,.string t.s,sv,v]] w fun e w'=>e=.returned (.bool (jax t))∧Below w.heap.size w w':=by
 obtain ⟨p,cap,hv⟩:=hin.xs.shape
 obtain ⟨ps,cps,hsv⟩:=hin.sets.shape
 subst hv hsv
 have HR:Hid (jax t=(jbb 20 1500 1 (fun _=>t)).isSome):=jdp t
 have hW:=jjV (brf (((w.alloc (.cells #[.int .i64 t.op,.int .i64 t.at_,.int .i64 t.n,.string t.s,.slice ps t.set.length cps,.slice p t.len cap] 27)).alloc (.cells #[.int .i64 1500,.func (.func 23) #[] #[],.func (.func 24) #[] #[]] 59)).alloc (.cells #[.int .i64 t.op,.int .i64 t.at_,.int .i64 t.n,.string t.s,.slice ps t.set.length cps,.slice p t.len cap] 27)).heap.size _)
 obtain ⟨-,h2,h3,h4,h5⟩:=hW
 have HC:Hid (Calls Tryz.prog 25 #[.pointer (some ⟨w.heap.size+1,0,none⟩),.slice (some ⟨w.heap.size+1+1,0,none⟩) 1 1,.int .i64 20] (((w.alloc (.cells #[.int .i64 t.op,.int .i64 t.at_,.int .i64 t.n,.string t.s,.slice ps t.set.length cps,.slice p t.len cap] 27)).alloc (.cells #[.int .i64 1500,.func (.func 23) #[] #[],.func (.func 24) #[] #[]] 59)).alloc (.cells #[.int .i64 t.op,.int .i64 t.at_,.int .i64 t.n,.string t.s,.slice ps t.set.length cps,.slice p t.len cap] 27)) fun e w'=>e=.returned (.bool (jbb 20 1500 1 (fun _=>t)).isSome)∧Below w.heap.size w w'):=by
  have hsrc:SrcL w (w.heap.size+1+1) (some (.cells #[.int .i64 t.op,.int .i64 t.at_,.int .i64 t.n,.string t.s,.slice ps t.set.length cps,.slice p t.len cap] 27)) 1 (fun _=>t) (.slice (some ⟨w.heap.size+1+1,0,none⟩) 1 1):=by
   refine ⟨_,1,rfl,by unfold maxLen;omega,fun W hW i hi=>⟨w.heap.size+1+1,0,.slice ps t.set.length cps,.slice p t.len cap,rfl,?_,hin⟩⟩
   obtain rfl:i=0:=by omega
   have h6:Six W (w.heap.size+1+1) t.op t.at_ t.n t.s (.slice ps t.set.length cps) (.slice p t.len cap) 27:=hW.top.1
   obtain ⟨q0,q1,q2,q3,q4,q5⟩:=h6.cells
   exact ⟨q0,q1,q2,q3,q4,q5⟩
  have hkw:jlH 1 (fun _=>t):=fun _ _=>hwt
  refine (jn1 w (w.heap.size+1+1) _ rfl (w.heap.size+1) (by omega) (by omega) 20 1500 1 (fun _=>t) _ _ hsrc ⟨h5,h3,fun _=>by omega⟩ h2 (by omega) (by omega) hkw).mono ?_
  rintro e w' ⟨he,hf,-⟩
  refine ⟨he,⟨hf.os.trans h5.os,hf.tape.trans h5.tape,hf.output.trans h5.output,Nat.le_trans h5.size hf.size,fun x hx=>(hf.block x (by omega) (by simp;omega)).trans (h5.block x hx)⟩⟩
 clear hin hwt h2 h3 h4 h5
 go_enter Tryz.func9,Tryz.ntmps9
 go_wp2_with fail
 refine HC.out.mono ?_
 rintro e w1 ⟨rfl,hb1⟩
 have HB:Hid (Below w.heap.size w w1):=hb1
 clear hb1
 rw [←HR.out]
 go_wp2_with fail
 go_ret
 exact ⟨rfl,HB.out⟩
end Go.Proofs.YtjmlfacbcfbhdaaGreatDoor
namespace Go.Proofs.YtjmlfacbcfbhdaaGreatDoor
open Go.ChangeShapes Go.WideShapes Go.ChangeAt Go.RowKit Go.Shelf
attribute [local go_sem] Oper.semAt_some
end Go.Proofs.YtjmlfacbcfbhdaaGreatDoor
namespace Go.Proofs.YtjmlfacbcfbhdaaGreatDoor
open Go.ChangeShapes Go.WideShapes Go.ChangeAt Go.RowKit Go.Shelf
attribute [local go_sem] Oper.semAt_some
def jbR (f:Nat→Option (List G)) (i j:Nat):List G:=(List.range i).map fun t=>((f t).getD []).getD j .no
theorem jkU (t:X):∀ (w:World) (su u:Value) (d:Int),t.At 0 w su u→∀ y∈jab t d,y.1.size≤maxLen:=by
 induction t with
 | no=>intro w su u d _ y hy;simp [jab] at hy
 | mk op a n s set len kid ih =>
  intro w su u d h y hy
  rw [jab] at hy
  rcases lma.1 hy with hy|hy
  ·split at hy
   ·simp only [List.mem_singleton] at hy
    rw [hy]
    exact h.size
   ·simp at hy
  ·obtain ⟨i,hi,hy⟩:=jkp len hy
   obtain ⟨_,_,_,_,hat⟩:=h.xs.at
   obtain ⟨b,o,sv,uv,_,_,hk⟩:=hat i hi
   exact ih i w sv uv _ hk y hy
theorem jnV (f:Nat→Option (List G)) (i j t:Nat) (ht:t<(jbR f i j).length):(jbR f i j).getD t .no=((f t).getD []).getD j .no:=by
 have h:t<i:=by simpa [jbR] using ht
 unfold jbR
 simp only [List.getD_eq_getElem?_getD,List.getElem?_map,List.getElem?_range h,Option.map_some,Option.getD_some]
theorem jfs (f:Nat→Option (List G)) (i j:Nat):(jbR f i j).length=i:=by simp [jbR]
theorem ER.congr {w:World} {B:Nat} {v:Value} {ns:List (ByteArray×Int)} {Ls Ls':Nat→List G} {gv:Nat→Value} {ll:Nat→List GR} {SSs:Nat→List (List Nat)} (h:ER w B v ns Ls gv ll SSs) (he:∀ j,j<ns.length→Ls j=Ls' j):ER w B v ns Ls' gv ll SSs:=by
 have e:jbZ ns Ls gv=jbZ ns Ls' gv:=by
  unfold jbZ
  apply List.map_congr_left
  intro j hj
  have:=he j (by simpa using hj)
  simp only [erow,this]
 exact ⟨e ▸ h.row,fun j hj=>he j hj ▸ h.each j hj,h.dis,h.off,h.ge⟩
theorem jpv (w:World) (o1 o2:Obj):∃ W,(w.alloc o1).alloc o2=W∧W.heap[w.heap.size]? = some o1∧W.heap[w.heap.size+1]? = some o2∧W.heap.size=w.heap.size+2∧Below w.heap.size w W:=by
 have a:∀ (w:World) (o:Obj) (k:Nat),(w.alloc o).heap[k]? = if k=w.heap.size then some o else w.heap[k]? := fun w o k=>Array.getElem?_push
 refine ⟨_,rfl,?_,?_,by simp,((brf _ w).alloc (nlr _) _).alloc (by simp) _⟩
 all_goals
  simp only [a,World.size_alloc]
  repeat rw [if_neg (by omega)]
  simp
theorem jkt (f:Nat→Option (List G)) (i:Nat) (lst:List G) (h:f i=some lst) (n:Nat) (hl:lst.length=n) {j:Nat} (hj:j<n):jcT (jbR f i) lst j=jbR f (i+1) j:=by
 unfold jcT jbR
 rw [if_pos (by omega),List.range_succ,List.map_append]
 simp [h]
end Go.Proofs.YtjmlfacbcfbhdaaGreatDoor
namespace Go.Proofs.YtjmlfacbcfbhdaaGreatDoor
open Go.ChangeShapes Go.WideShapes Go.ChangeAt Go.RowKit
structure EI (W2 w1 wr:World) (B g0 cv:Nat) (ns:List (ByteArray×Int)) (base:Nat→List G) (lst:List G) (lv:Value) (SSl:List (List Nat)) (gv:Nat→Value) (ll:Nat→List GR) (SSs:Nat→List (List Nat)) (i:Nat):Prop where
 er:ER wr B (.slice (some ⟨g0,0,none⟩) ns.length cv) ns (jcT base (lst.take i)) gv ll SSs
 same:∀ x,(lv.ownBlock=some x∨∃ j T,i≤j∧SSl[j]? = some T∧x∈T)→wr.heap[x]? = w1.heap[x]?∧x≠g0∧∀ t,t<ns.length→x ∉ blG (gv t) (SSs t)
 bel:Below B W2 wr
 sz:w1.heap.size≤wr.heap.size
theorem jnT {SS:List (List Nat)}:∀ {i j:Nat} {S T:List Nat} {x:Nat},SS.flatten.Nodup→SS[i]? = some S→SS[j]? = some T→i≠j→x∈S→x∈T→False:=by
 induction SS with
 | nil=>intro i j S T x _ h;simp at h
 | cons a r ih =>
  intro i j S T x hnd hi hj hij hS hT
  rw [List.flatten_cons,List.nodup_append] at hnd
  cases i with
  | zero =>
   cases j with
   | zero=>exact hij rfl
   | succ j =>
    simp only [List.getElem?_cons_zero,Option.some.injEq] at hi
    rw [List.getElem?_cons_succ] at hj
    exact hnd.2.2 x (hi ▸ hS) x (jaD hj hT) rfl
  | succ i =>
   rw [List.getElem?_cons_succ] at hi
   cases j with
   | zero =>
    simp only [List.getElem?_cons_zero,Option.some.injEq] at hj
    exact hnd.2.2 x (hj ▸ hT) x (jaD hi hS) rfl
   | succ j =>
    rw [List.getElem?_cons_succ] at hj
    exact ih hnd.2.1 hi hj (by omega) hS hT
theorem jiy {SS:List (List Nat)}:∀ {i:Nat} {S:List Nat},SS.flatten.Nodup→SS[i]? = some S→S.Nodup:=by
 induction SS with
 | nil=>intro i S _ h;simp at h
 | cons a r ih =>
  intro i S hnd hi
  rw [List.flatten_cons,List.nodup_append] at hnd
  cases i with
  | zero=>simp only [List.getElem?_cons_zero,Option.some.injEq] at hi;rw [←hi];exact hnd.1
  | succ i=>rw [List.getElem?_cons_succ] at hi;exact ih hnd.2.1 hi
section
variable {W2 w1 wr D w3 F : World} {B B1 g0 cv : Nat} {ns : List (ByteArray × Int)} {base : Nat → List G} {lst : List G} {lv : Value} {lrows : List GR} {SSl : List (List Nat)} {gv : Nat → Value} {ll : Nat → List GR} {SSs : Nat → List (List Nat)} {i : Nat}
theorem EI.gown (E:EI W2 w1 wr B g0 cv ns base lst lv SSl gv ll SSs i) (hi:i<ns.length) {k:Nat} (hk:(gv i).ownBlock=some k):k≠g0∧k<wr.heap.size∧B≤k:=by
 have hin:k∈blG (gv i) (SSs i):=List.mem_append_left _ (by rw [hk];simp)
 have h1:=E.er.lt (.inr ⟨i,hi,hin⟩)
 exact ⟨fun e=>E.er.off i hi k hin (by rw [e];rfl),h1.2,h1.1⟩
theorem EI.row (E:EI W2 w1 wr B g0 cv ns base lst lv SSl gv ll SSs i) (hi:i<ns.length) (hD:But (fun _=>False) wr D):D.ownsRow B 42 9 (gv i) (jcT base (lst.take i) i).length (jak (ll i)):=hD.owns (E.er.each i hi).row (fun _ _ h=>h)
theorem EI.step (E:EI W2 w1 wr B g0 cv ns base lst lv SSl gv ll SSs i) (hl:GRow w1 B1 lv lst lrows SSl) (hge:∀ k∈blG lv SSl,B≤k) (hB:B≤wr.heap.size) (hi:i<ns.length) (hli:i<lst.length) (hD:But (fun _=>False) wr D) {g' c' n:Nat} (hn:(jcT base (lst.take i) i).length=n) {q:GR} (hq:lrows[i]? = some q)
  (r1:w3.ownsRow B 42 9 (.slice (some ⟨g',0,none⟩) (n+1) c') (n+1) (jak (ll i)++jnw)) (r2:D.grownBy w3 (gv i).ownBlock) (r3:(Value.slice (some ⟨g',0,none⟩) (n+1) c').ownBlock=(gv i).ownBlock∨(Value.slice (some ⟨g',0,none⟩) (n+1) c').ownBlock=some D.heap.size)
  (hF:F=(put9 w3 g' (n*9) q).setCell ⟨g0,i*9+8,none⟩ (.slice (some ⟨g',0,none⟩) (n+1) c')):g'≠g0∧∃ gv' ll' SSs',EI W2 w1 F B g0 cv ns base lst lv SSl gv' ll' SSs' (i+1):=by
 subst hF
 obtain ⟨a,b,c,T,k1,k2,k3⟩:=hl.each i hli
 rw [hq] at k1
 injection k1 with k1
 subst k1
 have htl:(lst.take i).length=i:=by rw [List.length_take];omega
 have hnd:=hl.own
 rw [List.nodup_append] at hnd
 have hT:=jiy hnd.2.1 k2
 have hsT:∀ k∈T,wr.heap[k]? = w1.heap[k]?∧k≠g0∧∀ t,t<ns.length→k ∉ blG (gv t) (SSs t):=fun k hk=>E.same k (.inr ⟨i,T,nlr _,k2,hk⟩)
 have hgw:GOwn wr (lst.getD i .no) a b c T:=k3.same _ (fun k hk=>(hsT k hk).1)
 have hg0lt:=(E.er.lt (.inl rfl:(Value.slice (some ⟨g0,0,none⟩) ns.length cv).ownBlock=some g0∨_))
 have hDs:=hD.size
 have hg':((gv i).ownBlock=some g'∨g'=D.heap.size):=by
  rcases r3 with h|h
  ·exact .inl (h.symm.trans rfl)
  ·exact .inr (by simpa [Value.ownBlock] using h)
 have hne:g'≠g0:=by
  rcases hg' with h|h
  ·exact (E.gown hi h).1
  ·omega
 have hll:(ll i).length=n:=by rw [(E.er.each i hi).len];exact hn
 have h9:=joc r1 (by simp) ⟨lst.getD i .no,a,b,c⟩
 rw [hll] at h9
 have hb4:But (fun k=>(gv i).ownBlock=some k) wr (put9 w3 g' (n*9) ⟨lst.getD i .no,a,b,c⟩):=by
  refine ((hD.mono (fun _ _ h=>h.elim)).grown r2 (fun k hk=>.inr hk)).grown h9.2 (fun k hk=>?_)
  injection hk with hk
  rcases hg' with h|h
  ·exact .inr (by rw [←hk];exact h)
  ·exact .inl (by omega)
 generalize put9 w3 g' (n*9) ⟨lst.getD i .no,a,b,c⟩=w4 at *
 have hbF:But (fun k=>k=g0∨(gv i).ownBlock=some k) wr (w4.setCell ⟨g0,i*9+8,none⟩ (.slice (some ⟨g',0,none⟩) (n+1) c')):=(hb4.mono (fun _ _ h=>.inr h)).setCell (.inr (.inl rfl)) _
 have hrow:w4.ownsRow B 42 9 (.slice (some ⟨g0,0,none⟩) ns.length cv) ns.length (jak (jbZ ns (jcT base (lst.take i)) gv)):=hb4.owns E.er.row (fun k hk h=>(E.gown hi h).1 (by simpa [Value.ownBlock] using hk.symm))
 have hst:=(hrow.stored (i*9+8) (.slice (some ⟨g',0,none⟩) (n+1) c')).1
 rw [jl2 ns (jcT base (lst.take i)) gv hi (jcT base (lst.take i) i++[lst.getD i .no])] at hst
 have hlk:=E.er.grow (F:=w4.setCell ⟨g0,i*9+8,none⟩ (.slice (some ⟨g',0,none⟩) (n+1) c')) (j:=i) hi (g:=lst.getD i .no) (a:=a) (b:=b) (c:=c) (Z:=T) (g':=g') (c':=c') hgw hT
  (fun k hk=>⟨(hsT k hk).2.2,fun e=>(hsT k hk).2.1 (by simpa [Value.ownBlock] using e.symm),hge k (List.mem_append_right _ (jaD k2 hk))⟩)
  (by rw [hn];exact jaM (by rw [jdh];exact h9.1) (fun k hk=>bhs _ _ _ _ (by
   have hk':g'=k:=by simpa [Value.ownBlock] using hk
   rw [←hk'];exact hne)))
  (hg'.imp id (fun h=>by omega))
  (fun k hk hn'=>hbF.block k (by
   rcases hk with hk|hk
   ·exact hgw.there _ k hk
   ·exact (E.er.lt (.inr hk)).2) (fun h=>by
   rcases h with h|h
   ·exact hn' (.inl (by rw [h];rfl))
   ·exact hn' (.inr h)))
  (by rw [hn];exact hst)
 have hw:=jly base (lst.take i) (lst.getD i .no)
 rw [htl] at hw
 rw [hw] at hlk
 have htk:lst.take i++[lst.getD i .no]=lst.take (i+1):=by
  rw [List.take_succ_eq_append_getElem hli,lgd,lgg hli,Option.getD_some]
 rw [htk] at hlk
 refine ⟨hne,_,_,_,hlk,fun x hx=>?_,?_,Nat.le_trans E.sz hbF.size⟩
 ·have hx0:lv.ownBlock=some x∨∃ j T,i≤j∧SSl[j]? = some T∧x∈T:=hx.imp id (fun ⟨j,S,h1,h2,h3⟩=>⟨j,S,by omega,h2,h3⟩)
  obtain ⟨e1,e2,e3⟩:=E.same x hx0
  have hxl:x<w1.heap.size:=by
   rcases hx with h|⟨j,S,_,h2,h3⟩
   ·exact hl.lt x (List.mem_append_left _ (jbh h))
   ·exact hl.lt x (List.mem_append_right _ (jaD h2 h3))
  have hxw:x<wr.heap.size:=nll hxl E.sz
  have hxg:(gv i).ownBlock≠some x:=fun h=>e3 i hi (List.mem_append_left _ (by rw [h];simp))
  have hxT:x ∉ T:=fun hxT=>by
   rcases hx with h|⟨j,S,h1,h2,h3⟩
   ·exact hnd.2.2 x (jbh h) x (jaD k2 hxT) rfl
   ·exact jnT hnd.2.1 k2 h2 (by omega) hxT h3
  refine ⟨(hbF.block x hxw (fun h=>h.elim e2 hxg)).trans e1,e2,fun t ht hm=>?_⟩
  by_cases hti:t=i
  ·subst hti
   rw [ja5,ja5] at hm
   simp only [blG,Value.ownBlock,Option.toList_some,List.flatten_append,List.flatten_singleton,List.mem_append,List.mem_singleton] at hm
   rcases hm with hm|hm|hm
   ·rcases hg' with h|h
    ·exact hxg (by rw [hm];exact h)
    ·omega
   ·exact e3 t ht (List.mem_append_right _ hm)
   ·exact hxT hm
  ·rw [jaL _ _ hti,jaL _ _ hti] at hm
   exact e3 t ht hm
 ·refine E.bel.trans (hbF.below hB (fun k hk=>?_))
  rcases hk with hk|hk
  ·omega
  ·exact (E.gown hi hk).2.2
end
theorem GRow.gs' {w:World} {B:Nat} {v:Value} {L:List G} {l:List GR} {SS:List (List Nat)} (h:GRow w B v L l SS):GsOwn w L.length (fun i=>L.getD i .no) v (blG v SS):=by
 rcases h.row.2 with ⟨rfl,hn⟩|⟨g,cap,cur,rfl,hbg,hgg,rest⟩
 ·have h1:SS=[]:=List.eq_nil_of_length_eq_zero (by rw [h.blocks];exact hn)
  exact .inl ⟨hn,rfl,by rw [h1];rfl⟩
 ·exact .inr ⟨g,cap,l,SS,rfl,jdW h.row (fun _ _=>nzl _),h.len,h.blocks,rfl,h.each⟩
theorem jks (f:Nat→List Nat):∀ n,(∀ i,i<n→(f i).Nodup)→(∀ i j,i<n→j<n→i≠j→∀ k,k∈f i→k ∉ f j)→(((List.range n).map f).flatten).Nodup:=by
 intro n
 induction n with
 | zero=>intro _ _;simp
 | succ n ih =>
  intro h1 h2
  rw [List.range_succ,List.map_append,List.flatten_append,List.nodup_append]
  refine ⟨ih (fun i hi=>h1 i (by omega)) (fun i j hi hj=>h2 i j (by omega) (by omega)),by simpa using h1 n (by omega),fun x hx y hy e=>?_⟩
  obtain ⟨T,hT,hxT⟩:=List.mem_flatten.1 hx
  obtain ⟨i,hi,rfl⟩:=List.mem_map.1 hT
  have hi':i<n:=by simpa using hi
  subst e
  exact h2 i n (by omega) (by omega) (by omega) x hxT (by simpa using hy)
theorem jpF {w:World} {B:Nat} {v:Value} {ns:List (ByteArray×Int)} {f:Nat→Option (List G)} {n:Nat} {gv:Nat→Value} {ll:Nat→List GR} {SSs:Nat→List (List Nat)} (h:ER w B v ns (jbR f n) gv ll SSs) (hn:∀ y∈ns,y.1.size≤maxLen):GN w B v (colG ns f n):=by
 have hsz:∀ j,j<ns.length→(ns.getD j (⟨#[]⟩,0)).1.size≤maxLen:=fun j hj=>by
  rw [lgd,lgg hj,Option.getD_some]
  exact hn _ (List.getElem_mem _)
 have hcol:∀ j,j<ns.length→(colG ns f n).getD j .no=.mk (ns.getD j (⟨#[]⟩,0)).1 ((ns.getD j (⟨#[]⟩,0)).2+1) jlB n (fun t=>((f t).getD []).getD j .no):=fun j hj=>by
  simp only [colG,List.getD_eq_getElem?_getD,List.getElem?_map,List.getElem?_range hj,Option.map_some,Option.getD_some]
 have hg:∀ j,j<ns.length→GOwn w ((colG ns f n).getD j .no) (.slice none 0 0) (.slice none 0 0) (gv j) (blG (gv j) (SSs j)):=fun j hj=>by
  have h1:=(h.each j hj).gs'
  rw [jfs] at h1
  have h2:=GOwn.mk' (deep:=(ns.getD j (⟨#[]⟩,0)).2+1) (hsz j hj) (joC w) h1
  rw [List.nil_append] at h2
  rw [hcol j hj]
  exact h2.congr (fun t ht=>jnV f n j t (by rw [jfs];exact ht))
 obtain ⟨rows,hrows⟩:∃ rows:List GR,rows=(List.range ns.length).map fun j=>⟨(colG ns f n).getD j .no,.slice none 0 0,.slice none 0 0,gv j⟩:=⟨_,rfl⟩
 have hrg:jak (jbZ ns (jbR f n) gv)=jak rows:=by
  have e:(jbZ ns (jbR f n) gv).map jba=rows.map jba:=by
   rw [hrows,jbZ,List.map_map,List.map_map]
   apply List.map_congr_left
   intro j hj
   have hj':j<ns.length:=by simpa using hj
   simp only [Function.comp,erow,jba,hcol j hj',G.name,G.deep,G.one]
  simp only [jak,List.flatMap_def]
  rw [e]
 refine ⟨rows,(List.range ns.length).map (fun j=>blG (gv j) (SSs j)),⟨by rw [jdf,←hrg];exact h.row,by simp [hrows,jdf],by simp [jdf],fun j hj=>?_,?_⟩,fun k hk=>?_⟩
 ·rw [jdf] at hj
  exact ⟨_,_,_,_,by rw [hrows,List.getElem?_map,List.getElem?_range hj,Option.map_some],by rw [List.getElem?_map,List.getElem?_range hj,Option.map_some],hg j hj⟩
 ·rw [List.nodup_append]
  refine ⟨by cases v.ownBlock <;> simp,jks _ _ (fun j hj=>(h.each j hj).own) (fun i j hi hj hij k hk=>h.dis i j hi hj hij k hk),fun x hx y hy e=>?_⟩
  obtain ⟨T,hT,hyT⟩:=List.mem_flatten.1 hy
  obtain ⟨j,hj,rfl⟩:=List.mem_map.1 hT
  subst e
  exact h.off j (by simpa using hj) x hyT (by simpa using hx)
 ·rcases lma.1 hk with hk|hk
  ·exact (h.row.lt k (by simpa using hk)).1
  ·obtain ⟨T,hT,hkT⟩:=List.mem_flatten.1 hk
   obtain ⟨j,hj,rfl⟩:=List.mem_map.1 hT
   exact h.ge j (by simpa using hj) k hkT
theorem jpG {w:World} {B:Nat} {v:Value} {ns:List (ByteArray×Int)} {Ls:Nat→List G} {gv:Nat→Value} {ll:Nat→List GR} {SSs:Nat→List (List Nat)} (h:ER w B v ns Ls gv ll SSs):∀ u∈jak (jbZ ns Ls gv),u.oneCell'=true:=by
 intro u hu
 obtain ⟨q,hq,hu⟩:=List.mem_flatMap.1 hu
 obtain ⟨j,hj,rfl⟩:=List.mem_map.1 hq
 obtain ⟨p,c,e⟩:=jc5 (h.each j (by simpa using hj)).row
 exact jej _ rfl rfl (by simp only [erow];rw [e];rfl) u hu
structure EQ (wr:World) (g0 gl g' c' n i:Nat) (x v':Value) (w3:World):Prop where
 eq:v'=.slice (some ⟨g',0,none⟩) (n+1) c'
 old:w3.cell? ⟨g0,i*9+8,none⟩=some x
 oldf:w3.frozen? ⟨g0,i*9+8,none⟩=false
 ne0:g'≠g0
 ne1:gl≠g'
 ne2:gl≠g0
 same:w3.heap[gl]? = wr.heap[gl]?
 cells:∀ t,t<9→∃ u,w3.cell? ⟨g',n*9+t,none⟩=some u
 live:∀ t,w3.frozen? ⟨g',t,none⟩=false
theorem EI.pushed {W2 w1 wr D w3:World} {B g0 cv:Nat} {ns:List (ByteArray×Int)} {base:Nat→List G} {lst:List G} {SSl:List (List Nat)} {gv:Nat→Value} {ll:Nat→List GR} {SSs:Nat→List (List Nat)} {i gl cl:Nat} (E:EI W2 w1 wr B g0 cv ns base lst (.slice (some ⟨gl,0,none⟩) lst.length cl) SSl gv ll SSs i) (hgl:gl<w1.heap.size) (hi:i<ns.length) (hD:But (fun _=>False) wr D) {v':Value} {n:Nat} {news:List Value}
  (r1:w3.ownsRow B 42 9 v' (n+1) (jak (ll i)++news)) (r2:D.grownBy w3 (gv i).ownBlock) (r3:v'.ownBlock=(gv i).ownBlock∨v'.ownBlock=some D.heap.size):∃ g' c',EQ wr g0 gl g' c' n i (gv i) v' w3:=by
 obtain ⟨g',c',hv'⟩:=ownsRow_succ r1
 subst hv'
 have h3:But (fun k=>(gv i).ownBlock=some k) wr w3:=(hD.mono (fun _ _ h=>h.elim)).grown r2 (fun k hk=>.inr hk)
 obtain ⟨e1,e2,e3⟩:=E.same gl (.inl rfl)
 have hglw:gl<wr.heap.size:=nll hgl E.sz
 have hglg:(gv i).ownBlock≠some gl:=fun h=>e3 i hi (List.mem_append_left _ (by rw [h];simp))
 have hg0lt:=(E.er.lt (.inl rfl:(Value.slice (some ⟨g0,0,none⟩) ns.length cv).ownBlock=some g0∨_)).2
 have hDs:=hD.size
 have hg':g'≠g0∧gl≠g':=by
  rcases r3 with h|h
  ·have h2:(gv i).ownBlock=some g':=h.symm.trans rfl
   exact ⟨(E.gown hi h2).1,fun e=>hglg (by rw [e];exact h2)⟩
  ·have h2:g'=D.heap.size:=by simpa [Value.ownBlock] using h
   exact ⟨by omega,by omega⟩
 have hrow:w3.ownsRow B 42 9 (.slice (some ⟨g0,0,none⟩) ns.length cv) ns.length (jak (jbZ ns (jcT base (lst.take i)) gv)):=h3.owns E.er.row (fun k hk h=>(E.gown hi h).1 (by simpa [Value.ownBlock] using hk.symm))
 refine ⟨g',c',rfl,?_,hrow.frozenAt _,hg'.1,hg'.2,e2,h3.block gl hglw hglg,fun t ht=>?_,fun t=>r1.frozenAt t⟩
 ·exact (hrow.cellAt (i*9+8) (by omega)).trans (jcY _ (jeX ns _ gv hi) (by omega))
 ·have hlen:(jak (ll i)++news).length=(n+1)*9:=r1.1
  have hl2:n*9+t<(jak (ll i)++news).length:=by rw [hlen];omega
  exact ⟨_,(r1.cellAt (n*9+t) (by rw [←hlen];exact hl2)).trans (lgg hl2)⟩
theorem EI.list {W2 w1 wr:World} {B B1 g0 cv:Nat} {ns:List (ByteArray×Int)} {base:Nat→List G} {lst:List G} {lrows:List GR} {SSl:List (List Nat)} {gv:Nat→Value} {ll:Nat→List GR} {SSs:Nat→List (List Nat)} {i gl cl:Nat} (E:EI W2 w1 wr B g0 cv ns base lst (.slice (some ⟨gl,0,none⟩) lst.length cl) SSl gv ll SSs i) (hl:GRow w1 B1 (.slice (some ⟨gl,0,none⟩) lst.length cl) lst lrows SSl) (hi:i<lst.length) :
  ∃ (g:G) (a1:Option Addr) (a2:Nat) (b1:Option Addr) (b2:Nat) (c1:Option Addr) (c2:Nat),lrows[i]? = some ⟨g,.slice a1 g.one.set.length a2,.slice b1 g.one.len b2,.slice c1 g.len c2⟩∧(wr.cell? ⟨gl,i*9,none⟩=some (.string g.name)∧wr.cell? ⟨gl,i*9+1,none⟩=some (.int .i64 g.deep)∧wr.cell? ⟨gl,i*9+2,none⟩=some (.int .i64 g.one.op)∧wr.cell? ⟨gl,i*9+3,none⟩=some (.int .i64 g.one.at_)∧wr.cell? ⟨gl,i*9+4,none⟩=some (.int .i64 g.one.n)∧wr.cell? ⟨gl,i*9+5,none⟩=some (.string g.one.s)∧wr.cell? ⟨gl,i*9+6,none⟩=some (.slice a1 g.one.set.length a2)∧wr.cell? ⟨gl,i*9+7,none⟩=some (.slice b1 g.one.len b2)∧wr.cell? ⟨gl,i*9+8,none⟩=some (.slice c1 g.len c2)):=by
 obtain ⟨a,b,c,T,k1,k2,k3⟩:=hl.each i hi
 obtain ⟨⟨a1,a2,e1⟩,⟨b1,b2,e2⟩,⟨c1,c2,e3⟩⟩:=k3.shape
 subst e1 e2 e3
 have hr:wr.ownsRow B1 42 9 (.slice (some ⟨gl,0,none⟩) lst.length cl) lst.length (jak lrows):=jaM hl.row (fun k hk=>(E.same k (.inl hk)).1)
 have c:∀ q,q<9→wr.cell? ⟨gl,i*9+q,none⟩=(jba _)[q]? := fun q hq=>(hr.cellAt (i*9+q) (by omega)).trans (jcY _ k1 hq)
 have c0:=c 0 (by omega)
 rw [Nat.add_zero] at c0
 exact ⟨_,_,_,_,_,_,_,k1,c0,c 1 (by omega),c 2 (by omega),c 3 (by omega),c 4 (by omega),c 5 (by omega),c 6 (by omega),c 7 (by omega),c 8 (by omega)⟩
end Go.Proofs.YtjmlfacbcfbhdaaGreatDoor
