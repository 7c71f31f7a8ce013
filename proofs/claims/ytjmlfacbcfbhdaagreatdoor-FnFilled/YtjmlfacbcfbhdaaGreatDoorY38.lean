/- impl.severalIn. Condition: at most 2^21 parts. -/
import Derived.Test.YtjmlfacbcfbhdaaGreatDoorYA
import Derived.Test.YtjmlfacbcfbhdaaGreatDoorY37
import Derived.Test.YtjmlfacbcfbhdaaGreatDoorY21
import Derived.Test.YtjmlfacbcfbhdaaGreatDoorY23
import Derived.Test.YtjmlfacbcfbhdaaGreatDoorY20
import Derived.Stop.RegionWithIn
import Derived.RegionIn
import Derived.Sort.CutIn
set_option maxRecDepth 100000
set_option maxHeartbeats 8000000
namespace Go.Proofs.YtjmlfacbcfbhdaaGreatDoor
open Go.ChangeShapes Go.WideShapes Go.ChangeAt Go.RowKit Go.Shelf
attribute [local go_sem] Oper.semAt_some
theorem jn7 (w:World) (o0 o1 o2 o3 o4 o5 o6 o7 o8:Obj):∃ W,((((((((w.alloc o0).alloc o1).alloc o2).alloc o3).alloc o4).alloc o5).alloc o6).alloc o7).alloc o8=W∧W.heap[w.heap.size]? = some o0∧W.heap[w.heap.size+1]? = some o1∧W.heap[w.heap.size+2]? = some o2∧W.heap[w.heap.size+3]? = some o3∧W.heap[w.heap.size+4]? = some o4∧W.heap[w.heap.size+5]? = some o5∧W.heap[w.heap.size+6]? = some o6∧W.heap[w.heap.size+7]? = some o7∧W.heap[w.heap.size+8]? = some o8∧W.heap.size=w.heap.size+9∧Below w.heap.size w W:=by
 have a:∀ (w:World) (o:Obj) (k:Nat),(w.alloc o).heap[k]? = if k=w.heap.size then some o else w.heap[k]? := fun w o k=>Array.getElem?_push
 refine ⟨_,rfl,?_,?_,?_,?_,?_,?_,?_,?_,?_,by simp,((((((((brf _ w).alloc (nlr _) _).alloc (by simp) _).alloc (by simp;omega) _ |>.alloc (by simp;omega) _).alloc (by simp;omega) _).alloc (by simp;omega) _).alloc (by simp;omega) _).alloc (by simp;omega) _).alloc (by simp;omega) _⟩
 all_goals
  simp only [a,World.size_alloc]
  repeat rw [if_neg (by omega)]
  simp
def nmsD (l:List (ByteArray×Int)):List ByteArray:=l.map (·.1)
theorem jhO (l:List (ByteArray×Int)) (x:ByteArray×Int):nmsD (l++[x])=nmsD l++[x.1]:=by simp [nmsD]
def joG (w0 W w':World) (L:List G) (a:Addr) (ns:List ByteArray) (e:Ending):Prop :=
 (∃ (n Ms:Nat) (Am:ByteArray→Option Value),jb5 (jbk L ns)=some n∧e=.returned (.tuple #[.map (some Ms),.int .i64 n,.nilIface])∧SMap w' Ms Am∧SevOk w0 L Am n ns∧W.heap.size≤Ms)∨(jb5 (jbk L ns)=none∧e=.returned (.tuple #[.map none,.int .i64 0,errV a]))
def SevBox (fv:Value) (W:World) (A M:Nat) (V:World):Prop:=V.heap[A+1]? = some (.cells #[fv] 78 (0,0))∧V.heap[A+2]? = some (.cells #[.map none] 170 (0,0))∧V.heap[A+3]? = some (.cells #[.int .i64 0] 3 (0,0))∧V.heap[A+4]? = some (.cells #[.nilIface] 44 (0,0))∧V.heap[A+6]? = some (.cells #[.map (some (A+5))] 170 (0,0))∧V.heap[M]? = some (.deferred (some []))∧Below W.heap.size W V
def joF (w0:World) (L:List G) (A:Nat) (ns:List ByteArray) (V:World):Prop:=∃ (Am:ByteArray→Option Value) (often:Nat),SMap V (A+5) Am∧SevOk w0 L Am often ns∧V.heap[A+7]? = some (.cells #[.int .i64 often] 3 (0,0))
theorem jfO {V Wz W w0:World} {A M:Nat} {rec:LoopState→Option Code→Loop} {X:Nat→Prop} {fv:Value} {L:List G} {pre:List (ByteArray×Int)} {x:ByteArray×Int}
  (Am:ByteArray→Option Value) (often:Nat)
  (h:SevBox fv W A M Wz)
  (hm:SMap Wz (A+5) Am) (h7:Wz.heap[A+7]? = some (.cells #[.int .i64 often] 3 (0,0))) (hl:Wz.heap[M+1]? = some (.loop (rec .busy none))) (hbut:But (fun k=>k<M+2) V Wz)
  (hs:SevOk w0 L Am often (nmsD pre++[x.1])) (hM:M=A+9∧(∀ k,X k→M+2≤k)∧M+2≤V.heap.size∧A=W.heap.size) :
  (SevBox fv W A M (Wz.putObj (M+1) (.loop (rec .ready none)))∧joF w0 L A (nmsD (pre++[x])) (Wz.putObj (M+1) (.loop (rec .ready none)))∧(Wz.putObj (M+1) (.loop (rec .ready none))).heap[M+1]? = some (.loop (rec .ready none))∧(∀ k,X k→M+2≤k)∧M+2≤(Wz.putObj (M+1) (.loop (rec .ready none))).heap.size)∧joR X V (Wz.putObj (M+1) (.loop (rec .ready none))):=by
 obtain ⟨m1,m2,m3,m4⟩:=hM
 obtain ⟨h1,h2,h3,h4,h5,h6,h8⟩:=h
 have ot:∀ {k:Nat},k≠M+1→(Wz.putObj (M+1) (.loop (rec .ready none))).heap[k]? = Wz.heap[k]? := fun hk=>World.putObj_heap_other hk
 have hb:But (fun k=>k<M+2) V (Wz.putObj (M+1) (.loop (rec .ready none))):=hbut.putObj (.inr (by omega)) _
 refine ⟨⟨⟨(ot (by omega)).trans h1,(ot (by omega)).trans h2,(ot (by omega)).trans h3,(ot (by omega)).trans h4,(ot (by omega)).trans h5,(ot (by omega)).trans h6,?_⟩,⟨Am,often,hm.same (ot (by omega)),by rw [jhO];exact hs,(ot (by omega)).trans h7⟩,World.putObj_heap_same (aes.1 hl).1,m2,Nat.le_trans m3 hb.size⟩,hb.size,fun k hX hk=>hb.block k hk (fun h=>by have:=m2 k hX;omega)⟩
 exact h8.trans (((But.refl (fun k=>k=M+1) Wz).putObj (.inr rfl) _).below h8.size (fun k hk=>by omega))
def Two (l:List Nat):Prop:=∃ x∈l,∃ y∈l,x≠y
theorem jox {w0:World} {L:List G} {Am:ByteArray→Option Value} {often:Nat} {ns:List ByteArray} {nm:ByteArray} {g:G} (h:SevOk w0 L Am often ns) (hn:¬ ∀ s,Am s=none) (hg:jag L nm=some g) (hd:0<g.deep) (hne:g.len≠often):Two (jbk L (ns++[nm])):=by
 obtain ⟨h1,h2⟩:=sameN_some.1 (h.full hn)
 obtain ⟨x,hx⟩:=List.exists_mem_of_ne_nil _ h1
 have hxo:=h2 x hx
 subst hxo
 obtain ⟨k,hk,g2,q1,q2,q3⟩:=mem_lensF.1 hx
 exact ⟨g.len,mem_lensF.2 ⟨nm,by simp,g,hg,hd,rfl⟩,x,mem_lensF.2 ⟨k,List.mem_append_left _ hk,g2,q1,q2,q3⟩,hne⟩
theorem Two.none {l:List Nat} (h:Two l):jb5 l=none:=by
 obtain ⟨x,hx,y,hy,hne⟩:=h
 exact jmW hx hy hne
theorem Two.mono {L:List G} {ns r:List ByteArray} (h:Two (jbk L ns)):Two (jbk L (ns++r)):=by
 have m:∀ x,x∈jbk L ns→x∈jbk L (ns++r):=fun x hx=>by
  obtain ⟨k,hk,q⟩:=mem_lensF.1 hx
  exact mem_lensF.2 ⟨k,List.mem_append_left _ hk,q⟩
 obtain ⟨x,hx,y,hy,hne⟩:=h
 exact ⟨x,m x hx,y,m y hy,hne⟩
def SevOut (m n e:Value) (W:World) (A M:Nat) (V:World):Prop:=V.heap[A+2]? = some (.cells #[m] 170 (0,0))∧V.heap[A+3]? = some (.cells #[n] 3 (0,0))∧V.heap[A+4]? = some (.cells #[e] 44 (0,0))∧V.heap[M]? = some (.deferred (some []))∧Below W.heap.size W V
theorem ji7 {W6 W:World} {A M:Nat} {fv:Value} (h:SevBox fv W A M W6) (hM:M=A+9) (hA:A=W.heap.size) (m n e:Value) :
  SevOut m n e W A M ((((W6.setCell ⟨A+2,0,none⟩ m).setCell ⟨A+3,0,none⟩ n).setCell ⟨A+4,0,none⟩ e).drew)∧∀ k,k≠A+2→k≠A+3→k≠A+4→((((W6.setCell ⟨A+2,0,none⟩ m).setCell ⟨A+3,0,none⟩ n).setCell ⟨A+4,0,none⟩ e).drew).heap[k]? = W6.heap[k]? := by
 obtain ⟨h1,h2,h3,h4,h5,h6,h8⟩:=h
 have r2:=heap_setCell_same W6 (A+2) 0 _ _ m h2
 have r3:(W6.setCell ⟨A+2,0,none⟩ m).heap[A+3]? = _:=(bhs _ _ _ _ (by simp)).trans h3
 have r4:((W6.setCell ⟨A+2,0,none⟩ m).setCell ⟨A+3,0,none⟩ n).heap[A+4]? = _:=((bhs _ _ _ _ (by simp)).trans (bhs _ _ _ _ (by simp))).trans h4
 have s3:=heap_setCell_same _ (A+3) 0 _ _ n r3
 have s4:=heap_setCell_same _ (A+4) 0 _ _ e r4
 refine ⟨⟨?_,?_,?_,?_,?_⟩,?_⟩
 ·exact ((bhs _ _ _ _ (by simp)).trans (bhs _ _ _ _ (by simp))).trans r2
 ·exact (bhs _ _ _ _ (by simp)).trans s3
 ·exact s4
 ·exact ((bhs _ _ _ _ (by simp;omega)).trans ((bhs _ _ _ _ (by simp;omega)).trans (bhs _ _ _ _ (by simp;omega)))).trans h6
 ·exact ((((h8.setCell (p:=⟨A+2,0,none⟩) (by simp;omega) m).setCell (p:=⟨A+3,0,none⟩) (by simp;omega) n).setCell (p:=⟨A+4,0,none⟩) (by simp;omega) e)).drew
 ·intro k k2 k3 k4
  exact (bhs _ _ _ _ (by simpa using k4)).trans ((bhs _ _ _ _ (by simpa using k3)).trans (bhs _ _ _ _ (by simpa using k2)))
theorem SevOut.put {m n e:Value} {W V:World} {A M k:Nat} (h:SevOut m n e W A M V) (hA:A=W.heap.size) (hk:k=M+1) (hM:M=A+9) (o:Obj):SevOut m n e W A M (V.putObj k o):=by
 obtain ⟨h1,h2,h3,h4,h5⟩:=h
 exact ⟨(World.putObj_heap_other (by omega)).trans h1,(World.putObj_heap_other (by omega)).trans h2,(World.putObj_heap_other (by omega)).trans h3,(World.putObj_heap_other (by omega)).trans h4,h5.trans (((But.refl (fun j=>j=k) V).putObj (.inr rfl) _).below h5.size (fun j hj=>by omega))⟩
theorem SevOut.over {m n e:Value} {W V:World} {A M:Nat} (h:SevOut m n e W A M V) (hA:A=W.heap.size) (hM:M=A+9):(V.putObj M (.deferred none)).cell? ⟨A+2,0,none⟩=some m∧(V.putObj M (.deferred none)).cell? ⟨A+3,0,none⟩=some n∧(V.putObj M (.deferred none)).cell? ⟨A+4,0,none⟩=some e∧Below W.heap.size W (V.putObj M (.deferred none)):=by
 obtain ⟨h1,h2,h3,h4,h5⟩:=h
 exact ⟨crw _ _ 0 _ _ _ ((World.putObj_heap_other (by omega)).trans h1),crw _ _ 0 _ _ _ ((World.putObj_heap_other (by omega)).trans h2),crw _ _ 0 _ _ _ ((World.putObj_heap_other (by omega)).trans h3),h5.trans (((But.refl (fun j=>j=M) V).putObj (.inr rfl) _).below h5.size (fun j hj=>by omega))⟩
theorem jpl {V W6 w7 W:World} {A M:Nat} {rec:LoopState→Option Code→Loop} {fv:Value} {Am:ByteArray→Option Value} {n:Int} (m:Int) (h:SevBox fv W A M W6) (hl:W6.heap[M+1]? = some (.loop (rec .busy none))) (hbut:But (fun k=>k<M+2) V W6) (hg:W6.drew.grownBy w7 (some (A+5))) (h7:w7.heap[A+7]? = some (.cells #[.int .i64 n] 3 (0,0))) (hm:SMap w7 (A+5) Am) (hM:M=A+9) (hA:A=W.heap.size) :
  SevBox fv W A M (w7.setCell ⟨A+7,0,none⟩ (.int .i64 m))∧SMap (w7.setCell ⟨A+7,0,none⟩ (.int .i64 m)) (A+5) Am∧(w7.setCell ⟨A+7,0,none⟩ (.int .i64 m)).heap[A+7]? = some (.cells #[.int .i64 m] 3 (0,0))∧(w7.setCell ⟨A+7,0,none⟩ (.int .i64 m)).heap[M+1]? = some (.loop (rec .busy none))∧But (fun k=>k<M+2) V (w7.setCell ⟨A+7,0,none⟩ (.int .i64 m)):=by
 obtain ⟨h1,h2,h3,h4,h5,h6,h8⟩:=h
 have go:∀ {k:Nat} {o:Obj},k≠A+5→k≠A+7→W6.heap[k]? = some o→(w7.setCell ⟨A+7,0,none⟩ (.int .i64 m)).heap[k]? = some o:=fun {k o} k5 k7 hk =>
  (bhs _ _ _ _ (by simpa using k7)).trans ((hg.block k (aes.1 hk).1 (by intro e;injection e with e;exact k5 e)).trans hk)
 have b7:But (fun k=>k=A+5∨k=A+7) W6 (w7.setCell ⟨A+7,0,none⟩ (.int .i64 m)):=((But.refl _ W6).drew.grown hg (fun k hk=>by injection hk with hk;exact .inr (.inl hk.symm))).setCell (.inr (.inr rfl)) _
 refine ⟨⟨go (by omega) (by omega) h1,go (by omega) (by omega) h2,go (by omega) (by omega) h3,go (by omega) (by omega) h4,go (by omega) (by omega) h5,go (by omega) (by omega) h6,h8.trans (b7.below h8.size (fun k hk=>by omega))⟩,hm.same (bhs _ _ _ _ (by simp)),heap_setCell_same w7 (A+7) 0 _ _ _ h7,go (by omega) (by omega) hl,hbut.trans (b7.mono (fun k _ hk=>by omega))⟩
theorem SevBox.put {fv:Value} {W V:World} {A M k:Nat} (h:SevBox fv W A M V) (hA:A=W.heap.size) (hk:k=M+1) (hM:M=A+9) (o:Obj):SevBox fv W A M (V.putObj k o):=by
 obtain ⟨h1,h2,h3,h4,h5,h6,h8⟩:=h
 exact ⟨(World.putObj_heap_other (by omega)).trans h1,(World.putObj_heap_other (by omega)).trans h2,(World.putObj_heap_other (by omega)).trans h3,(World.putObj_heap_other (by omega)).trans h4,(World.putObj_heap_other (by omega)).trans h5,(World.putObj_heap_other (by omega)).trans h6,h8.trans (((But.refl (fun j=>j=k) V).putObj (.inr rfl) _).below h8.size (fun j hj=>by omega))⟩
theorem jdF {fn:Func} (hf:fn.results=#[.cell 4 170,.cell 5 3,.cell 6 44]) {tmps:Array Value} {V:World} {A:Nat} {m n e:Value} (h4:tmps.getD 4 undef=.pointer (some ⟨A+2,0,none⟩)) (h5:tmps.getD 5 undef=.pointer (some ⟨A+3,0,none⟩)) (h6:tmps.getD 6 undef=.pointer (some ⟨A+4,0,none⟩))
  (o1:V.cell? ⟨A+2,0,none⟩=some m) (o2:V.cell? ⟨A+3,0,none⟩=some n) (o3:V.cell? ⟨A+4,0,none⟩=some e):(results fn tmps).run Tryz.prog V=.ok (.tuple #[m,n,e]) V:=by
 rw [jgc hf,h4,h5,h6]
 simp [go_sem,o1,o2,o3]
theorem jla {K:Nat} {w0 W:World} {f:Value} {L:List G} {a:Addr} (t:X) (su u:Value) (hf:Finds K w0 W f L) (ht:t.At 0 w0 su u) (hb:Below w0.heap.size w0 W) (he:ErrAt W a) (hc:t.count≤2097152) :
  Calls Tryz.prog 102 #[.agg #[.int .i64 t.op,.int .i64 t.at_,.int .i64 t.n,.string t.s,su,u],f] W fun e w'=>joG w0 W w' L a (nmsD (jab t 0)) e∧Below W.heap.size W w':=by
 obtain ⟨p1,c1,e1⟩:=ht.sets.shape
 obtain ⟨p2,c2,e2⟩:=ht.xs.shape
 subst e1 e2
 have HT:=jaf ht
 have HF:=jaf hf
 have HE:=jaf he
 have HB:=jaf hb
 have HC:=jaf hc
 have hmm:=@run_makeMap Tryz.prog
 clear ht he hb hc
 obtain ⟨fid,fc,ef⟩:∃ fid fc,f=.func (.func fid) #[] fc:=by
  rcases hf.1 with ⟨P,B,ef⟩|⟨S2,T2,F2,ef⟩
  ·exact ⟨_,_,ef⟩
  ·exact ⟨_,_,ef⟩
 all_goals
  subst ef
  clear hf
  refine callsIn_wide (n:=0).1 ?_
  refine callsIn_of_wp_marks Tryz.func102 rfl trivial ?_ rfl
  simp only [Tryz.ntmps102,List.size_toArray,List.length_cons,List.length_nil,Nat.reduceAdd,Nat.reduceSub,Array.replicate_succ,Array.replicate_zero,List.push_toArray,List.append_toArray,List.nil_append,List.cons_append]
  gi_wp2
  refine ⟨trivial,rfl,(callsIn_wide.2 (jmy t _ _ _ _ _ _ _)).mono ?_⟩
  rintro e w1 ⟨rfl,rfl⟩
  gi_wp2
  clear hmm
  obtain ⟨W2,hW2,a0,a1,a2,a3,a4,a5,a6,a7,a8,asz,ab⟩:=jn7 W (.cells #[.int .i64 t.op,.int .i64 t.at_,.int .i64 t.n,.string t.s,.slice p1 t.set.length c1,.slice p2 t.len c2] 27) (.cells #[.func (.func fid) #[] fc] 78) (.cells #[.map none] 170) (.cells #[.int .i64 0] 3) (.cells #[.nilIface] 44) (.map #[] 0) (.cells #[.map (some (W.heap.size+1+1+1+1+1))] 170) (.cells #[.int .i64 0] 3) (.cells #[.int .i64 t.op,.int .i64 t.at_,.int .i64 t.n,.string t.s,.slice p1 t.set.length c1,.slice p2 t.len c2] 27)
  rw [hW2]
  obtain ⟨A,hA⟩:∃ x,x=W.heap.size:=⟨_,rfl⟩
  have HA:=jaf hA
  rw [←hA] at a0 a1 a2 a3 a4 a5 a6 a7 a8 asz ⊢
  have a6':W2.heap[A+6]? = some (.cells #[.map (some (A+5))] 170 (0,0)):=a6
  refine jjl (gf:=117) (lb:=#[.pointer (some ⟨A+8,0,none⟩)]) rfl (enters_of Tryz.func117 (by kernel_rfl) rfl) ?_
  intro fn rec hrec
  obtain ⟨M,hM⟩:∃ x,x=W2.heap.size:=⟨_,rfl⟩
  rw [←hM] at hrec asz ⊢
  obtain ⟨W3,hW3⟩:∃ W3,(W2.alloc (.deferred (some []))).alloc (.loop (rec .ready none))=W3:=⟨_,rfl⟩
  have b3:Below W2.heap.size W2 W3:=by rw [←hW3];exact (newx _ _).trans ((newx _ _).mono (by simp))
  have d3:W3.heap[M]? = some (.deferred (some [])):=by rw [←hW3,hM,bha _ _ _ (by simp)];exact han _ _
  have l3:W3.heap[M+1]? = some (.loop (rec .ready none)):=by rw [←hW3,hM];have:=han (W2.alloc (.deferred (some []))) (.loop (rec .ready none));rwa [World.size_alloc] at this
  have s3:W3.heap.size=M+2:=by rw [←hW3,hM];simp
  rw [hW3]
  have e1:=(b3.block (A+1) (by omega)).trans a1
  have e2:=(b3.block (A+2) (by omega)).trans a2
  have e3:=(b3.block (A+3) (by omega)).trans a3
  have e4:=(b3.block (A+4) (by omega)).trans a4
  have e5:=(b3.block (A+5) (by omega)).trans a5
  have e6:=(b3.block (A+6) (by omega)).trans a6'
  have e7:=(b3.block (A+7) (by omega)).trans a7
  have e8:=(b3.block (A+8) (by omega)).trans a8
  have hb0:Below W.heap.size W W3:=ab.trans (b3.mono (by omega))
  have hMA:M=A+9:=by omega
  obtain ⟨J,hJd⟩:∃ J:Inv (ByteArray×Int),J=fun pre V X=>SevBox (.func (.func fid) #[] fc) W A M V∧joF w0 L A (nmsD pre) V∧V.heap[M+1]? = some (.loop (rec .ready none))∧(∀ k,X k→M+2≤k)∧M+2≤V.heap.size:=⟨_,rfl⟩
  obtain ⟨Jx,hJxd⟩:∃ Jx:List (ByteArray×Int)→World→Prop,Jx=fun pre V=>Two (jbk L (nmsD pre))∧SevOut (.map none) (.int .i64 0) (errV a) W A M V∧V.heap[M+1]? = some (.loop (rec .done (some .ret))):=⟨_,rfl⟩
  refine (jkT (M+1) (A+8) t _ _ w0 HT.out HC.out J Jx ?hJs ?hJb ?hY W3 e8 ?h0).mono ?_
  case hJs =>
   intro pre V V' X X' hj hbut hx
   rw [hJd] at hj ⊢
   obtain ⟨⟨f1,f2,f3,f4,f5,f6,f7⟩,⟨Am,often,g1,g2,g3⟩,f8,f9,f10⟩:=hj
   have ne:∀ k,k<M+2→¬ X k:=fun k hk hX=>by have:=f9 k hX;omega
   refine ⟨⟨hbut.at f1 (ne _ (by omega)),hbut.at f2 (ne _ (by omega)),hbut.at f3 (ne _ (by omega)),hbut.at f4 (ne _ (by omega)),hbut.at f5 (ne _ (by omega)),hbut.at f6 (ne _ (by omega)),f7.trans (hbut.below f7.size (fun k hk=>by have:=f9 k hk;omega))⟩,⟨Am,often,g1.same (hbut.block _ g1.lt (ne _ (by omega))),g2,hbut.at g3 (ne _ (by omega))⟩,hbut.at f8 (ne _ (by omega)),fun k hk=>?_,Nat.le_trans f10 hbut.size⟩
   rcases hx k hk with h|⟨h,-⟩
   ·exact f9 k h
   ·omega
  case hJb =>
   intro pre V X hj
   rw [hJd] at hj
   have:=hj.1.2.2.2.2.2.2
   exact HB.out.trans (this.mono HB.out.size)
  case h0 =>
   rw [hJd]
   exact ⟨⟨e1,e2,e3,e4,e6,d3,hb0⟩,⟨_,0,⟨#[],0,e5,fun x hx=>by simp at hx,by simp,fun s v=>by simp⟩,SevOk.nil w0 L 0,e7⟩,l3,fun _ h=>h.elim,by omega⟩
  case hY =>
   intro pre x V X hj hsz hpf
   rw [hJd] at hj
   rw [hJd,hJxd]
   obtain ⟨⟨f1,f2,f3,f4,f5,f6,f7⟩,⟨Am,often,g1,g2,g3⟩,f8,f9,f10⟩:=hj
   obtain ⟨Wb,hWb⟩:∃ Wb,V.putObj (M+1) (.loop (rec .busy none))=Wb:=⟨_,rfl⟩
   have hbb:But (fun k=>k=M+1) V Wb:=by rw [←hWb];exact (But.refl (fun k=>k=M+1) V).putObj (.inr rfl) _
   have hWlt:=HA.out
   have HWB:Hid (Wb.heap[A+1]? = some (.cells #[.func (.func fid) #[] fc] 78 (0,0))∧Wb.heap[A+2]? = some (.cells #[.map none] 170 (0,0))∧Wb.heap[A+3]? = some (.cells #[.int .i64 0] 3 (0,0))∧Wb.heap[A+4]? = some (.cells #[.nilIface] 44 (0,0))∧Wb.heap[A+6]? = some (.cells #[.map (some (A+5))] 170 (0,0))∧Wb.heap[M]? = some (.deferred (some []))∧Below W.heap.size W Wb∧SMap Wb (A+5) Am∧Wb.heap[A+7]? = some (.cells #[.int .i64 often] 3 (0,0))∧Wb.heap[M+1]? = some (.loop (rec .busy none))∧But (fun k=>k=M+1) V Wb) :=
    ⟨hbb.at f1 (by omega),hbb.at f2 (by omega),hbb.at f3 (by omega),hbb.at f4 (by omega),hbb.at f5 (by omega),hbb.at f6 (by omega),f7.trans (hbb.below f7.size (fun k hk=>by omega)),g1.same (hbb.block _ g1.lt (by omega)),hbb.at g3 (by omega),by rw [←hWb];exact World.putObj_heap_same (aes.1 f8).1,hbb⟩
   have HM2:Hid (M=A+9∧(∀ k,X k→M+2≤k)∧M+2≤V.heap.size∧A=W.heap.size):=⟨hMA,f9,f10,HA.out⟩
   have HSV:=jaf g2
   have HF8:=jaf f8
   have hcall:=HF.out.2 Wb (But.of_all HWB.out.2.2.2.2.2.2.1) x.1
   refine jeH hrec f8 rfl ?_
   clear hrec hM hW3 b3 d3 l3 s3 e1 e2 e3 e4 e5 e6 e7 e8 hb0 hJd hJxd f1 f2 f3 f4 f5 f6 f7 f8 f9 f10 g1 g2 g3 a0 a1 a2 a3 a4 a5 a6 a6' a7 a8 asz ab hA hpf HT J Jx hbb hWlt hW2
   gi_wp2
   refine ⟨HF8.out,?_⟩
   rw [hWb]
   clear hWb
   have x1:Wb.cell? ⟨A+1,0,none⟩=some (.func (.func fid) #[] fc):=crw Wb _ 0 _ _ _ HWB.out.1
   have key:∀ (e:Ending),je9 w0 (jag L x.1) e→∃ (g':G) (kn:Bool) (pa pb pc:Option Addr) (ca cb cc na nb nc:Nat),e=.returned (.tuple #[.agg #[.string g'.name,.int .i64 g'.deep,.int .i64 g'.one.op,.int .i64 g'.one.at_,.int .i64 g'.one.n,.string g'.one.s,.slice pa na ca,.slice pb nb cb,.slice pc nc cc],.bool kn]) ∧
     ((kn=false∧jag L x.1=none)∨(kn=true∧∃ g,jag L x.1=some g∧Like g g'∧GAt w0 g' (.slice pa na ca) (.slice pb nb cb) (.slice pc nc cc)∧nc=g.len)):=by
    intro e hr
    rcases hr with ⟨hn,rfl⟩|⟨g,g',x',y',z',hn,hlk,hat,rfl⟩
    ·exact ⟨.mk ⟨#[]⟩ 0 (.mk 0 0 0 ⟨#[]⟩ [] 0 (fun _=>.no)) 0 (fun _=>.no),false,none,none,none,0,0,0,0,0,0,rfl,.inl ⟨rfl,hn⟩⟩
    ·obtain ⟨⟨pa,ca,ea⟩,⟨pb,cb,eb⟩,⟨pc,cc,ec⟩⟩:=hat.shape
     subst ea eb ec
     exact ⟨g',true,pa,pb,pc,ca,cb,cc,_,_,_,rfl,.inr ⟨rfl,g,hn,hlk,hat,hlk.2.2.1⟩⟩
   have KEY:=jaf key
   clear key
   rcases hcall with ⟨P,B,ef,hC⟩|⟨S2,T2,F2,ef,hC⟩
   all_goals
    injection ef with ef1 _ ef2
    injection ef1 with ef1
    subst ef1 ef2
    have HCC:=jaf hC
    clear hC
    gi_wp2
    refine ⟨trivial,rfl,CallsIn.inRound _ (callsIn_wide.2 (HCC.out.mono ?_))⟩
    rintro e w5 ⟨hret,hb5⟩
    obtain ⟨g',kn,pa,pb,pc,ca,cb,cc,na,nb,nc,rfl,hcase⟩:=KEY.out e hret
    clear hret
    have HCA:=jaf hcase
    clear hcase
    obtain ⟨W6,hW6⟩:∃ W6,W6=w5.alloc (.cells #[.string g'.name,.int .i64 g'.deep,.int .i64 g'.one.op,.int .i64 g'.one.at_,.int .i64 g'.one.n,.string g'.one.s,.slice pa na ca,.slice pb nb cb,.slice pc nc cc] 42):=⟨_,rfl⟩
    obtain ⟨NB,hNB⟩:∃ NB,NB=w5.heap.size:=⟨_,rfl⟩
    have hb6:Below Wb.heap.size Wb W6:=hb5.trans ((show Below w5.heap.size w5 W6 by rw [hW6];exact newx w5 _).mono hb5.size)
    have hgot:W6.heap[NB]? = some (.cells #[.string g'.name,.int .i64 g'.deep,.int .i64 g'.one.op,.int .i64 g'.one.at_,.int .i64 g'.one.n,.string g'.one.s,.slice pa na ca,.slice pb nb cb,.slice pc nc cc] 42 (0,0)):=by rw [hW6,hNB];exact han w5 _
    have HNB:Hid (Wb.heap.size≤NB):=by rw [hNB];exact hb5.size
    have W6E:=jaf hW6
    have NBE:=jaf hNB
    have lt:∀ {k:Nat} {o:Obj},Wb.heap[k]? = some o→W6.heap[k]? = some o:=fun {k o} h=>(hb6.block k (aes.1 h).1).trans h
    obtain ⟨v1,v2,v3,v4,v5,v6,v7,v8,v9,v10,v11⟩:=HWB.out
    have HW6:Hid (W6.heap[A+1]? = some (.cells #[.func (.func _) #[] _] 78 (0,0))∧W6.heap[A+2]? = some (.cells #[.map none] 170 (0,0))∧W6.heap[A+3]? = some (.cells #[.int .i64 0] 3 (0,0))∧W6.heap[A+4]? = some (.cells #[.nilIface] 44 (0,0))∧W6.heap[A+6]? = some (.cells #[.map (some (A+5))] 170 (0,0))∧W6.heap[M]? = some (.deferred (some []))∧Below W.heap.size W W6∧SMap W6 (A+5) Am∧W6.heap[A+7]? = some (.cells #[.int .i64 often] 3 (0,0))∧W6.heap[M+1]? = some (.loop (rec .busy none))∧But (fun k=>k=M+1) V W6) :=
     ⟨lt v1,lt v2,lt v3,lt v4,lt v5,lt v6,v7.trans (hb6.mono v7.size),v8.below hb6,lt v9,lt v10,v11.trans (But.of_all hb6)⟩
    have HGB:=jaf hgot
    have HE6:Hid (ErrAt W6 a):=HE.out.below (v7.trans (hb6.mono v7.size))
    obtain ⟨nl,hlen,hlen0⟩:=(v8.below hb6).len (P:=Tryz.prog) Tryz.underlying170
    have HL0:=jaf hlen0
    have z6:W6.cell? ⟨A+1+1+1+1+1+1,0,none⟩=some (.map (some (A+5))):=crw W6 _ 0 _ _ _ (lt v5)
    have z7:W6.cell? ⟨A+1+1+1+1+1+1+1,0,none⟩=some (.int .i64 often):=crw W6 _ 0 _ _ _ (lt v9)
    have n1:W6.cell? ⟨NB,1,none⟩=some (.int .i64 g'.deep):=crw W6 _ 1 _ _ _ hgot
    have n8:W6.cell? ⟨NB,8,none⟩=some (.slice pc nc cc):=crw W6 _ 8 _ _ _ hgot
    clear hW6 hNB hb6 hgot lt v1 v2 v3 v4 v5 v6 v7 v8 v9 v10 v11 hlen0 hb5 x1
    gi_upto_region 5 with fail
    rw [←W6E.out,←NBE.out]
    clear HF HWB HCC W6E NBE HB HC HF8 KEY HE hMA
    rcases HCA.out with ⟨rfl,hnone⟩|⟨rfl,g,hsome,hlk,hgat,rfl⟩
    ·have HNO:=jaf hnone
     clear hnone HCA
     gi_wp2
     obtain ⟨u1,u2,u3,u4,u5,u6,u7,u8,u9,u10,u11⟩:=HW6.out
     exact ⟨u10,.inl ⟨rfl,jfO Am often ⟨u1,u2,u3,u4,u5,u6,u7⟩ u8 u9 u10 (u11.mono (fun k _ hk=>by omega)) (HSV.out.skip (fun g hg=>by rw [HNO.out] at hg;cases hg)) HM2.out⟩⟩
    ·have HSO:=jaf hsome
     have HLK:=jaf hlk
     have HGA:=jaf hgat
     clear hsome hlk hgat HCA
     by_cases hd:0<g'.deep
     ·have hd1:decide (g'.deep≤0)=false:=by simpa using hd
      have HD:=jaf hd
      clear hd
      have HD2:Hid (0<g.deep):=by have:=HD.out;rw [HLK.out.1] at this;exact this
      have c0:W6.cell? ⟨NB,0,none⟩=some (.string g'.name):=crw W6 _ 0 _ _ _ HGB.out
      have c2:W6.cell? ⟨NB,2,none⟩=some (.int .i64 g'.one.op):=crw W6 _ 2 _ _ _ HGB.out
      have c3:W6.cell? ⟨NB,3,none⟩=some (.int .i64 g'.one.at_):=crw W6 _ 3 _ _ _ HGB.out
      have c4:W6.cell? ⟨NB,4,none⟩=some (.int .i64 g'.one.n):=crw W6 _ 4 _ _ _ HGB.out
      have c5:W6.cell? ⟨NB,5,none⟩=some (.string g'.one.s):=crw W6 _ 5 _ _ _ HGB.out
      have c6:W6.cell? ⟨NB,6,none⟩=some (.slice pa na ca):=crw W6 _ 6 _ _ _ HGB.out
      have c7:W6.cell? ⟨NB,7,none⟩=some (.slice pb nb cb):=crw W6 _ 7 _ _ _ HGB.out
      by_cases hgo:nl=0∨g.len=often
      ·obtain ⟨w7,hrun,hm7,hg7,hs7⟩:=SMap.update (P:=Tryz.prog) (w:=W6.drew) (M:=A+5) (A:=Am) HW6.out.2.2.2.2.2.2.2.1 Tryz.underlying170 Tryz.underlying9 x.1 (aggG g' (.slice pa na ca) (.slice pb nb cb) (.slice pc g.len cc))
       have HM7:=jaf hm7
       have HG7:=jaf hg7
       have h77:w7.heap[A+7]? = some (.cells #[.int .i64 often] 3 (0,0)):=(hg7.block (A+7) (aes.1 HW6.out.2.2.2.2.2.2.2.2.1).1 (by intro e;injection e with e;omega)).trans HW6.out.2.2.2.2.2.2.2.2.1
       have H77:=jaf h77
       have y7:w7.cell? ⟨A+1+1+1+1+1+1+1,0,none⟩=some (.int .i64 often):=crw w7 _ 0 _ _ _ h77
       have y7f:w7.frozen? ⟨A+1+1+1+1+1+1+1,0,none⟩=false:=fzr w7 _ 0 _ _ h77
       unfold aggG at hrun
       clear hm7 hg7 hs7 h77
       have HGO:Hid ((∀ s,Am s=none)∨g.len=often):=hgo.imp (fun h=>HL0.out.1 h) id
       have HNB5:Hid (¬ (NB=A+5∨NB=A+7)):=by
        rintro (h|h)
        ·exact HW6.out.2.2.2.2.2.2.2.1.noRow HGB.out h
        ·have h1:=HGB.out
         rw [h,HW6.out.2.2.2.2.2.2.2.2.1] at h1
         simp at h1
       have HS0:Hid (But (fun k=>k=A+5∨k=A+7) W6 W6.drew):=(But.refl _ W6).drew
       have HS7:Hid (But (fun k=>k=A+5∨k=A+7) W6 w7):=HS0.out.grown HG7.out (fun k hk=>by injection hk with hk;exact .inr (.inl hk.symm))
       have HS8:Hid (But (fun k=>k=A+5∨k=A+7) W6 (w7.setCell ⟨A+1+1+1+1+1+1+1,0,none⟩ (.int .i64 g.len))):=HS7.out.setCell (.inr (.inr rfl)) _
       clear c0 c2 c3 c4 c5 c6 c7
       by_cases hn:nl=0
       case' pos =>
        clear hgo
        gi_upto_region 8 with fail
       case' neg =>
        have ho:g.len=often:=hgo.resolve_left hn
        clear hgo
        subst ho
        gi_upto_region 8 with fail
       all_goals
        refine jf4 (S:=fun wq=>But (fun k=>k=A+5∨k=A+7) W6 wq) (sz:=8) (by kernel_rfl) (by kernel_rfl) rfl (fun _ _ h=>?_) (fun _=>?_) HS0.out
        ·exact (h:False)
        refine wpAnyH_take (i:=0) (oi:={dst:=some 41,op:=Op.load 170 (Operand.tmp 7),type:=170,pos := "l08_fill.go:55",after:=#[],guard:=none}) (v:=.map (some (A+5))) rfl (by kernel_rfl) (by kernel_rfl) (by kernel_rfl) (fun _ _ _ h=>h) (Or.inl ⟨by rfl,?_⟩) HS0.out ?_
        ·intro wq hSq
         have q:=hSq.at HW6.out.2.2.2.2.1 (by omega)
         have q0:wq.cell? ⟨A+1+1+1+1+1+1,0,none⟩=some (.map (some (A+5))):=crw wq _ 0 _ _ _ q
         clear q
         clear hSq
         go_simp
        try simp only [pLq]
        refine wpAnyH_take (i:=1) (oi:={dst:=some 42,op:=Op.move (Operand.tmp 9),type:=9,pos := "l08_fill.go:55",after:=#[],guard:=none}) (v:=.string x.1) rfl (by kernel_rfl) (by kernel_rfl) (by kernel_rfl) (fun _ _ _ h=>h) (Or.inl ⟨by rfl,?_⟩) HS0.out ?_
        ·intro wq hSq
         clear hSq
         go_simp
        try simp only [pLq]
        refine wpAnyH_take (i:=2) (oi:={dst:=some 43,op:=Op.load 42 (Operand.tmp 10),type:=42,pos := "l08_fill.go:55",after:=#[],guard:=none}) (v:=.agg #[.string g'.name,.int .i64 g'.deep,.int .i64 g'.one.op,.int .i64 g'.one.at_,.int .i64 g'.one.n,.string g'.one.s,.slice pa na ca,.slice pb nb cb,.slice pc g.len cc]) rfl (by kernel_rfl) (by kernel_rfl) (by kernel_rfl) (fun _ _ _ h=>h) (Or.inl ⟨by rfl,?_⟩) HS0.out ?_
        ·intro wq hSq
         have q:=hSq.at HGB.out HNB5.out
         have q0:wq.cell? ⟨NB,0,none⟩=some (.string g'.name):=crw wq _ 0 _ _ _ q
         have q1:wq.cell? ⟨NB,1,none⟩=some (.int .i64 g'.deep):=crw wq _ 1 _ _ _ q
         have q2:wq.cell? ⟨NB,2,none⟩=some (.int .i64 g'.one.op):=crw wq _ 2 _ _ _ q
         have q3:wq.cell? ⟨NB,3,none⟩=some (.int .i64 g'.one.at_):=crw wq _ 3 _ _ _ q
         have q4:wq.cell? ⟨NB,4,none⟩=some (.int .i64 g'.one.n):=crw wq _ 4 _ _ _ q
         have q5:wq.cell? ⟨NB,5,none⟩=some (.string g'.one.s):=crw wq _ 5 _ _ _ q
         have q6:wq.cell? ⟨NB,6,none⟩=some (.slice pa na ca):=crw wq _ 6 _ _ _ q
         have q7:wq.cell? ⟨NB,7,none⟩=some (.slice pb nb cb):=crw wq _ 7 _ _ _ q
         have q8:wq.cell? ⟨NB,8,none⟩=some (.slice pc g.len cc):=crw wq _ 8 _ _ _ q
         clear q
         clear hSq
         go_simp
        try simp only [pLq]
        refine wpAnyH_take (i:=3) (oi:={dst:=some 44,op:=Op.fieldAddr 42 (Operand.tmp 10) 3,type:=0,pos := "l08_fill.go:55",after:=#[],guard:=none}) (v:=.pointer (some ⟨NB,8,none⟩)) rfl (by kernel_rfl) (by kernel_rfl) (by kernel_rfl) (fun _ _ _ h=>h) (Or.inl ⟨by rfl,?_⟩) HS0.out ?_
        ·intro wq hSq
         clear hSq
         go_simp
        try simp only [pLq]
        refine wpAnyH_take (i:=4) (oi:={dst:=some 45,op:=Op.load 28 (Operand.tmp 44),type:=28,pos := "l08_fill.go:55",after:=#[{on:=3,ground:=Ground.data}],guard:=none}) (v:=.slice pc g.len cc) rfl (by kernel_rfl) (by kernel_rfl) (by kernel_rfl) (fun _ _ _ h=>h) (Or.inl ⟨by rfl,?_⟩) HS0.out ?_
        ·intro wq hSq
         have q:=hSq.at HGB.out HNB5.out
         have q0:wq.cell? ⟨NB,8,none⟩=some (.slice pc g.len cc):=crw wq _ 8 _ _ _ q
         clear q
         clear hSq
         go_simp
        try simp only [pLq]
        refine wpAnyH_take (i:=5) (oi:={dst:=some 46,op:=Op.call {callee:=Callee.builtin Builtin.len,args:=#[Operand.tmp 45],argTypes:=#[28]},type:=3,pos := "l08_fill.go:55",after:=#[{on:=4,ground:=Ground.data}],guard:=none}) (v:=.int .i64 g.len) rfl (by kernel_rfl) (by kernel_rfl) (by kernel_rfl) (fun _ _ _ h=>h) (Or.inl ⟨by rfl,?_⟩) HS0.out ?_
        ·intro wq hSq
         clear hSq
         go_simp
        try simp only [pLq]
        refine wpAnyH_ready (rs:=[6]) (by kernel_rfl) (by simp) (AllReadyH.cons (o:={dst:=none,op:=Op.mapUpdate 170 (Operand.tmp 41) (Operand.tmp 42) (Operand.tmp 43),type:=0,pos := "l08_fill.go:55",after:=#[{on:=0,ground:=Ground.data},{on:=1,ground:=Ground.data},{on:=2,ground:=Ground.data},{on:=0,ground:=Ground.phase},{on:=1,ground:=Ground.phase},{on:=2,ground:=Ground.phase},{on:=3,ground:=Ground.textOnly Departure.lateStores},{on:=4,ground:=Ground.textOnly Departure.lateStores},{on:=5,ground:=Ground.textOnly Departure.lateStoresUnsure}],guard:=none}) rfl (fun KK hK=>?_) AllReadyH.nil)
        go_simp
        refine hK.out _ _ HS7.out (fun _=>?_)
        clear hK KK
        try simp only [pLq]
        refine wpAnyH_ready (rs:=[7]) (by kernel_rfl) (by simp) (AllReadyH.cons (o:={dst:=none,op:=Op.store 3 (Operand.tmp 8) (Operand.tmp 46),type:=0,pos := "l08_fill.go:55",after:=#[{on:=5,ground:=Ground.data},{on:=6,ground:=Ground.chain},{on:=0,ground:=Ground.phase},{on:=1,ground:=Ground.phase},{on:=2,ground:=Ground.phase},{on:=3,ground:=Ground.phase},{on:=4,ground:=Ground.phase},{on:=5,ground:=Ground.phase},{on:=6,ground:=Ground.phase}],guard:=none}) rfl (fun KK hK=>?_) AllReadyH.nil)
        go_simp
        refine hK.out _ _ HS8.out (fun _=>?_)
        clear hK KK
        try simp only [pLq]
        refine wpAnyH_done (by kernel_rfl) ?_ _
        gi_wp2
        obtain ⟨u1,u2,u3,u4,u5,u6,u7,u8,u9,u10,u11⟩:=HW6.out
        obtain ⟨m1,m2,m3,m4⟩:=HM2.out
        obtain ⟨t1,t2,t3,t4,t5⟩:=jpl (rec:=rec) (V:=V) g.len ⟨u1,u2,u3,u4,u5,u6,u7⟩ u10 (u11.mono (fun k _ hk=>by omega)) HG7.out H77.out HM7.out m1 m4
        exact ⟨t4,.inl ⟨rfl,jfO _ g.len t1 t2 t3 t4 t5 (HSV.out.add HSO.out HD2.out HLK.out HGA.out (by first|exact HGO.out|exact .inr rfl)) HM2.out⟩⟩
      ·have hn:¬ nl=0:=fun h=>hgo (.inl h)
       have ho:¬ g.len=often:=fun h=>hgo (.inr h)
       clear hgo
       have z2:W6.cell? ⟨A+1+1,0,none⟩=some (.map none):=crw W6 _ 0 _ _ _ HW6.out.2.1
       have z2f:W6.frozen? ⟨A+1+1,0,none⟩=false:=fzr W6 _ 0 _ _ HW6.out.2.1
       have z3:W6.cell? ⟨A+1+1+1,0,none⟩=some (.int .i64 0):=crw W6 _ 0 _ _ _ HW6.out.2.2.1
       have z3f:W6.frozen? ⟨A+1+1+1,0,none⟩=false:=fzr W6 _ 0 _ _ HW6.out.2.2.1
       have z4:W6.cell? ⟨A+1+1+1+1,0,none⟩=some .nilIface:=crw W6 _ 0 _ _ _ HW6.out.2.2.2.1
       have z4f:W6.frozen? ⟨A+1+1+1+1,0,none⟩=false:=fzr W6 _ 0 _ _ HW6.out.2.2.2.1
       have ze:W6.cell? ⟨0,0,none⟩=some (.iface 194 (.pointer (some a))):=HE6.out
       have HOF:=jaf ho
       have HNF:=jaf hn
       gi_upto_region 7 with fail
       gi_region
       all_goals
        gi_wp2
        obtain ⟨u1,u2,u3,u4,u5,u6,u7,u8,u9,u10,u11⟩:=HW6.out
        obtain ⟨m1,m2,m3,m4⟩:=HM2.out
        obtain ⟨t1,t2⟩:=ji7 ⟨u1,u2,u3,u4,u5,u6,u7⟩ m1 m4 (.map none) (.int .i64 0) (errV a)
        have t3:=(t2 (M+1) (by omega) (by omega) (by omega)).trans u10
        exact ⟨t3,.inr ⟨rfl,by rw [jhO];exact jox HSV.out (fun h=>HNF.out (HL0.out.2 h)) HSO.out HD2.out HOF.out,t1.put m4 rfl m1 _,World.putObj_heap_same (aes.1 t3).1⟩⟩
     ·have hd1:decide (g'.deep≤0)=true:=by simpa using hd
      have HD:=jaf hd
      clear hd
      gi_wp2
      obtain ⟨u1,u2,u3,u4,u5,u6,u7,u8,u9,u10,u11⟩:=HW6.out
      exact ⟨u10,.inl ⟨rfl,jfO Am often ⟨u1,u2,u3,u4,u5,u6,u7⟩ u8 u9 u10 (u11.mono (fun k _ hk=>by omega)) (HSV.out.skip (fun g2 hg=>by rw [HSO.out] at hg;injection hg with hg;subst hg;rw [←HLK.out.1];have:=HD.out;omega)) HM2.out⟩⟩
  rintro e W4 ⟨he,(⟨X,hj4⟩|⟨pre,hpf,hx4⟩)⟩
  ·rw [hJd] at hj4
   obtain ⟨f1,⟨Am,often,g1,g2,g3⟩,f8,f9,f10⟩:=hj4
   refine ⟨he,.inl ⟨f8,?_⟩⟩
   obtain ⟨W5,hW5⟩:∃ W5,W4.putObj (M+1) (.loop (rec .exhausted none))=W5:=⟨_,rfl⟩
   rw [hW5]
   have HK:Hid (SevBox (.func (.func fid) #[] fc) W A M W5∧SMap W5 (A+5) Am∧W5.heap[A+7]? = some (.cells #[.int .i64 often] 3 (0,0))∧M=A+9∧A=W.heap.size∧SevOk w0 L Am often (nmsD (jab t 0))):=by
    rw [←hW5]
    exact ⟨f1.put HA.out rfl hMA _,g1.same (World.putObj_heap_other (by omega)),(World.putObj_heap_other (by omega)).trans g3,hMA,HA.out,g2⟩
   obtain ⟨nl,hlen,hlen0⟩:=HK.out.2.1.len (P:=Tryz.prog) Tryz.underlying170
   have HL0:=jaf hlen0
   have x6:W5.cell? ⟨A+1+1+1+1+1+1,0,none⟩=some (.map (some (A+5))):=crw W5 _ 0 _ _ _ HK.out.1.2.2.2.2.1
   have x7:W5.cell? ⟨A+1+1+1+1+1+1+1,0,none⟩=some (.int .i64 often):=crw W5 _ 0 _ _ _ HK.out.2.2.1
   have x2:W5.cell? ⟨A+1+1,0,none⟩=some (.map none):=crw W5 _ 0 _ _ _ HK.out.1.2.1
   have x2f:W5.frozen? ⟨A+1+1,0,none⟩=false:=fzr W5 _ 0 _ _ HK.out.1.2.1
   have x3:W5.cell? ⟨A+1+1+1,0,none⟩=some (.int .i64 0):=crw W5 _ 0 _ _ _ HK.out.1.2.2.1
   have x3f:W5.frozen? ⟨A+1+1+1,0,none⟩=false:=fzr W5 _ 0 _ _ HK.out.1.2.2.1
   have x4:W5.cell? ⟨A+1+1+1+1,0,none⟩=some .nilIface:=crw W5 _ 0 _ _ _ HK.out.1.2.2.2.1
   have x4f:W5.frozen? ⟨A+1+1+1+1,0,none⟩=false:=fzr W5 _ 0 _ _ HK.out.1.2.2.2.1
   have xe:W5.cell? ⟨0,0,none⟩=some (.iface 194 (.pointer (some a))):=HE.out.below HK.out.1.2.2.2.2.2.2
   clear hrec hM hW3 b3 d3 l3 s3 e1 e2 e3 e4 e5 e6 e7 e8 hb0 hJd hJxd f1 f8 f9 f10 g1 g2 g3 a0 a1 a2 a3 a4 a5 a6 a6' a7 a8 asz ab hA HT HF J Jx hW5 he hlen0 hMA hW2 HB HC HE HA
   by_cases hn:nl=0
   ·have HNF:=jaf hn
    gi_upto_region 10 with fail
    gi_region
    all_goals
     gi_wp2
     obtain ⟨k1,k2,k3,k4,k5,k6⟩:=HK.out
     obtain ⟨t1,t2⟩:=ji7 k1 k4 k5 (.map none) (.int .i64 0) (errV a)
     obtain ⟨o1,o2,o3,o4⟩:=t1.over k5 k4
     exact ⟨by simp,.inl ⟨_,_,rfl,run_takeDeferred t1.2.2.2.1,_,jdF (by kernel_rfl) rfl rfl rfl o1 o2 o3,.inr ⟨k6.empty (HL0.out.1 HNF.out),rfl⟩,o4⟩⟩
   ·have HNF:=jaf hn
    gi_upto_region 11 with fail
    gi_region
    all_goals
     gi_wp2
     obtain ⟨k1,k2,k3,k4,k5,k6⟩:=HK.out
     obtain ⟨t1,t2⟩:=ji7 k1 k4 k5 (.map (some (A+5))) (.int .i64 often) .nilIface
     obtain ⟨o1,o2,o3,o4⟩:=t1.over k5 k4
     exact ⟨by simp,.inl ⟨_,_,rfl,run_takeDeferred t1.2.2.2.1,_,jdF (by kernel_rfl) rfl rfl rfl o1 o2 o3,.inl ⟨often,A+5,Am,k6.full (fun h=>HNF.out (HL0.out.2 h)),rfl,k2.same ((World.putObj_heap_other (by omega)).trans (t2 (A+5) (by omega) (by omega) (by omega))),k6,by omega⟩,o4⟩⟩
  ·rw [hJxd] at hx4
   obtain ⟨f1,f2,f3⟩:=hx4
   refine ⟨he,.inr ⟨.ret,f3,?_⟩⟩
   obtain ⟨W5,hW5⟩:∃ W5,W4.putObj (M+1) (.loop (rec .exhausted (some .ret)))=W5:=⟨_,rfl⟩
   rw [hW5]
   have HK:Hid (SevOut (.map none) (.int .i64 0) (errV a) W A M W5∧M=A+9∧A=W.heap.size∧jb5 (jbk L (nmsD (jab t 0)))=none):=by
    rw [←hW5]
    refine ⟨f2.put HA.out rfl hMA _,hMA,HA.out,?_⟩
    obtain ⟨r,hr⟩:=hpf
    rw [←hr]
    unfold nmsD at f1 ⊢
    rw [List.map_append]
    exact f1.mono.none
   clear hrec hM hW3 b3 d3 l3 s3 e1 e2 e3 e4 e5 e6 e7 e8 hb0 hJd hJxd f1 f2 f3 a0 a1 a2 a3 a4 a5 a6 a6' a7 a8 asz ab hA HT HF J Jx hW5 he hMA hW2 HB HC HE HA
   gi_wp2
   obtain ⟨k1,k2,k3,k4⟩:=HK.out
   obtain ⟨o1,o2,o3,o4⟩:=k1.over k3 k2
   exact ⟨by simp,.inl ⟨_,_,rfl,run_takeDeferred k1.2.2.2.1,_,jdF (by kernel_rfl) rfl rfl rfl o1 o2 o3,.inr ⟨k4,rfl⟩,o4⟩⟩
end Go.Proofs.YtjmlfacbcfbhdaaGreatDoor
