/- spec.l7Each, out of spec.l7Match. Condition: at most 2^20 of it. Written by wip/tools/mkspeceach.py. -/
import Derived.Test.YtjmlfacbcfbhdaaGreatDoorYA
import Derived.Test.YtjmlfacbcfbhdaaGreatDoorY34
set_option maxRecDepth 100000
set_option maxHeartbeats 8000000
namespace Go.Proofs.YtjmlfacbcfbhdaaGreatDoor
open Go.ChangeShapes Go.WideShapes Go.ChangeAt Go.RowKit
theorem jka (vs:Array Value) (w:World):(callFunc 84 vs).run Tryz.prog w=.ok (.enter 84 vs) w:=by kernel_rfl
theorem jme (ns:List (ByteArray×Int)) {j:Nat} (hj:j<ns.length):ns.getD j (⟨#[]⟩,0)∈ns:=by
 rw [lgd,lgg hj,Option.getD_some]
 exact List.getElem_mem _
theorem jne (ns:List (ByteArray×Int)) {k:Nat} (hk:k<ns.length):ns.take (k+1)=ns.take k++[ns.getD k (⟨#[]⟩,0)]:=by
 rw [List.take_succ_eq_append_getElem hk,lgd,lgg hk,Option.getD_some]
theorem jeM {w:World} {base e size n:Nat} {v:Value} {xs:List Value} (h:w.ownsRow base e size v n xs) (hv:v.ownBlock≠none):∃ g cap,v=.slice (some ⟨g,0,none⟩) n cap:=by
 rcases h.2 with ⟨rfl,_⟩|⟨g,cap,cur,rfl,_⟩
 ·exact absurd rfl hv
 ·exact ⟨g,cap,rfl⟩
theorem jnm {f:Nat→Option (List G)} {k:Nat} {lst:List G} {n:Nat} (hf:f k=some lst) (hl:lst.length=n) {j:Nat} (hj:j<n):jcT (jbR f k) (lst.take n) j=jbR f (k+1) j:=by
 rw [List.take_of_length_le (by omega)]
 exact jkt f k lst hf n hl hj
theorem jh4 (p:X) (T:jdd p):jii p:=by
 intro n kid w su u v hp hk hpw hkw hn hok hnd
 have HPX:Hid (p.At 0 w su u):=hp
 obtain ⟨pu,cu,e1⟩:=hp.xs.shape
 obtain ⟨ps,cs,e2⟩:=hp.sets.shape
 obtain ⟨pk,ck,e3,_,hat⟩:=hk.at
 subst e1 e2 e3
 have HT:Hid (jdd p):=T
 have HAT:Hid (∀ i,i<n→∃ b o sv u,pk=some ⟨b,o,none⟩∧Head6 w b (o+i*6) (kid i) sv u∧(kid i).At 0 w sv u):=hat
 have HW:Hid (p.weight≤1048576∧(∀ i,i<n→(kid i).weight≤1048576)∧okG p∧(ja3 (jab p 0)).Nodup):=⟨hpw,hkw,hok,hnd⟩
 obtain ⟨ns,hns⟩:∃ ns,ns=jab p 0:=⟨_,rfl⟩
 have HNS:Hid (ns=jab p 0):=hns
 obtain ⟨f,hf⟩:∃ f:Nat→Option (List G),f=fun j=>jai p (kid j):=⟨_,rfl⟩
 have HF:Hid (f=fun j=>jai p (kid j)):=hf
 obtain ⟨m,hm⟩:∃ m,m=jcW ns f n:=⟨_,rfl⟩
 have HM:Hid (m=jcW ns f n):=hm
 have hnl:ns.length≤1048577:=by rw [hns];exact Nat.le_trans (jdk p 0) (by have:=p.count_weight;omega)
 have HDP:Hid (∀ j,j<ns.length→ja9 p (ns.getD j (⟨#[]⟩,0)).1=(ns.getD j (⟨#[]⟩,0)).2∧0≤(ns.getD j (⟨#[]⟩,0)).2∧(ns.getD j (⟨#[]⟩,0)).2≤1048577):=fun j hj=>by
  have h1:=jj9 p (ns.getD j (⟨#[]⟩,0)) (by rw [←hns];exact jme ns hj) (jg9 p hok) hnd
  have h2:=jjr p (ns.getD j (⟨#[]⟩,0)).1
  have h3:=p.count_weight
  rw [h1.1] at h2
  exact ⟨h1.1,h1.2.1,by omega⟩
 have HSM:Hid (∀ y∈ns,y.1.size≤maxLen):=by rw [hns];exact jkU p _ _ _ 0 hp
 have hnames:(jaz p ([],false)).1=ns.map (·.1):=by rw [hns];exact jg8 p (jg9 p hok) hnd
 rw [←hf,←hns,←hm]
 obtain ⟨W1,hW1⟩:∃ W,W=w.alloc (.cells #[.int .i64 p.op,.int .i64 p.at_,.int .i64 p.n,.string p.s,.slice ps p.set.length cs,.slice pu p.len cu] 27):=⟨_,rfl⟩
 obtain ⟨N,hN⟩:∃ N,N=w.heap.size:=⟨_,rfl⟩
 have hb1:Below w.heap.size w W1:=by rw [hW1];exact newx w _
 have h6:Six W1 N p.op p.at_ p.n p.s (.slice ps p.set.length cs) (.slice pu p.len cu) 27:=by rw [hW1,hN];exact han w _
 have HCN:=jaa (jcg p W1 _ _ (hp.below hb1) hpw)
 have HB1:Hid (Below w.heap.size w W1∧Six W1 N p.op p.at_ p.n p.s (.slice ps p.set.length cs) (.slice pu p.len cu) 27):=⟨hb1,h6⟩
 have HNM:=jaa hnames
 have HN:=jaa hN
 have HWW:=jaa hW1
 obtain ⟨i0,hi0,hz0,hz1,hz2⟩:=info_parts jdQ
 clear hp hk hat hpw hkw hok hnd hns hf hm hnames hb1 h6 hN hW1 T
 go_enter Tryz.func57,Tryz.ntmps57
 go_wp2_with fail
 rw [←HWW.out,←HN.out]
 refine HCN.out.mono ?_
 rintro e w2 ⟨nv,rfl,hb2,hown⟩
 rw [HNM.out] at hown
 obtain ⟨an,cn,hnv,hcn⟩:=hown.rd
 rw [List.length_map] at hnv hcn
 subst hnv
 obtain ⟨NB,hNB⟩:∃ NB,NB=w2.heap.size:=⟨_,rfl⟩
 have KW:Hid (∀ wx,Below NB w2 wx→Below w.heap.size w wx∧Six wx N p.op p.at_ p.n p.s (.slice ps p.set.length cs) (.slice pu p.len cu) 27∧∀ j,j<ns.length→∃ b off,an=some ⟨b,off,none⟩∧wx.cell? ⟨b,off+j,none⟩=some (.string (ns.getD j (⟨#[]⟩,0)).1)):=fun wx hx=>by
  rw [hNB] at hx
  refine ⟨(HB1.out.1.trans (hb2.mono HB1.out.1.size)).trans (hx.mono (Nat.le_trans HB1.out.1.size hb2.size)),(HB1.out.2.below hb2).below hx,fun j hj=>?_⟩
  obtain ⟨b,off,e1,e2⟩:=hcn j hj
  refine ⟨b,off,e1,?_⟩
  have h7:=jat hx _ _ e2
  rw [h7]
  congr 2
  simp [List.getD_eq_getElem?_getD,List.getElem?_map,List.getElem?_eq_getElem hj]
 have HHD:Hid (∀ wx,Below NB w2 wx→∀ t su u b q,Head6 w b q t su u→Head6 wx b q t su u):=fun wx hx t su u b q h=>h.below (KW.out wx hx).1
 have HNB:Hid (NB=w2.heap.size∧w.heap.size≤NB):=⟨hNB,by rw [hNB];exact Nat.le_trans HB1.out.1.size hb2.size⟩
 have HEND:Hid (∀ wx v,Below NB w2 wx→GN wx NB v (colG ns f n)→m=some (colG ns f n)→jny w m (.returned (.tuple #[v,.bool true])) wx):=fun wx v h1 h2 h3=>by
  have h4:=h2.mono HNB.out.2
  refine ⟨(KW.out wx h1).1,v,true,rfl,?_,.inl ⟨_,h3,rfl,h4⟩⟩
  obtain ⟨l,SS,h5,_⟩:=h4
  exact ⟨_,_,h5.row,by rw [jdf];exact hnl,h5.one⟩
 have HBAD:Hid (∀ wx v xs,Below NB w2 wx→wx.ownsRow NB 42 9 v ns.length xs→(∀ u∈xs,u.oneCell'=true)→m=none→jny w m (.returned (.tuple #[v,.bool false])) wx):=fun wx v xs h1 h2 h3 h4=>⟨(KW.out wx h1).1,v,false,rfl,⟨_,xs,jdW h2 (fun g hg=>Nat.le_trans HNB.out.2 (h2.lt g hg).1),hnl,h3⟩,.inr ⟨h4,rfl⟩⟩
 clear hown hcn hb2 HCN HNM HWW hNB
 go_wp2_with fail
 rw [←HNB.out.1]
 have HG0:Hid ((w2.alloc (.cells #[] 42)).ownsRow NB 42 9 (.slice (some ⟨NB,0,none⟩) 0 0) 0 (jak [])∧Below NB w2 (w2.alloc (.cells #[] 42))):=by
  have h1:(w2.alloc (.cells #[] 42)).heap[NB]? = some (.cells #[] 42):=by rw [HNB.out.1];exact han w2 _
  obtain ⟨l,SS,h2,_⟩:=GN.empty h1 (nlr NB)
  have h3:l=[]:=List.eq_nil_of_length_eq_zero h2.len
  rw [←h3]
  exact ⟨h2.row,(newx w2 _).mono (by rw [HNB.out.1];exact nlr _)⟩
 go_loopw [7,8] (fun r i wr=>∃ (k:Nat) (v0:Value),v0=r∧i=.int .i64 k∧k≤ns.length∧wr.ownsRow NB 42 9 v0 k (jak ((ns.take k).map jfk))∧v0.ownBlock≠none∧Below NB w2 wr) (fun _ i _=>ns.length-(intOf i).toNat)
 case atStart=>exact ⟨0,_,rfl,rfl,nzl _,HG0.out.1,by simp [Value.ownBlock],HG0.out.2⟩
 case round =>
  obtain ⟨k,v0,rfl,rfl,hk,hrow,hvb,hbel⟩:=hrel
  have HR:Hid (wr.ownsRow NB 42 9 v0 k (jak ((ns.take k).map jfk))∧v0.ownBlock≠none∧Below NB w2 wr):=⟨hrow,hvb,hbel⟩
  clear hrow hvb hbel
  by_cases hlt:(k:Int)<ns.length
  case pos =>
   have hk':k<ns.length:=by omega
   obtain ⟨bn,on,han,_⟩:=(KW.out wr HR.out.2.2).2.2 k hk'
   subst han
   have HNC:Hid (∀ wx,Below NB w2 wx→wx.cell? ⟨bn,on+k,none⟩=some (.string (ns.getD k (⟨#[]⟩,0)).1)):=fun wx hx=>by
    obtain ⟨b,off,e1,e2⟩:=(KW.out wx hx).2.2 k hk'
    simp only [Option.some.injEq,Addr.mk.injEq,and_true] at e1
    obtain ⟨rfl,rfl⟩:=e1
    exact e2
   obtain ⟨hd1,hd2,hd3⟩:=HDP.out k hk'
   have HD1:=jaa hd1
   have HTK:Hid (ns.take (k+1)=ns.take k++[ns.getD k (⟨#[]⟩,0)]):=jne ns hk'
   clear hd1
   generalize ns.getD k (⟨#[]⟩,0)=y at *
   go_wp2_with fail
   have HS0:Below NB w2 wr.drew:=HR.out.2.2.drew
   refine wp_region_held_drew (S:=fun wq=>Below NB w2 wq) (by kernel_rfl) HS0 (fun _=>?_)
   refine wpAnyH_take (i:=0) (oi:={dst:=some 22,op:=Op.move (Operand.tmp 7),type:=28,pos := "l07_match.go:54",after:=#[],guard:=none}) (v:=v0) rfl (by kernel_rfl) (by kernel_rfl) (by kernel_rfl) (fun _ _ _ h=>h) (Or.inl ⟨by rfl,?_⟩) HS0 ?_
   ·intro wq hSq
    clear hSq
    go_simp
   try simp only [pLq]
   refine wpAnyH_take (i:=1) (oi:={dst:=some 23,op:=Op.move (Operand.tmp 6),type:=64,pos := "l07_match.go:54",after:=#[],guard:=none}) (v:=.slice (some ⟨bn,on,none⟩) ns.length cn) rfl (by kernel_rfl) (by kernel_rfl) (by kernel_rfl) (fun _ _ _ h=>h) (Or.inl ⟨by rfl,?_⟩) HS0 ?_
   ·intro wq hSq
    clear hSq
    go_simp
   try simp only [pLq]
   refine wpAnyH_take (i:=2) (oi:={dst:=some 24,op:=Op.move (Operand.tmp 8),type:=3,pos := "l07_match.go:54",after:=#[],guard:=none}) (v:=.int .i64 k) rfl (by kernel_rfl) (by kernel_rfl) (by kernel_rfl) (fun _ _ _ h=>h) (Or.inl ⟨by rfl,?_⟩) HS0 ?_
   ·intro wq hSq
    clear hSq
    go_simp
   try simp only [pLq]
   refine wpAnyH_take (i:=3) (oi:={dst:=some 25,op:=Op.indexAddr 64 (Operand.tmp 23) (Operand.tmp 24),type:=0,pos := "l07_match.go:54",after:=#[{on:=1,ground:=Ground.data},{on:=2,ground:=Ground.data}],guard:=none}) (v:=.pointer (some ⟨bn,on+k,none⟩)) rfl (by kernel_rfl) (by kernel_rfl) (by kernel_rfl) (fun _ _ _ h=>h) (Or.inl ⟨by rfl,?_⟩) HS0 ?_
   ·intro wq hSq
    clear hSq
    go_simp
   try simp only [pLq]
   refine wpAnyH_take (i:=4) (oi:={dst:=some 26,op:=Op.load 9 (Operand.tmp 25),type:=9,pos := "l07_match.go:54",after:=#[{on:=3,ground:=Ground.data}],guard:=none}) (v:=.string y.1) rfl (by kernel_rfl) (by kernel_rfl) (by kernel_rfl) (fun _ _ _ h=>h) (Or.inl ⟨by rfl,?_⟩) HS0 ?_
   ·intro wq hSq
    have f0:=HNC.out wq hSq
    clear hSq
    go_simp
   try simp only [pLq]
   refine wpAnyH_take (i:=5) (oi:={dst:=some 27,op:=Op.load 27 (Operand.tmp 2),type:=27,pos := "l07_match.go:54",after:=#[],guard:=none}) (v:=.agg #[.int .i64 p.op,.int .i64 p.at_,.int .i64 p.n,.string p.s,.slice ps p.set.length cs,.slice pu p.len cu]) rfl (by kernel_rfl) (by kernel_rfl) (by kernel_rfl) (fun _ _ _ h=>h) (Or.inl ⟨by rfl,?_⟩) HS0 ?_
   ·intro wq hSq
    obtain ⟨f0,f1,f2,f3,f4,f5⟩:=(KW.out wq hSq).2.1.cells
    clear hSq
    go_simp
   try simp only [pLq]
   refine wpAnyH_take (i:=6) (oi:={dst:=some 28,op:=Op.move (Operand.tmp 6),type:=64,pos := "l07_match.go:54",after:=#[],guard:=none}) (v:=.slice (some ⟨bn,on,none⟩) ns.length cn) rfl (by kernel_rfl) (by kernel_rfl) (by kernel_rfl) (fun _ _ _ h=>h) (Or.inl ⟨by rfl,?_⟩) HS0 ?_
   ·intro wq hSq
    clear hSq
    go_simp
   try simp only [pLq]
   refine wpAnyH_take (i:=7) (oi:={dst:=some 29,op:=Op.move (Operand.tmp 8),type:=3,pos := "l07_match.go:54",after:=#[],guard:=none}) (v:=.int .i64 k) rfl (by kernel_rfl) (by kernel_rfl) (by kernel_rfl) (fun _ _ _ h=>h) (Or.inl ⟨by rfl,?_⟩) HS0 ?_
   ·intro wq hSq
    clear hSq
    go_simp
   try simp only [pLq]
   refine wpAnyH_take (i:=8) (oi:={dst:=some 30,op:=Op.indexAddr 64 (Operand.tmp 28) (Operand.tmp 29),type:=0,pos := "l07_match.go:54",after:=#[{on:=6,ground:=Ground.data},{on:=7,ground:=Ground.data}],guard:=none}) (v:=.pointer (some ⟨bn,on+k,none⟩)) rfl (by kernel_rfl) (by kernel_rfl) (by kernel_rfl) (fun _ _ _ h=>h) (Or.inl ⟨by rfl,?_⟩) HS0 ?_
   ·intro wq hSq
    clear hSq
    go_simp
   try simp only [pLq]
   refine wpAnyH_take (i:=9) (oi:={dst:=some 31,op:=Op.load 9 (Operand.tmp 30),type:=9,pos := "l07_match.go:54",after:=#[{on:=8,ground:=Ground.data}],guard:=none}) (v:=.string y.1) rfl (by kernel_rfl) (by kernel_rfl) (by kernel_rfl) (fun _ _ _ h=>h) (Or.inl ⟨by rfl,?_⟩) HS0 ?_
   ·intro wq hSq
    have f0:=HNC.out wq hSq
    clear hSq
    go_simp
   try simp only [pLq]
   refine wpAnyH_ready (rs:=[10]) (by kernel_rfl) (by simp) ?_
   refine AllReadyH.cons (o:={dst:=some 32,op:=Op.call {callee:=Callee.value (Operand.func 84),args:=#[Operand.tmp 27,Operand.tmp 31],argTypes:=#[27,9]},type:=3,pos := "l07_match.go:54",after:=#[{on:=5,ground:=Ground.data},{on:=9,ground:=Ground.data}],guard:=none}) rfl (fun KK hK=>?_) AllReadyH.nil
   refine ja8 rfl 84 (.tmp 27) (.tmp 31) 27 9 rfl jka (.agg #[.int .i64 p.op,.int .i64 p.at_,.int .i64 p.n,.string p.s,.slice ps p.set.length cs,.slice pu p.len cu]) (.string y.1) rfl rfl _ (jlc p wr.drew _ _ y.1 (HPX.out.below (KW.out _ HS0).1) HW.out.1) ?_
   rintro e w3 ⟨rfl,hb3⟩
   refine ⟨_,rfl,?_⟩
   rw [HD1.out]
   have HBW:Hid (Below wr.heap.size wr w3):=⟨hb3.os,hb3.tape,hb3.output,hb3.size,hb3.block⟩
   have HSZ:Hid (NB≤wr.heap.size):=by have h1:=HR.out.2.2.size;have h2:=HNB.out.1;show _≤_;omega
   have HS1:Below NB w2 w3:=HR.out.2.2.trans (HBW.out.mono HSZ.out)
   clear hb3
   refine hK.out _ _ HS1 (fun _=>?_)
   clear hK KK
   try simp only [pLq]
   refine wpAnyH_take (i:=11) (oi:={dst:=some 33,op:=Op.binOp BinOp.add 3 (Operand.const (Value.int IntKind.i64 1)) (Operand.tmp 32) 3,type:=3,pos := "l07_match.go:54",after:=#[{on:=10,ground:=Ground.data}],guard:=none}) (v:=.int .i64 (1+y.2)) rfl (by kernel_rfl) (by kernel_rfl) (by kernel_rfl) (fun _ _ _ h=>h) (Or.inl ⟨by rfl,?_⟩) HS1 ?_
   ·intro wq hSq
    clear hSq
    go_simp;exact IntWalk.i64_in _ (by omega)
   try simp only [pLq]
   refine wpAnyH_take (i:=12) (oi:={dst:=some 34,op:=Op.build 42 #[(0,Operand.tmp 26),(1,Operand.tmp 33)],type:=42,pos := "l07_match.go:54",after:=#[{on:=4,ground:=Ground.data},{on:=11,ground:=Ground.data}],guard:=none}) (v:=.agg #[.string y.1,.int .i64 (1+y.2),.int .i64 0,.int .i64 0,.int .i64 0,.string ⟨#[]⟩,.slice none 0 0,.slice none 0 0,.slice none 0 0]) rfl (by kernel_rfl) (by kernel_rfl) (by kernel_rfl) (fun _ _ _ h=>h) (Or.inl ⟨by rfl,?_⟩) HS1 ?_
   ·intro wq hSq
    clear hSq
    go_simp
   try simp only [pLq]
   refine wpAnyH_ready (rs:=[13]) (by kernel_rfl) (by simp) ?_
   refine AllReadyH.cons (o:={dst:=some 35,op:=Op.buildSlice 28 1 #[(0,Operand.tmp 34)],type:=28,pos := "l07_match.go:54",after:=#[{on:=12,ground:=Ground.data}],guard:=none}) rfl (fun KK hK=>?_) AllReadyH.nil
   go_simp
   refine hK.out _ _ (HS1.trans ((newx w3 _).mono (Nat.le_trans HSZ.out HBW.out.size))) (fun _=>?_)
   clear hK KK
   try simp only [pLq]
   refine wpAnyH_ready (rs:=[14]) (by kernel_rfl) (by simp) ?_
   refine AllReadyH.cons (o:={dst:=some 36,op:=Op.call {callee:=Callee.builtin Builtin.append,args:=#[Operand.tmp 22,Operand.tmp 35],argTypes:=#[28,28]},type:=28,pos := "l07_match.go:54",after:=#[{on:=0,ground:=Ground.data},{on:=13,ground:=Ground.data},{on:=10,ground:=Ground.chain}],guard:=none}) rfl (fun KK hK=>?_) AllReadyH.nil
   refine jch (by rfl) (.tmp 22) (.tmp 35) 28 (by rfl) NB 42 i0 (.agg #[.string ⟨#[]⟩,.int .i64 0,.int .i64 0,.int .i64 0,.int .i64 0,.string ⟨#[]⟩,.slice none 0 0,.slice none 0 0,.slice none 0 0]) 9 136 Tryz.underlying28 hi0 hz0 hz1 hz2 rfl (by decide) v0 k (jak ((ns.take k).map jfk)) (by rfl) (World.ownsRow.alloc (jaM HR.out.1 (fun j hj=>HBW.out.block j (HR.out.1.lt j hj).2)) _) ⟨w3.heap.size,0,none⟩ 1 1 [.string y.1,.int .i64 (1+y.2),.int .i64 0,.int .i64 0,.int .i64 0,.string ⟨#[]⟩,.slice none 0 0,.slice none 0 0,.slice none 0 0] (by rfl) (by rfl) (World.news_of_block (cs:=#[.string y.1,.int .i64 (1+y.2),.int .i64 0,.int .i64 0,.int .i64 0,.string ⟨#[]⟩,.slice none 0 0,.slice none 0 0,.slice none 0 0]) (t:=42) (fr:=(0,0)) (han w3 _)) (by simp [Value.oneCell']) (by unfold maxLen;omega) (by omega) (by have h1:=HBW.out.size;have h2:=HSZ.out;simp;omega) (by decide) ?_
   intro v' w4 hown4 hg4 hwh4
   have HFIN:Hid (w4.ownsRow NB 42 9 v' (k+1) (jak ((ns.take (k+1)).map jfk))∧v'.ownBlock≠none∧Below NB w2 w4):=by
    refine ⟨?_,?_,?_⟩
    ·rw [HTK.out,List.map_append,jb9]
     have h1:=hown4.out
     rw [Int.add_comm] at h1
     exact h1
    ·obtain ⟨g',c',hv'⟩:=ownsRow_succ hown4.out
     rw [hv']
     simp [Value.ownBlock]
    ·have hS2:Below NB w2 (w3.alloc (.cells #[.string y.1,.int .i64 (1+y.2),.int .i64 0,.int .i64 0,.int .i64 0,.string ⟨#[]⟩,.slice none 0 0,.slice none 0 0,.slice none 0 0] 42)):=HS1.trans ((newx w3 _).mono (Nat.le_trans HSZ.out HBW.out.size))
     refine ⟨hg4.out.os.trans hS2.os,hg4.out.tape.trans hS2.tape,hg4.out.output.trans hS2.output,Nat.le_trans hS2.size hg4.out.size,fun j hj=>(hg4.out.block j (by have h1:=HBW.out.size;have h2:=HSZ.out;simp;omega) (fun e=>?_)).trans (hS2.block j hj)⟩
     have:=(HR.out.1.lt j e.symm).1
     omega
   clear hown4 hg4 hwh4
   refine hK.out _ _ HFIN.out.2.2 (fun _=>?_)
   clear hK KK
   try simp only [pLq]
   refine wpAnyH_take (i:=15) (oi:={dst:=some 7,op:=Op.assign (Operand.tmp 36),type:=28,pos := "l07_match.go:54",after:=#[{on:=14,ground:=Ground.data},{on:=14,ground:=Ground.chain},{on:=0,ground:=Ground.phase},{on:=1,ground:=Ground.phase},{on:=2,ground:=Ground.phase},{on:=3,ground:=Ground.phase},{on:=4,ground:=Ground.phase},{on:=5,ground:=Ground.phase},{on:=6,ground:=Ground.phase},{on:=7,ground:=Ground.phase},{on:=8,ground:=Ground.phase},{on:=9,ground:=Ground.phase},{on:=10,ground:=Ground.phase},{on:=11,ground:=Ground.phase},{on:=12,ground:=Ground.phase},{on:=13,ground:=Ground.phase},{on:=14,ground:=Ground.phase}],guard:=none}) (v:=v') rfl (by kernel_rfl) (by kernel_rfl) (by kernel_rfl) (fun _ _ _ h=>h) (Or.inl ⟨by rfl,?_⟩) HFIN.out.2.2 ?_
   ·intro wq hSq
    clear hSq
    go_simp
   try simp only [pLq]
   refine wpAnyH_done (by kernel_rfl) ?_ _
   go_wp2_with fail
   go_roundw
   case rel=>exact ⟨k+1,_,rfl,by go_num,by omega,HFIN.out⟩
   case measure=>simp [intOf];omega
  case neg =>
   have hke:k=ns.length:=by omega
   subst hke
   obtain ⟨g0,cv,hv0⟩:=jeM HR.out.1 HR.out.2.1
   subst hv0
   have HER:Hid (ER wr NB (.slice (some ⟨g0,0,none⟩) ns.length cv) ns (jbR f 0) (fun _=>.slice none 0 0) (fun _=>[]) (fun _=>[])):=by
    have h1:=HR.out.1
    rw [List.take_length] at h1
    exact ER.start h1
   have HB0:Hid (Below NB w2 wr):=HR.out.2.2
   clear HR
   go_wp2_with fail
   go_loopw [9] (fun i wq=>∃ (k:Nat),i=.int .i64 k∧k≤n∧(∀ t,t<k→(f t).isSome=true)∧(∃ gv ll SSs,ER wq NB (.slice (some ⟨g0,0,none⟩) ns.length cv) ns (jbR f k) gv ll SSs)∧Below NB w2 wq) (fun i _=>n-(intOf i).toNat)
   case atStart=>exact ⟨0,rfl,nzl _,fun t ht=>absurd ht (Nat.not_lt_zero _),⟨_,_,_,HER.out⟩,HB0.out⟩
   case round =>
    obtain ⟨k,rfl,hk,hall,⟨gv,ll,SSs,her⟩,hbel⟩:=hrel
    have HE:Hid (ER wr NB (.slice (some ⟨g0,0,none⟩) ns.length cv) ns (jbR f k) gv ll SSs∧(∀ t,t<k→(f t).isSome=true)∧Below NB w2 wr):=⟨her,hall,hbel⟩
    clear hall her hbel HER HB0
    by_cases hlt:(k:Int)<n
    case pos =>
     have hk':k<n:=by omega
     obtain ⟨b1,o1,sk1,uk1,hpk,hdk,hink⟩:=HAT.out k hk'
     subst hpk
     obtain ⟨q1,r1,e1⟩:=hink.xs.shape
     obtain ⟨q2,r2,e2⟩:=hink.sets.shape
     subst e1 e2
     have HDK:=jaa hdk
     have HCALL:Hid (∀ wx,Below NB w2 wx→Calls Tryz.prog 27 #[.agg #[.int .i64 p.op,.int .i64 p.at_,.int .i64 p.n,.string p.s,.slice ps p.set.length cs,.slice pu p.len cu],.agg #[.int .i64 (kid k).op,.int .i64 (kid k).at_,.int .i64 (kid k).n,.string (kid k).s,.slice q2 (kid k).set.length r2,.slice q1 (kid k).len r1]] wx fun e w'=>jjY wx (f k) e w'):=fun wx hx=>by
      rw [HF.out]
      exact HT.out (kid k) wx _ _ _ _ (HPX.out.below (KW.out wx hx).1) (hink.below (KW.out wx hx).1) HW.out.1 (HW.out.2.1 k hk') HW.out.2.2.1 HW.out.2.2.2
     clear hdk hink
     go_wp2_with fail
     have HS0:Below NB w2 wr.drew:=HE.out.2.2.drew
     refine wp_region_held_drew (S:=fun wq=>Below NB w2 wq) (by kernel_rfl) HS0 (fun _=>?_)
     refine wpAnyH_take (i:=0) (oi:={dst:=some 44,op:=Op.load 27 (Operand.tmp 2),type:=27,pos := "l07_match.go:57",after:=#[],guard:=none}) (v:=.agg #[.int .i64 p.op,.int .i64 p.at_,.int .i64 p.n,.string p.s,.slice ps p.set.length cs,.slice pu p.len cu]) rfl (by kernel_rfl) (by kernel_rfl) (by kernel_rfl) (fun _ _ _ h=>h) (Or.inl ⟨by rfl,?_⟩) HS0 ?_
     ·intro wq hSq
      obtain ⟨f0,f1,f2,f3,f4,f5⟩:=(KW.out wq hSq).2.1.cells
      clear hSq
      go_simp
     try simp only [pLq]
     refine wpAnyH_take (i:=1) (oi:={dst:=some 45,op:=Op.move (Operand.tmp 1),type:=25,pos := "l07_match.go:57",after:=#[],guard:=none}) (v:=.slice (some ⟨b1,o1,none⟩) n ck) rfl (by kernel_rfl) (by kernel_rfl) (by kernel_rfl) (fun _ _ _ h=>h) (Or.inl ⟨by rfl,?_⟩) HS0 ?_
     ·intro wq hSq
      clear hSq
      go_simp
     try simp only [pLq]
     refine wpAnyH_take (i:=2) (oi:={dst:=some 46,op:=Op.move (Operand.tmp 9),type:=3,pos := "l07_match.go:57",after:=#[],guard:=none}) (v:=.int .i64 k) rfl (by kernel_rfl) (by kernel_rfl) (by kernel_rfl) (fun _ _ _ h=>h) (Or.inl ⟨by rfl,?_⟩) HS0 ?_
     ·intro wq hSq
      clear hSq
      go_simp
     try simp only [pLq]
     refine wpAnyH_take (i:=3) (oi:={dst:=some 47,op:=Op.indexAddr 25 (Operand.tmp 45) (Operand.tmp 46),type:=0,pos := "l07_match.go:57",after:=#[{on:=1,ground:=Ground.data},{on:=2,ground:=Ground.data}],guard:=none}) (v:=.pointer (some ⟨b1,o1+k*6,none⟩)) rfl (by kernel_rfl) (by kernel_rfl) (by kernel_rfl) (fun _ _ _ h=>h) (Or.inl ⟨by rfl,?_⟩) HS0 ?_
     ·intro wq hSq
      clear hSq
      go_simp
     try simp only [pLq]
     refine wpAnyH_take (i:=4) (oi:={dst:=some 48,op:=Op.load 27 (Operand.tmp 47),type:=27,pos := "l07_match.go:57",after:=#[{on:=3,ground:=Ground.data}],guard:=none}) (v:=.agg #[.int .i64 (kid k).op,.int .i64 (kid k).at_,.int .i64 (kid k).n,.string (kid k).s,.slice q2 (kid k).set.length r2,.slice q1 (kid k).len r1]) rfl (by kernel_rfl) (by kernel_rfl) (by kernel_rfl) (fun _ _ _ h=>h) (Or.inl ⟨by rfl,?_⟩) HS0 ?_
     ·intro wq hSq
      obtain ⟨f0,f1,f2,f3,f4,f5⟩:=HHD.out wq hSq _ _ _ _ _ HDK.out
      clear hSq
      go_simp
     try simp only [pLq]
     refine wpAnyH_ready (rs:=[5]) (by kernel_rfl) (by simp) ?_
     refine AllReadyH.cons (o:={dst:=some 49,op:=Op.call {callee:=Callee.value (Operand.func 27),args:=#[Operand.tmp 44,Operand.tmp 48],argTypes:=#[27,27]},type:=37,pos := "l07_match.go:57",after:=#[{on:=0,ground:=Ground.data},{on:=4,ground:=Ground.data}],guard:=none}) rfl (fun KK hK=>?_) AllReadyH.nil
     refine ja8 rfl 27 (.tmp 44) (.tmp 48) 27 27 rfl jdD (.agg #[.int .i64 p.op,.int .i64 p.at_,.int .i64 p.n,.string p.s,.slice ps p.set.length cs,.slice pu p.len cu]) (.agg #[.int .i64 (kid k).op,.int .i64 (kid k).at_,.int .i64 (kid k).n,.string (kid k).s,.slice q2 (kid k).set.length r2,.slice q1 (kid k).len r1]) rfl rfl _ (HCALL.out wr.drew HS0) ?_
     rintro e w1 ⟨hb1,v1,ok1,rfl,hcase⟩
     refine ⟨_,rfl,?_⟩
     have HBW:Hid (Below wr.heap.size wr w1):=⟨hb1.os,hb1.tape,hb1.output,hb1.size,hb1.block⟩
     have HSZ:Hid (NB≤wr.heap.size):=by have h1:=HE.out.2.2.size;have h2:=HNB.out.1;show _≤_;omega
     have HS1:Below NB w2 w1:=HE.out.2.2.trans (HBW.out.mono HSZ.out)
     have HCS:Hid ((∃ l,f k=some l∧ok1=true∧GN w1 wr.heap.size v1 l∧v1.ownBlock≠none)∨(f k=none∧ok1=false)):=hcase
     clear hb1 hcase HCALL HDK
     refine hK.out _ _ HS1 (fun _=>?_)
     clear hK KK
     try simp only [pLq]
     refine wpAnyH_take (i:=6) (oi:={dst:=some 43,op:=Op.move (Operand.tmp 49),type:=37,pos := "l07_match.go:57",after:=#[{on:=5,ground:=Ground.data}],guard:=none}) (v:=.tuple #[v1,.bool ok1]) rfl (by kernel_rfl) (by kernel_rfl) (by kernel_rfl) (fun _ _ _ h=>h) (Or.inl ⟨by rfl,?_⟩) HS1 ?_
     ·intro wq hSq
      clear hSq
      go_simp
     try simp only [pLq]
     refine wpAnyH_take (i:=7) (oi:={dst:=some 50,op:=Op.extract (Operand.tmp 43) 0,type:=28,pos := "l07_match.go:57",after:=#[{on:=6,ground:=Ground.data}],guard:=none}) (v:=v1) rfl (by kernel_rfl) (by kernel_rfl) (by kernel_rfl) (fun _ _ _ h=>h) (Or.inl ⟨by rfl,?_⟩) HS1 ?_
     ·intro wq hSq
      clear hSq
      go_simp
     try simp only [pLq]
     refine wpAnyH_take (i:=8) (oi:={dst:=some 51,op:=Op.extract (Operand.tmp 43) 1,type:=4,pos := "l07_match.go:57",after:=#[{on:=6,ground:=Ground.data},{on:=9,ground:=Ground.gcOnly Departure.lateStores}],guard:=none}) (v:=.bool ok1) rfl (by kernel_rfl) (by kernel_rfl) (by kernel_rfl) (fun _ _ _ h=>h) (Or.inl ⟨by rfl,?_⟩) HS1 ?_
     ·intro wq hSq
      clear hSq
      go_simp
     try simp only [pLq]
     refine wpAnyH_take (i:=9) (oi:={dst:=some 10,op:=Op.assign (Operand.tmp 50),type:=28,pos := "l07_match.go:57",after:=#[{on:=7,ground:=Ground.data},{on:=5,ground:=Ground.chain},{on:=0,ground:=Ground.phase},{on:=1,ground:=Ground.phase},{on:=2,ground:=Ground.phase},{on:=3,ground:=Ground.phase},{on:=4,ground:=Ground.phase},{on:=5,ground:=Ground.phase},{on:=6,ground:=Ground.phase},{on:=7,ground:=Ground.phase},{on:=8,ground:=Ground.textOnly Departure.lateStores}],guard:=none}) (v:=v1) rfl (by kernel_rfl) (by kernel_rfl) (by kernel_rfl) (fun _ _ _ h=>h) (Or.inl ⟨by rfl,?_⟩) HS1 ?_
     ·intro wq hSq
      clear hSq
      go_simp
     try simp only [pLq]
     refine wpAnyH_take (i:=10) (oi:={dst:=some 11,op:=Op.assign (Operand.tmp 51),type:=4,pos := "l07_match.go:57",after:=#[{on:=8,ground:=Ground.data},{on:=9,ground:=Ground.chain},{on:=0,ground:=Ground.phase},{on:=1,ground:=Ground.phase},{on:=2,ground:=Ground.phase},{on:=3,ground:=Ground.phase},{on:=4,ground:=Ground.phase},{on:=5,ground:=Ground.phase},{on:=6,ground:=Ground.phase},{on:=7,ground:=Ground.phase},{on:=8,ground:=Ground.phase},{on:=9,ground:=Ground.phase}],guard:=none}) (v:=.bool ok1) rfl (by kernel_rfl) (by kernel_rfl) (by kernel_rfl) (fun _ _ _ h=>h) (Or.inl ⟨by rfl,?_⟩) HS1 ?_
     ·intro wq hSq
      clear hSq
      go_simp
     try simp only [pLq]
     refine wpAnyH_done (by kernel_rfl) ?_ _
     have HE1:Hid (ER w1 NB (.slice (some ⟨g0,0,none⟩) ns.length cv) ns (jbR f k) gv ll SSs):=HE.out.1.same (fun j hj=>HBW.out.block j (HE.out.1.lt hj).2)
     rcases HCS.out with ⟨lst,hml,rfl,⟨lrows,SSl,hgl,hgB⟩,hvl⟩|⟨hml,rfl⟩
     ·obtain ⟨gl,cl,hv1⟩:=jeM hgl.row hvl
      subst hv1
      have hln:lst.length=ns.length:=by
       rw [HNS.out]
       exact jcp _ _ _ HW.out.2.2.1 (show jai p (kid k)=some lst by have h1:=hml;rw [HF.out] at h1;exact h1)
      have HL:Hid (GRow w1 wr.heap.size (.slice (some ⟨gl,0,none⟩) lst.length cl) lst lrows SSl∧(∀ j∈blG (.slice (some ⟨gl,0,none⟩) lst.length cl) SSl,wr.heap.size≤j)∧f k=some lst∧gl<w1.heap.size):=⟨hgl,hgB,hml,(hgl.row.lt gl rfl).2⟩
      have HI0:Hid (EI w2 w1 w1 NB g0 cv ns (jbR f k) lst (.slice (some ⟨gl,0,none⟩) lst.length cl) SSl gv ll SSs 0):=by
       refine ⟨by rw [List.take_zero,jnn];exact HE1.out,fun x hx=>⟨rfl,?_⟩,HS1,nlr _⟩
       have hxw:wr.heap.size≤x:=by
        rcases hx with h|⟨j,T,_,h2,h3⟩
        ·exact hgB x (List.mem_append_left _ (jbh h))
        ·exact hgB x (List.mem_append_right _ (jaD h2 h3))
       refine ⟨fun e=>?_,fun t ht hm=>?_⟩
       ·have:=(HE.out.1.lt (.inl rfl:(Value.slice (some ⟨g0,0,none⟩) ns.length cv).ownBlock=some g0∨_)).2
        omega
       ·have:=(HE.out.1.lt (.inr ⟨t,ht,hm⟩)).2
        omega
      have HLN:=jaa hln
      clear hgl hgB hml hvl HCS HE1 HS0 HS1 hln
      go_wp2_with fail
      go_loopw [12] (fun j wq=>∃ (i:Nat),j=.int .i64 i∧i≤ns.length∧∃ gv ll SSs,EI w2 w1 wq NB g0 cv ns (jbR f k) lst (.slice (some ⟨gl,0,none⟩) lst.length cl) SSl gv ll SSs i) (fun j _=>ns.length-(intOf j).toNat)
      case atStart=>exact ⟨0,rfl,nzl _,_,_,_,HI0.out⟩
      case round =>
       obtain ⟨i,rfl,hi,gw,lw,SW,hei⟩:=hrel
       have HI:Hid (EI w2 w1 wr NB g0 cv ns (jbR f k) lst (.slice (some ⟨gl,0,none⟩) lst.length cl) SSl gw lw SW i):=hei
       clear hei HI0
       by_cases hlt3:(i:Int)<ns.length
       case pos =>
        have hi':i<ns.length:=by omega
        have hil:i<lst.length:=by rw [HLN.out];exact hi'
        obtain ⟨g,a1,a2,d1,d2,c1,c2,hq,z0,z1,z2,z3,z4,z5,z6,z7,z8⟩:=HI.out.list HL.out.1 hil
        obtain ⟨pj,cj,ej⟩:=jc5 (HI.out.er.each i hi').row
        have hlk:(jcT (jbR f k) (lst.take i) i).length=k:=by
         unfold jcT
         rw [if_neg (by rw [List.length_take];omega),lan,jfs]
        rw [hlk] at ej
        have hxc:wr.cell? ⟨g0,i*9+8,none⟩=some (.slice pj k cj):=by
         rw [←ej]
         exact (HI.out.er.row.cellAt (i*9+8) (by omega)).trans (jcY _ (jeX ns _ gw hi') (by omega))
        have HROW:Hid (∀ D,But (fun _=>False) wr D→D.ownsRow NB 42 9 (.slice pj k cj) k (jak (lw i))):=fun D hD=>by
         have h7:=HI.out.row hi' hD
         rw [ej,hlk] at h7
         exact h7
        have HPU:Hid (∀ D,But (fun _=>False) wr D→∀ v' w3 news,w3.ownsRow NB 42 9 v' (k+1) (jak (lw i)++news)→D.grownBy w3 (Value.slice pj k cj).ownBlock→(v'.ownBlock=(Value.slice pj k cj).ownBlock∨v'.ownBlock=some D.heap.size)→∃ g' c',EQ wr g0 gl g' c' k i (.slice pj k cj) v' w3):=fun D hD v' w3 news r1 r2 r3=>by
         rw [←ej] at r2 r3 ⊢
         exact HI.out.pushed HL.out.2.2.2 hi' hD r1 r2 r3
        have HSZ2:Hid (NB≤wr.heap.size):=by have h1:=HI.out.bel.size;have h2:=HNB.out.1;show _≤_;omega
        have HGE:Hid (∀ j∈blG (.slice (some ⟨gl,0,none⟩) lst.length cl) SSl,NB≤j):=fun j hj=>Nat.le_trans HSZ.out (HL.out.2.1 j hj)
        have HST:Hid (∀ D,But (fun _=>False) wr D→∀ g' c' w3,w3.ownsRow NB 42 9 (.slice (some ⟨g',0,none⟩) (k+1) c') (k+1) (jak (lw i)++jnw)→D.grownBy w3 (Value.slice pj k cj).ownBlock→((Value.slice (some ⟨g',0,none⟩) (k+1) c').ownBlock=(Value.slice pj k cj).ownBlock∨(Value.slice (some ⟨g',0,none⟩) (k+1) c').ownBlock=some D.heap.size)→∀ F,F=(put9 w3 g' (k*9) ⟨g,.slice a1 g.one.set.length a2,.slice d1 g.one.len d2,.slice c1 g.len c2⟩).setCell ⟨g0,i*9+8,none⟩ (.slice (some ⟨g',0,none⟩) (k+1) c')→∃ gv ll SSs,EI w2 w1 F NB g0 cv ns (jbR f k) lst (.slice (some ⟨gl,0,none⟩) lst.length cl) SSl gv ll SSs (i+1)):=fun D hD g' c' w3 r1 r2 r3 F hF=>by
         rw [←ej] at r2 r3
         exact (HI.out.step HL.out.1 HGE.out HSZ2.out hi' hil hD hlk hq r1 r2 r3 hF).2
        clear ej hlk hq HGE
        have HS0:wr.drew.heap[gl]? = wr.heap[gl]? := rfl
        have xa:∀ o,(wr.alloc o).cell? ⟨g0,i*9+8,none⟩=some (.slice pj k cj):=fun o=>jat (newx wr o) _ _ hxc
        have sa:∀ o,(wr.alloc o).drew.heap[gl]? = wr.heap[gl]? := fun o=>bha _ _ _ (by have:=HI.out.sz;have:=HL.out.2.2.2;omega)
        go_wp2_with fail
        refine wp_region_held_drew (S:=fun wq=>wq.heap[gl]? = wr.heap[gl]?) (by kernel_rfl) HS0 (fun _=>?_)
        refine wpAnyH_take (i:=0) (oi:={dst:=some 61,op:=Op.move (Operand.tmp 7),type:=28,pos := "l07_match.go:62",after:=#[],guard:=none}) (v:=.slice (some ⟨g0,0,none⟩) ns.length cv) rfl (by kernel_rfl) (by kernel_rfl) (by kernel_rfl) (fun _ _ _ h=>h) (Or.inl ⟨by rfl,?_⟩) HS0 ?_
        ·intro wq hSq
         clear hSq
         go_simp
        try simp only [pLq]
        refine wpAnyH_take (i:=1) (oi:={dst:=some 62,op:=Op.move (Operand.tmp 12),type:=3,pos := "l07_match.go:62",after:=#[],guard:=none}) (v:=.int .i64 i) rfl (by kernel_rfl) (by kernel_rfl) (by kernel_rfl) (fun _ _ _ h=>h) (Or.inl ⟨by rfl,?_⟩) HS0 ?_
        ·intro wq hSq
         clear hSq
         go_simp
        try simp only [pLq]
        refine wpAnyH_take (i:=2) (oi:={dst:=some 63,op:=Op.indexAddr 28 (Operand.tmp 61) (Operand.tmp 62),type:=0,pos := "l07_match.go:62",after:=#[{on:=0,ground:=Ground.data},{on:=1,ground:=Ground.data}],guard:=none}) (v:=.pointer (some ⟨g0,i*9,none⟩)) rfl (by kernel_rfl) (by kernel_rfl) (by kernel_rfl) (fun _ _ _ h=>h) (Or.inl ⟨by rfl,?_⟩) HS0 ?_
        ·intro wq hSq
         clear hSq
         go_simp
        try simp only [pLq]
        refine wpAnyH_take (i:=3) (oi:={dst:=some 64,op:=Op.fieldAddr 42 (Operand.tmp 63) 3,type:=0,pos := "l07_match.go:62",after:=#[{on:=2,ground:=Ground.data}],guard:=none}) (v:=.pointer (some ⟨g0,i*9+8,none⟩)) rfl (by kernel_rfl) (by kernel_rfl) (by kernel_rfl) (fun _ _ _ h=>h) (Or.inl ⟨by rfl,?_⟩) HS0 ?_
        ·intro wq hSq
         clear hSq
         go_simp
        try simp only [pLq]
        refine wpAnyH_take (i:=5) (oi:={dst:=some 66,op:=Op.move (Operand.tmp 10),type:=28,pos := "l07_match.go:62",after:=#[],guard:=none}) (v:=.slice (some ⟨gl,0,none⟩) lst.length cl) rfl (by kernel_rfl) (by kernel_rfl) (by kernel_rfl) (fun _ _ _ h=>h) (Or.inl ⟨by rfl,?_⟩) HS0 ?_
        ·intro wq hSq
         clear hSq
         go_simp
        try simp only [pLq]
        refine wpAnyH_take (i:=6) (oi:={dst:=some 67,op:=Op.move (Operand.tmp 12),type:=3,pos := "l07_match.go:62",after:=#[],guard:=none}) (v:=.int .i64 i) rfl (by kernel_rfl) (by kernel_rfl) (by kernel_rfl) (fun _ _ _ h=>h) (Or.inl ⟨by rfl,?_⟩) HS0 ?_
        ·intro wq hSq
         clear hSq
         go_simp
        try simp only [pLq]
        refine wpAnyH_take (i:=7) (oi:={dst:=some 68,op:=Op.indexAddr 28 (Operand.tmp 66) (Operand.tmp 67),type:=0,pos := "l07_match.go:62",after:=#[{on:=5,ground:=Ground.data},{on:=6,ground:=Ground.data}],guard:=none}) (v:=.pointer (some ⟨gl,i*9,none⟩)) rfl (by kernel_rfl) (by kernel_rfl) (by kernel_rfl) (fun _ _ _ h=>h) (Or.inl ⟨by rfl,?_⟩) HS0 ?_
        ·intro wq hSq
         clear hSq
         go_simp
        try simp only [pLq]
        refine wpAnyH_take (i:=8) (oi:={dst:=some 69,op:=Op.load 42 (Operand.tmp 68),type:=42,pos := "l07_match.go:62",after:=#[{on:=7,ground:=Ground.data}],guard:=none}) (v:=.agg #[.string g.name,.int .i64 g.deep,.int .i64 g.one.op,.int .i64 g.one.at_,.int .i64 g.one.n,.string g.one.s,.slice a1 g.one.set.length a2,.slice d1 g.one.len d2,.slice c1 g.len c2]) rfl (by kernel_rfl) (by kernel_rfl) (by kernel_rfl) (fun _ _ _ h=>h) (Or.inl ⟨by rfl,?_⟩) HS0 ?_
        ·intro wq hSq
         have f0:=(wcb (w:=wr) (a:=⟨gl,i*9,none⟩) hSq).trans z0
         have f1:=(wcb (w:=wr) (a:=⟨gl,i*9+1,none⟩) hSq).trans z1
         have f2:=(wcb (w:=wr) (a:=⟨gl,i*9+2,none⟩) hSq).trans z2
         have f3:=(wcb (w:=wr) (a:=⟨gl,i*9+3,none⟩) hSq).trans z3
         have f4:=(wcb (w:=wr) (a:=⟨gl,i*9+4,none⟩) hSq).trans z4
         have f5:=(wcb (w:=wr) (a:=⟨gl,i*9+5,none⟩) hSq).trans z5
         have f6:=(wcb (w:=wr) (a:=⟨gl,i*9+6,none⟩) hSq).trans z6
         have f7:=(wcb (w:=wr) (a:=⟨gl,i*9+7,none⟩) hSq).trans z7
         have f8:=(wcb (w:=wr) (a:=⟨gl,i*9+8,none⟩) hSq).trans z8
         clear hSq
         go_simp
        try simp only [pLq]
        refine wpAnyH_ready (rs:=[4,10]) (by kernel_rfl) (by simp) (AllReadyH.cons (o:={dst:=some 65,op:=Op.load 28 (Operand.tmp 64),type:=28,pos := "l07_match.go:62",after:=#[{on:=3,ground:=Ground.data}],guard:=none}) rfl (fun KK hK=>?ea4) (AllReadyH.cons (o:={dst:=some 71,op:=Op.buildSlice 28 1 #[(0,Operand.const (Value.agg #[Value.string {data:=#[]},Value.int IntKind.i64 0,Value.int IntKind.i64 0,Value.int IntKind.i64 0,Value.int IntKind.i64 0,Value.string {data:=#[]},Value.slice none 0 0,Value.slice none 0 0,Value.slice none 0 0]))],type:=28,pos := "l07_match.go:62",after:=#[],guard:=none}) rfl (fun KK hK=>?ea10) AllReadyH.nil))
        case' ea4 =>
         go_simp
         refine hK.out _ _ HS0 (fun _=>?_)
         clear hK KK
         try simp only [pLq]
         refine wpAnyH_take (i:=9) (oi:={dst:=some 70,op:=Op.call {callee:=Callee.builtin Builtin.len,args:=#[Operand.tmp 65],argTypes:=#[28]},type:=3,pos := "l07_match.go:62",after:=#[{on:=4,ground:=Ground.data}],guard:=none}) (v:=.int .i64 k) rfl (by kernel_rfl) (by kernel_rfl) (by kernel_rfl) (fun _ _ _ h=>h) (Or.inl ⟨by rfl,?_⟩) HS0 ?_
         ·intro wq hSq
          clear hSq
          go_simp
         try simp only [pLq]
         refine wpAnyH_ready (rs:=[10]) (by kernel_rfl) (by simp) ?_
         refine AllReadyH.cons (o:={dst:=some 71,op:=Op.buildSlice 28 1 #[(0,Operand.const (Value.agg #[Value.string {data:=#[]},Value.int IntKind.i64 0,Value.int IntKind.i64 0,Value.int IntKind.i64 0,Value.int IntKind.i64 0,Value.string {data:=#[]},Value.slice none 0 0,Value.slice none 0 0,Value.slice none 0 0]))],type:=28,pos := "l07_match.go:62",after:=#[],guard:=none}) rfl (fun KK hK=>?_) AllReadyH.nil
         go_simp
         refine hK.out _ _ (sa _) (fun _=>?_)
         clear hK KK
         try simp only [pLq]
        case' ea10 =>
         go_simp
         refine hK.out _ _ (sa _) (fun _=>?_)
         clear hK KK
         try simp only [pLq]
         refine wpAnyH_ready (rs:=[4]) (by kernel_rfl) (by simp) ?_
         refine AllReadyH.cons (o:={dst:=some 65,op:=Op.load 28 (Operand.tmp 64),type:=28,pos := "l07_match.go:62",after:=#[{on:=3,ground:=Ground.data}],guard:=none}) rfl (fun KK hK=>?_) AllReadyH.nil
         go_simp
         refine hK.out _ _ (sa _) (fun _=>?_)
         clear hK KK
         try simp only [pLq]
         refine wpAnyH_take (i:=9) (oi:={dst:=some 70,op:=Op.call {callee:=Callee.builtin Builtin.len,args:=#[Operand.tmp 65],argTypes:=#[28]},type:=3,pos := "l07_match.go:62",after:=#[{on:=4,ground:=Ground.data}],guard:=none}) (v:=.int .i64 k) rfl (by kernel_rfl) (by kernel_rfl) (by kernel_rfl) (fun _ _ _ h=>h) (Or.inl ⟨by rfl,?_⟩) (sa _) ?_
         ·intro wq hSq
          clear hSq
          go_simp
         try simp only [pLq]
        all_goals
         refine wpAnyH_ready (rs:=[11]) (by kernel_rfl) (by simp) ?_
         refine AllReadyH.cons (o:={dst:=some 72,op:=Op.call {callee:=Callee.builtin Builtin.append,args:=#[Operand.tmp 65,Operand.tmp 71],argTypes:=#[28,28]},type:=28,pos := "l07_match.go:62",after:=#[{on:=4,ground:=Ground.data},{on:=10,ground:=Ground.data},{on:=0,ground:=Ground.phase},{on:=1,ground:=Ground.phase},{on:=2,ground:=Ground.phase},{on:=3,ground:=Ground.phase},{on:=4,ground:=Ground.phase},{on:=5,ground:=Ground.phase},{on:=6,ground:=Ground.phase},{on:=7,ground:=Ground.phase},{on:=8,ground:=Ground.phase},{on:=9,ground:=Ground.phase},{on:=10,ground:=Ground.phase}],guard:=none}) rfl (fun KK hK=>?_) AllReadyH.nil
         refine jch (by rfl) (.tmp 65) (.tmp 71) 28 (by rfl) NB 42 i0 (.agg #[.string ⟨#[]⟩,.int .i64 0,.int .i64 0,.int .i64 0,.int .i64 0,.string ⟨#[]⟩,.slice none 0 0,.slice none 0 0,.slice none 0 0]) 9 136 Tryz.underlying28 hi0 hz0 hz1 hz2 rfl (by decide) (.slice pj k cj) k (jak (lw i)) (by rfl) (HROW.out _ (((But.refl _ wr).alloc _).drew)) ⟨wr.heap.size,0,none⟩ 1 1 jnw (by rfl) (by rfl) (World.news_of_block (cs:=#[.string ⟨#[]⟩,.int .i64 0,.int .i64 0,.int .i64 0,.int .i64 0,.string ⟨#[]⟩,.slice none 0 0,.slice none 0 0,.slice none 0 0]) (t:=42) (fr:=(0,0)) (han wr _)) (by simp [Value.oneCell']) (by unfold maxLen;omega) (by omega) (by have h1:=HSZ2.out;simp;omega) (by decide) ?_
         intro v' w3 hown3 hg3 hwh3
         obtain ⟨g',c',hP⟩:=HPU.out _ (((But.refl _ wr).alloc _).drew) v' w3 _ hown3.out hg3.out hwh3.out
         have hv':=hP.eq
         subst hv'
         have HEND3:=jaa (HST.out _ (((But.refl _ wr).alloc _).drew) g' c' w3 hown3.out hg3.out hwh3.out)
         have p3:=hP.old
         have p3f:=hP.oldf
         have n0:=hP.ne0
         have n0':¬ g0=g':=fun e=>n0 e.symm
         obtain ⟨u0,hu0⟩:=hP.cells 0 (by omega)
         obtain ⟨u1,hu1⟩:=hP.cells 1 (by omega)
         obtain ⟨u2,hu2⟩:=hP.cells 2 (by omega)
         obtain ⟨u3,hu3⟩:=hP.cells 3 (by omega)
         obtain ⟨u4,hu4⟩:=hP.cells 4 (by omega)
         obtain ⟨u5,hu5⟩:=hP.cells 5 (by omega)
         obtain ⟨u6,hu6⟩:=hP.cells 6 (by omega)
         obtain ⟨u7,hu7⟩:=hP.cells 7 (by omega)
         obtain ⟨u8,hu8⟩:=hP.cells 8 (by omega)
         rw [Nat.add_zero] at hu0
         have hlv:=hP.live
         have s3:=hP.same
         have s4:(((((((((w3.setCell ⟨g',k*9,none⟩ (.string g.name)).setCell ⟨g',k*9+1,none⟩ (.int .i64 g.deep)).setCell ⟨g',k*9+2,none⟩ (.int .i64 g.one.op)).setCell ⟨g',k*9+3,none⟩ (.int .i64 g.one.at_)).setCell ⟨g',k*9+4,none⟩ (.int .i64 g.one.n)).setCell ⟨g',k*9+5,none⟩ (.string g.one.s)).setCell ⟨g',k*9+6,none⟩ (.slice a1 g.one.set.length a2)).setCell ⟨g',k*9+7,none⟩ (.slice d1 g.one.len d2)).setCell ⟨g',k*9+8,none⟩ (.slice c1 g.len c2)).heap[gl]? = wr.heap[gl]? := (jk4 w3 g' (k*9) ⟨g,.slice a1 g.one.set.length a2,.slice d1 g.one.len d2,.slice c1 g.len c2⟩ gl hP.ne1).trans hP.same
         have s5:(w3.setCell ⟨g0,i*9+8,none⟩ (.slice (some ⟨g',0,none⟩) (k+1) c')).heap[gl]? = wr.heap[gl]? := (bhs _ _ _ _ (by exact hP.ne2)).trans hP.same
         have e9:=jmM w3 g' (k*9) ⟨g,.slice a1 g.one.set.length a2,.slice d1 g.one.len d2,.slice c1 g.len c2⟩ g0 (i*9+8) (.slice (some ⟨g',0,none⟩) (k+1) c') n0'
         have s6:((((((((((w3.setCell ⟨g',k*9,none⟩ (.string g.name)).setCell ⟨g',k*9+1,none⟩ (.int .i64 g.deep)).setCell ⟨g',k*9+2,none⟩ (.int .i64 g.one.op)).setCell ⟨g',k*9+3,none⟩ (.int .i64 g.one.at_)).setCell ⟨g',k*9+4,none⟩ (.int .i64 g.one.n)).setCell ⟨g',k*9+5,none⟩ (.string g.one.s)).setCell ⟨g',k*9+6,none⟩ (.slice a1 g.one.set.length a2)).setCell ⟨g',k*9+7,none⟩ (.slice d1 g.one.len d2)).setCell ⟨g',k*9+8,none⟩ (.slice c1 g.len c2)).setCell ⟨g0,i*9+8,none⟩ (.slice (some ⟨g',0,none⟩) (k+1) c')).heap[gl]? = wr.heap[gl]? := (bhs _ _ _ _ (by exact hP.ne2)).trans s4
         have s7:((((((((((w3.setCell ⟨g0,i*9+8,none⟩ (.slice (some ⟨g',0,none⟩) (k+1) c')).setCell ⟨g',k*9,none⟩ (.string g.name)).setCell ⟨g',k*9+1,none⟩ (.int .i64 g.deep)).setCell ⟨g',k*9+2,none⟩ (.int .i64 g.one.op)).setCell ⟨g',k*9+3,none⟩ (.int .i64 g.one.at_)).setCell ⟨g',k*9+4,none⟩ (.int .i64 g.one.n)).setCell ⟨g',k*9+5,none⟩ (.string g.one.s)).setCell ⟨g',k*9+6,none⟩ (.slice a1 g.one.set.length a2)).setCell ⟨g',k*9+7,none⟩ (.slice d1 g.one.len d2)).setCell ⟨g',k*9+8,none⟩ (.slice c1 g.len c2)).heap[gl]? = wr.heap[gl]? := by
          have h1:=s6
          exact (congrArg (fun x:World=>x.heap[gl]?) e9).trans h1
         have HE9:=jaa e9
         have HS3:=jaa (And.intro s3 (And.intro s4 (And.intro s5 (And.intro s6 s7))))
         clear hP hown3 hg3 hwh3 s3 s4 s5 s6 s7 e9
         refine hK.out _ _ HS3.out.1 (fun _=>?_)
         clear hK KK
         try simp only [pLq]
         refine wpAnyH_take (i:=12) (oi:={dst:=some 73,op:=Op.indexAddr 28 (Operand.tmp 72) (Operand.tmp 70),type:=0,pos := "l07_match.go:62",after:=#[{on:=11,ground:=Ground.data},{on:=9,ground:=Ground.data},{on:=0,ground:=Ground.phase},{on:=1,ground:=Ground.phase},{on:=2,ground:=Ground.phase},{on:=3,ground:=Ground.phase},{on:=4,ground:=Ground.phase},{on:=5,ground:=Ground.phase},{on:=6,ground:=Ground.phase},{on:=7,ground:=Ground.phase},{on:=8,ground:=Ground.phase},{on:=9,ground:=Ground.phase},{on:=10,ground:=Ground.phase},{on:=11,ground:=Ground.phase},{on:=16,ground:=Ground.gcOnly Departure.appendInPlace}],guard:=none}) (v:=.pointer (some ⟨g',k*9,none⟩)) rfl (by kernel_rfl) (by kernel_rfl) (by kernel_rfl) (fun _ _ _ h=>h) (Or.inl ⟨by rfl,?_⟩) HS3.out.1 ?_
         ·intro wq hSq
          clear hSq
          first|(go_simp;done)|(go_simp;intro hh;omega)
         try simp only [pLq]
         refine wpAnyH_take (i:=14) (oi:={dst:=some 74,op:=Op.indexAddr 28 (Operand.tmp 61) (Operand.tmp 62),type:=0,pos := "l07_match.go:62",after:=#[{on:=0,ground:=Ground.data},{on:=1,ground:=Ground.data},{on:=0,ground:=Ground.phase},{on:=1,ground:=Ground.phase},{on:=2,ground:=Ground.phase},{on:=3,ground:=Ground.phase},{on:=4,ground:=Ground.phase},{on:=5,ground:=Ground.phase},{on:=6,ground:=Ground.phase},{on:=7,ground:=Ground.phase},{on:=8,ground:=Ground.phase},{on:=9,ground:=Ground.phase},{on:=10,ground:=Ground.phase},{on:=11,ground:=Ground.phase},{on:=12,ground:=Ground.textOnly Departure.appendInPlace},{on:=13,ground:=Ground.textOnly Departure.appendInPlace}],guard:=none}) (v:=.pointer (some ⟨g0,i*9,none⟩)) rfl (by kernel_rfl) (by kernel_rfl) (by kernel_rfl) (fun _ _ _ h=>h) (Or.inl ⟨by rfl,?_⟩) HS3.out.1 ?_
         ·intro wq hSq
          clear hSq
          go_simp
         try simp only [pLq]
         refine wpAnyH_take (i:=15) (oi:={dst:=some 75,op:=Op.fieldAddr 42 (Operand.tmp 74) 3,type:=0,pos := "l07_match.go:62",after:=#[{on:=14,ground:=Ground.data},{on:=0,ground:=Ground.phase},{on:=1,ground:=Ground.phase},{on:=2,ground:=Ground.phase},{on:=3,ground:=Ground.phase},{on:=4,ground:=Ground.phase},{on:=5,ground:=Ground.phase},{on:=6,ground:=Ground.phase},{on:=7,ground:=Ground.phase},{on:=8,ground:=Ground.phase},{on:=9,ground:=Ground.phase},{on:=10,ground:=Ground.phase},{on:=11,ground:=Ground.phase},{on:=12,ground:=Ground.textOnly Departure.appendInPlace},{on:=13,ground:=Ground.textOnly Departure.appendInPlace}],guard:=none}) (v:=.pointer (some ⟨g0,i*9+8,none⟩)) rfl (by kernel_rfl) (by kernel_rfl) (by kernel_rfl) (fun _ _ _ h=>h) (Or.inl ⟨by rfl,?_⟩) HS3.out.1 ?_
         ·intro wq hSq
          clear hSq
          go_simp
         try simp only [pLq]
         refine wpAnyH_ready (rs:=[13,16]) (by kernel_rfl) (by simp) (AllReadyH.cons (o:={dst:=none,op:=Op.store 42 (Operand.tmp 73) (Operand.tmp 69),type:=0,pos := "l07_match.go:62",after:=#[{on:=12,ground:=Ground.data},{on:=8,ground:=Ground.data},{on:=11,ground:=Ground.chain},{on:=0,ground:=Ground.phase},{on:=1,ground:=Ground.phase},{on:=2,ground:=Ground.phase},{on:=3,ground:=Ground.phase},{on:=4,ground:=Ground.phase},{on:=5,ground:=Ground.phase},{on:=6,ground:=Ground.phase},{on:=7,ground:=Ground.phase},{on:=8,ground:=Ground.phase},{on:=9,ground:=Ground.phase},{on:=10,ground:=Ground.phase},{on:=11,ground:=Ground.phase},{on:=16,ground:=Ground.gcOnly Departure.appendInPlace}],guard:=none}) rfl (fun KK hK=>?_) (AllReadyH.cons (o:={dst:=none,op:=Op.store 28 (Operand.tmp 75) (Operand.tmp 72),type:=0,pos := "l07_match.go:62",after:=#[{on:=15,ground:=Ground.data},{on:=11,ground:=Ground.data},{on:=11,ground:=Ground.chain},{on:=13,ground:=Ground.textOnly Departure.appendInPlace},{on:=0,ground:=Ground.phase},{on:=1,ground:=Ground.phase},{on:=2,ground:=Ground.phase},{on:=3,ground:=Ground.phase},{on:=4,ground:=Ground.phase},{on:=5,ground:=Ground.phase},{on:=6,ground:=Ground.phase},{on:=7,ground:=Ground.phase},{on:=8,ground:=Ground.phase},{on:=9,ground:=Ground.phase},{on:=10,ground:=Ground.phase},{on:=11,ground:=Ground.phase},{on:=12,ground:=Ground.textOnly Departure.appendInPlace},{on:=13,ground:=Ground.textOnly Departure.appendInPlace}],guard:=none}) rfl (fun KK hK=>?_) AllReadyH.nil))
         ·go_simp
          refine hK.out _ _ HS3.out.2.1 (fun _=>?_)
          clear hK KK
          try simp only [pLq]
          refine wpAnyH_ready (rs:=[16]) (by kernel_rfl) (by simp) ?_
          refine AllReadyH.cons (o:={dst:=none,op:=Op.store 28 (Operand.tmp 75) (Operand.tmp 72),type:=0,pos := "l07_match.go:62",after:=#[{on:=15,ground:=Ground.data},{on:=11,ground:=Ground.data},{on:=11,ground:=Ground.chain},{on:=13,ground:=Ground.textOnly Departure.appendInPlace},{on:=0,ground:=Ground.phase},{on:=1,ground:=Ground.phase},{on:=2,ground:=Ground.phase},{on:=3,ground:=Ground.phase},{on:=4,ground:=Ground.phase},{on:=5,ground:=Ground.phase},{on:=6,ground:=Ground.phase},{on:=7,ground:=Ground.phase},{on:=8,ground:=Ground.phase},{on:=9,ground:=Ground.phase},{on:=10,ground:=Ground.phase},{on:=11,ground:=Ground.phase},{on:=12,ground:=Ground.textOnly Departure.appendInPlace},{on:=13,ground:=Ground.textOnly Departure.appendInPlace}],guard:=none}) rfl (fun KK hK=>?_) AllReadyH.nil
          go_simp
          refine hK.out _ _ HS3.out.2.2.2.1 (fun _=>?_)
          clear hK KK
          try simp only [pLq]
          refine wpAnyH_done (by kernel_rfl) ?_ _
          have HX:=jaa (HEND3.out _ rfl)
          clear HEND3 HE9 HS3 hu0 hu1 hu2 hu3 hu4 hu5 hu6 hu7 hu8 p3 p3f hlv z0 z1 z2 z3 z4 z5 z6 z7 z8 xa sa hxc HS0
          go_wp2_with fail
          go_roundw
          case rel=>first|exact ⟨i+1,by go_num,by omega,HX.out⟩|((repeat apply Exists.intro);exact ⟨⟨i+1,by go_num,by omega,HX.out⟩,rfl⟩)
          case measure=>simp [intOf];omega
         ·go_simp
          refine hK.out _ _ HS3.out.2.2.1 (fun _=>?_)
          clear hK KK
          try simp only [pLq]
          refine wpAnyH_ready (rs:=[13]) (by kernel_rfl) (by simp) ?_
          refine AllReadyH.cons (o:={dst:=none,op:=Op.store 42 (Operand.tmp 73) (Operand.tmp 69),type:=0,pos := "l07_match.go:62",after:=#[{on:=12,ground:=Ground.data},{on:=8,ground:=Ground.data},{on:=11,ground:=Ground.chain},{on:=0,ground:=Ground.phase},{on:=1,ground:=Ground.phase},{on:=2,ground:=Ground.phase},{on:=3,ground:=Ground.phase},{on:=4,ground:=Ground.phase},{on:=5,ground:=Ground.phase},{on:=6,ground:=Ground.phase},{on:=7,ground:=Ground.phase},{on:=8,ground:=Ground.phase},{on:=9,ground:=Ground.phase},{on:=10,ground:=Ground.phase},{on:=11,ground:=Ground.phase},{on:=16,ground:=Ground.gcOnly Departure.appendInPlace}],guard:=none}) rfl (fun KK hK=>?_) AllReadyH.nil
          go_simp
          refine hK.out _ _ HS3.out.2.2.2.2 (fun _=>?_)
          clear hK KK
          try simp only [pLq]
          refine wpAnyH_done (by kernel_rfl) ?_ _
          have HX:=jaa (HEND3.out _ HE9.out)
          clear HEND3 HE9 HS3 hu0 hu1 hu2 hu3 hu4 hu5 hu6 hu7 hu8 p3 p3f hlv z0 z1 z2 z3 z4 z5 z6 z7 z8 xa sa hxc HS0
          go_wp2_with fail
          go_roundw
          case rel=>first|exact ⟨i+1,by go_num,by omega,HX.out⟩|((repeat apply Exists.intro);exact ⟨⟨i+1,by go_num,by omega,HX.out⟩,rfl⟩)
          case measure=>simp [intOf];omega
       case neg =>
        have hie:i=ns.length:=by omega
        have HN2:Hid ((∀ t,t<k+1→(f t).isSome=true)∧(∃ gv ll SSs,ER wr NB (.slice (some ⟨g0,0,none⟩) ns.length cv) ns (jbR f (k+1)) gv ll SSs)∧Below NB w2 wr):=by
         refine ⟨fun t ht=>?_,⟨gw,lw,SW,?_⟩,HI.out.bel⟩
         ·rcases Nat.lt_or_ge t k with h1|h1
          ·exact HE.out.2.1 t h1
          ·have:t=k:=by omega
           rw [this,HL.out.2.2.1];rfl
         ·have h1:=HI.out.er
          rw [hie] at h1
          exact h1.congr (fun j hj=>jnm HL.out.2.2.1 HLN.out hj)
        clear hie
        go_wp2_with fail
        go_roundw
        case rel=>exact ⟨k+1,by go_num,by omega,HN2.out⟩
        case measure=>simp [intOf];omega
     ·have HB:Hid (m=none):=by
       show _=_
       rw [HM.out]
       unfold jcW
       rw [if_neg]
       intro h
       have h1:=allX_true.1 h k hk'
       rw [hml] at h1
       cases h1
      clear hml HCS
      go_wp2_with fail
      go_ret2
      exact HBAD.out _ _ _ HS1 HE1.out.row (jpG HE1.out) HB.out
    case neg =>
     have hke:k=n:=by omega
     have HB:Hid (m=some (colG ns f n)):=by
      show _=_
      rw [HM.out]
      unfold jcW
      rw [if_pos (allX_true.2 (fun t ht=>HE.out.2.1 t (by omega)))]
     have HGN:Hid (GN wr NB (.slice (some ⟨g0,0,none⟩) ns.length cv) (colG ns f n)):=by
      have h1:=HE.out.1
      rw [hke] at h1
      exact jpF h1 HSM.out
     clear hke
     go_wp2_with fail
     go_ret2
     exact HEND.out _ _ HE.out.2.2 HGN.out HB.out
end Go.Proofs.YtjmlfacbcfbhdaaGreatDoor
