/- spec.l8Turn: the Gots of one turn, ahead of the others. Condition: at most 2^20 of the template, and of the Gots. -/
import Derived.Test.YtjmlfacbcfbhdaaGreatDoorYA
import Derived.Test.YtjmlfacbcfbhdaaGreatDoorY22
import Derived.Test.YtjmlfacbcfbhdaaGreatDoorY25
set_option maxRecDepth 100000
set_option maxHeartbeats 8000000
namespace Go.Proofs.YtjmlfacbcfbhdaaGreatDoor
open Go.ChangeShapes Go.WideShapes Go.ChangeAt Go.RowKit
theorem jhq (w:World) (o1 o2:Obj):∃ W,(w.alloc o1).alloc o2=W∧W.heap[w.heap.size]? = some o1∧W.heap[w.heap.size+1]? = some o2∧W.heap.size=w.heap.size+2∧Below w.heap.size w W:=by
 have a:∀ (w:World) (o:Obj) (k:Nat),(w.alloc o).heap[k]? = if k=w.heap.size then some o else w.heap[k]? := fun w o k=>Array.getElem?_push
 refine ⟨_,rfl,?_,?_,by simp,((brf _ w).alloc (nlr _) _).alloc (by simp) _⟩
 all_goals
  simp only [a,World.size_alloc]
  repeat rw [if_neg (by omega)]
  simp
def GRd (w0 w:World) (B:Nat) (v:Value) (L:List G):Prop:=∃ l:List GR,w.ownsRow B 42 9 v L.length (jak l)∧l.length=L.length∧∀ i,i<L.length→∃ a b c,l[i]? = some ⟨L.getD i .no,a,b,c⟩∧GAt w0 (L.getD i .no) a b c
def GsV (w0 w:World) (Q:Nat) (L:List G) (v:Value):Prop:=∃ (p:Option Addr) (cap:Nat),v=.slice p L.length cap∧(p=none→cap=0)∧L.length≤cap∧cap≤maxLen ∧
  ∀ i,i<L.length→∃ b o a b' c,p=some ⟨b,o,none⟩∧b≠Q∧Head9 w b (o+i*9) (L.getD i .no) a b' c∧GAt w0 (L.getD i .no) a b' c
theorem GsV.at {w0 w:World} {Q:Nat} {L:List G} {v:Value} (h:GsV w0 w Q L v) (hb:Below w0.heap.size w0 w):GsAt w L.length (fun i=>L.getD i .no) v:=by
 obtain ⟨p,cap,rfl,h0,h1,h2,h3⟩:=h
 refine ⟨p,cap,rfl,h0,h1,h2,fun i hi=>?_⟩
 obtain ⟨b,o,a,b',c,e,_,hd,hg⟩:=h3 i hi
 exact ⟨b,o,a,b',c,e,hd,hg.below hb⟩
theorem GsV.shape {w0 w:World} {Q:Nat} {L:List G} {v:Value} (h:GsV w0 w Q L v):∃ p cap,v=.slice p L.length cap:=by
 obtain ⟨p,cap,e,_⟩:=h
 exact ⟨p,cap,e⟩
theorem GsV.kept {w0 w wx:World} {Q:Nat} {L:List G} {v:Value} (h:GsV w0 w Q L v) (hk:∀ a u,a.block≠Q→w.cell? a=some u→wx.cell? a=some u):GsV w0 wx Q L v:=by
 obtain ⟨p,cap,rfl,h0,h1,h2,h3⟩:=h
 refine ⟨p,cap,rfl,h0,h1,h2,fun i hi=>?_⟩
 obtain ⟨b,o,a,b',c,e,hq,⟨c0,c1,c2,c3,c4,c5,c6,c7,c8⟩,hg⟩:=h3 i hi
 exact ⟨b,o,a,b',c,e,hq,⟨hk _ _ hq c0,hk _ _ hq c1,hk _ _ hq c2,hk _ _ hq c3,hk _ _ hq c4,hk _ _ hq c5,hk _ _ hq c6,hk _ _ hq c7,hk _ _ hq c8⟩,hg⟩
theorem GsV.but {w0 w wx:World} {Q:Nat} {L:List G} {v:Value} (h:GsV w0 w Q L v) (hb:But (fun k=>k=Q) w wx):GsV w0 wx Q L v :=
 h.kept fun a u hq hu=>(hb.cell (wbl w _ hu) (by simpa using hq)).trans hu
theorem GsV.of {w:World} {Q:Nat} {L:List G} {v:Value} (h:GsAt w L.length (fun i=>L.getD i .no) v) (hQ:w.heap.size≤Q):GsV w w Q L v:=by
 obtain ⟨p,cap,rfl,h0,h1,h2,h3⟩:=h
 refine ⟨p,cap,rfl,h0,h1,h2,fun i hi=>?_⟩
 obtain ⟨b,o,a,b',c,e,hd,hg⟩:=h3 i hi
 have hl:=wbl w _ hd.1
 exact ⟨b,o,a,b',c,e,by simp only at hl;omega,hd,hg⟩
theorem GRd.gv {w0 w:World} {B Q:Nat} {v:Value} {L:List G} (h:GRd w0 w B v L) (hQ:Q<B) (hv:v.ownBlock≠none):GsV w0 w Q L v:=by
 obtain ⟨l,h1,h2,h3⟩:=h
 rcases h1.2 with ⟨rfl,_⟩|⟨g,cap,cur,rfl,hbg,hg,hnc,hcm,hcs,htake⟩
 ·exact absurd rfl hv
 ·refine ⟨some ⟨g,0,none⟩,cap,rfl,(by intro h;cases h),hnc,hcm,fun i hi=>?_⟩
  obtain ⟨a,b,c,k1,k2⟩:=h3 i hi
  have h9:=jjz h1 hi k1
  rw [show i*9=0+i*9 by omega] at h9
  exact ⟨g,0,a,b,c,rfl,by omega,h9,k2⟩
theorem GsV.rows {w0 w:World} {Q:Nat} {L:List G} {v:Value} (h:GsV w0 w Q L v):∃ (p:Option Addr) (cap:Nat) (l:List GR),v=.slice p L.length cap∧(p=none→L.length=0∧cap=0)∧l.length=L.length∧(∀ i,i<L.length→∃ a b c,l[i]? = some ⟨L.getD i .no,a,b,c⟩∧GAt w0 (L.getD i .no) a b c)∧(∀ ad,p=some ad→∀ j u,(jak l)[j]? = some u→w.cell? (ad.add j)=some u)∧∀ u∈jak l,u.oneCell'=true:=by
 obtain ⟨p,cap,rfl,h0,h1,h2,h3⟩:=h
 have hex:∀ i,∃ q:GR,i<L.length→q.g=L.getD i .no∧GAt w0 (L.getD i .no) q.sv q.kv q.gv∧∃ b o,p=some ⟨b,o,none⟩∧Head9 w b (o+i*9) (L.getD i .no) q.sv q.kv q.gv:=fun i=>by
  by_cases hi:i<L.length
  ·obtain ⟨b,o,a,b',c,e,_,hd,hg⟩:=h3 i hi
   exact ⟨⟨L.getD i .no,a,b',c⟩,fun _=>⟨rfl,hg,b,o,e,hd⟩⟩
  ·exact ⟨⟨.no,.slice none 0 0,.slice none 0 0,.slice none 0 0⟩,fun h=>absurd h hi⟩
 have hch:=fun i=>Classical.choose_spec (hex i)
 generalize hqf:(fun i=>Classical.choose (hex i))=qf at *
 have hq:∀ i,i<L.length→(qf i).g=L.getD i .no∧GAt w0 (L.getD i .no) (qf i).sv (qf i).kv (qf i).gv∧∃ b o,p=some ⟨b,o,none⟩∧Head9 w b (o+i*9) (L.getD i .no) (qf i).sv (qf i).kv (qf i).gv:=fun i hi=>by
  rw [←hqf]
  exact hch i hi
 have hget:∀ i,i<L.length→((List.range L.length).map qf)[i]? = some (qf i):=fun i hi=>by rw [List.getElem?_map,List.getElem?_range hi,Option.map_some]
 have hqi:∀ i,i<L.length→qf i=⟨L.getD i .no,(qf i).sv,(qf i).kv,(qf i).gv⟩:=fun i hi=>by
  have:=(hq i hi).1
  cases hx:qf i with
  | mk g sv kv gv=>rw [hx] at this;simp only at this;rw [this]
 refine ⟨p,cap,(List.range L.length).map qf,rfl,fun hp=>?_,by simp,fun i hi=>⟨_,_,_,by rw [hget i hi];exact congrArg some (hqi i hi),(hq i hi).2.1⟩,fun ad had j u hj=>?_,fun u hu=>?_⟩
 ·refine ⟨?_,h0 hp⟩
  rcases Nat.eq_zero_or_pos L.length with hz|hz
  ·exact hz
  ·obtain ⟨_,_,b,o,e,_⟩:=hq 0 hz
   rw [hp] at e
   cases e
 ·have hjl:j<L.length*9:=by
   have:=(List.getElem?_eq_some_iff.1 hj).1
   rw [jbq] at this
   simpa using this
  obtain ⟨i,r,hr,rfl⟩:∃ i r,r<9∧j=i*9+r:=⟨j / 9,j % 9,Nat.mod_lt _ (by omega),by omega⟩
  have hi:i<L.length:=by omega
  obtain ⟨e0,_,b,o,e,hd⟩:=hq i hi
  rw [had] at e
  injection e with e
  subst e
  have h9:=jgZ ((List.range L.length).map qf) [] i _ (hget i hi) r hr
  rw [lan,hj] at h9
  obtain ⟨c0,c1,c2,c3,c4,c5,c6,c7,c8⟩:=hd
  have hadd:∀ k,(Addr.add ⟨b,o,none⟩ k:Addr)=⟨b,o+k,none⟩:=fun k=>by simp [Addr.add]
  rw [hadd,←Nat.add_assoc,h9]
  simp only [jba,e0]
  rcases r with _|_|_|_|_|_|_|_|_|r
  ·rw [Nat.add_zero,c0];rfl
  ·rw [c1];rfl
  ·rw [c2];rfl
  ·rw [c3];rfl
  ·rw [c4];rfl
  ·rw [c5];rfl
  ·rw [c6];rfl
  ·rw [c7];rfl
  ·rw [c8];rfl
  ·omega
 ·obtain ⟨q,hqm,huq⟩:=List.mem_flatMap.1 hu
  obtain ⟨i,hi,rfl⟩:=List.mem_map.1 hqm
  have hi':i<L.length:=by simpa using hi
  obtain ⟨⟨p1,c1,e1⟩,⟨p2,c2,e2⟩,⟨p3,c3,e3⟩⟩:=(hq i hi').2.1.shape
  exact jej _ (by rw [e1];rfl) (by rw [e2];rfl) (by rw [e3];rfl) u huq
theorem jgD (L:List G) (t:Nat) (a:List ByteArray) (nm:ByteArray):jaA L t (a++[nm])=jaA L t a++((jag L nm).bind fun g=>if 0<g.deep∧t<g.len then some ((g.sm t).named nm) else none).toList:=by
 unfold jaA
 rw [List.filterMap_append]
 cases h:((jag L nm).bind fun g=>if 0<g.deep∧t<g.len then some ((g.sm t).named nm) else none) <;> simp [h]
theorem jfZ (L:List G) (t:Nat) (a:List ByteArray):(jaA L t a).length≤a.length:=List.length_filterMap_le _ _
theorem jn6 {w:World} {g:G} {sv kv v:Value} {nm:ByteArray} (h:GAt w g sv kv v) (hn:nm.size≤maxLen):GAt w (g.named nm) sv kv v:=by
 cases g with
 | no=>exact h.elim
 | mk name deep one len sm =>
  unfold GAt at h
  show GAt w (.mk nm deep one len sm) sv kv v
  unfold GAt
  exact ⟨hn,h.2⟩
theorem jiN (g:G) (nm:ByteArray) (h:g≠.no):(g.named nm).name=nm∧(g.named nm).deep=g.deep∧(g.named nm).one=g.one∧(g.named nm).len=g.len:=by
 cases g with
 | no=>exact absurd rfl h
 | mk name deep one len sm=>exact ⟨rfl,rfl,rfl,rfl⟩
theorem GRd.push {w0 w2:World} {B:Nat} {v':Value} {L:List G} {l:List GR} {g:G} {a b c:Value} (hl:l.length=L.length) (he:∀ i,i<L.length→∃ a b c,l[i]? = some ⟨L.getD i .no,a,b,c⟩∧GAt w0 (L.getD i .no) a b c) (hg:GAt w0 g a b c) (r1:w2.ownsRow B 42 9 v' (L.length+1) (jak l++jba ⟨g,a,b,c⟩)):GRd w0 w2 B v' (L++[g]):=by
 refine ⟨l++[⟨g,a,b,c⟩],by rw [lla,jdh];exact r1,by simp [hl],fun i hi=>?_⟩
 rw [lla] at hi
 rcases Nat.lt_or_ge i L.length with h1|h1
 ·obtain ⟨a',b',c',k1,k2⟩:=he i h1
  have e:(L++[g]).getD i .no=L.getD i .no:=by simp [List.getD_eq_getElem?_getD,List.getElem?_append_left h1]
  rw [e]
  exact ⟨a',b',c',by rw [List.getElem?_append_left (by omega)];exact k1,k2⟩
 ·have hie:i=L.length:=by simp at hi;omega
  subst hie
  have e:(L++[g]).getD L.length .no=g:=by simp [List.getD_eq_getElem?_getD]
  rw [e]
  exact ⟨a,b,c,by rw [List.getElem?_append_right (by omega),hl];simp,hg⟩
theorem jiP (t:X):∀ (w:World) (su u:Value) (a:List ByteArray×Bool),t.At 0 w su u→∀ y∈(jaz t a).1,y∈a.1∨y.size≤maxLen:=by
 induction t with
 | no=>intro w su u a h;exact h.elim
 | mk op b n s set len kid ih =>
  intro w su u a h y hy
  rw [jc4] at hy
  cases hn:jbl op s
  ·rw [hn] at hy
   simp only [Bool.false_eq_true,if_false] at hy
   obtain ⟨_,_,_,_,hat⟩:=h.xs.at
   have hk:∀ k,k≤len→∀ y∈(ja4 (fun i a=>jaz (kid i) a) k a).1,y∈a.1∨y.size≤maxLen:=by
    intro k
    induction k with
    | zero=>intro _ y hy;exact .inl hy
    | succ k ihk =>
     intro hle y hy
     simp only [ja4] at hy
     obtain ⟨_,_,sv,uv,_,_,hin⟩:=hat k hle
     rcases ih k w sv uv _ hin y hy with h1|h1
     ·exact ihk (by omega) y h1
     ·exact .inr h1
   exact hk len (nlr _) y hy
  ·rw [hn] at hy
   simp only [if_true] at hy
   unfold addN at hy
   split at hy
   ·exact .inl hy
   ·rcases lma.1 hy with h1|h1
    ·exact .inl h1
    ·simp only [List.mem_singleton] at h1
     rw [h1]
     exact .inr h.size
theorem jiO {t:X} {w:World} {su u:Value} (h:t.At 0 w su u):∀ nm∈jam t,nm.size≤maxLen:=fun nm hm=>by
 rcases jiP t w su u ([],false) h nm hm with h1|h1
 ·simp at h1
 ·exact h1
theorem jm7 (w0:World) (Q:Nat) (t:X) (L:List G) (turn:Nat) (w:World) (su u v:Value) (ht:t.At 0 w su u) (htw:t.weight≤1048576) (hb0:Below w0.heap.size w0 w) (hQ:Q<w.heap.size) (hv:GsV w0 w Q L v) (hL:L.length≤100000000000) (hnz:∀ nm∈jam t,nm.size≤maxLen) (hnl:(jam t).length≤1048577) :
  Calls Tryz.prog 77 #[.agg #[.int .i64 t.op,.int .i64 t.at_,.int .i64 t.n,.string t.s,su,u],v,.int .i64 turn] w fun e w'=>∃ v',e=.returned v'∧Below w.heap.size w w'∧GsV w0 w' Q (jaA L turn (jam t)++L) v':=by
 obtain ⟨pu,cu,e1⟩:=ht.xs.shape
 obtain ⟨ps,cs,e2⟩:=ht.sets.shape
 have HVV:Hid (GsV w0 w Q L v):=hv
 have HV:Hid (GsAt w L.length (fun i=>L.getD i .no) v):=hv.at hb0
 have HB0:Hid (Below w0.heap.size w0 w∧Q<w.heap.size):=⟨hb0,hQ⟩
 clear hb0 hQ
 obtain ⟨pl,cl,e3,_,_,hcm,hat⟩:=hv
 subst e1 e2 e3
 have HAT:Hid (∀ i,i<L.length→∃ b o a b' c,pl=some ⟨b,o,none⟩∧b≠Q∧Head9 w b (o+i*9) (L.getD i .no) a b' c∧GAt w0 (L.getD i .no) a b' c):=hat
 obtain ⟨ns,hns⟩:∃ ns,ns=jam t:=⟨_,rfl⟩
 rw [←hns] at hnz hnl ⊢
 have HNZ:Hid (∀ nm∈ns,nm.size≤maxLen):=hnz
 obtain ⟨M,hM⟩:∃ M,M=jaA L turn ns++L:=⟨_,rfl⟩
 rw [←hM]
 have HM:=jaa hM
 clear hM
 obtain ⟨W,hW,a0,a1,asz,ab⟩:=jhq w (.cells #[.int .i64 t.op,.int .i64 t.at_,.int .i64 t.n,.string t.s,.slice ps t.set.length cs,.slice pu t.len cu] 27) (.cells #[] 42)
 obtain ⟨N,hN⟩:∃ N,N=w.heap.size:=⟨_,rfl⟩
 rw [←hN] at a0 a1 asz ab
 have hbw:Below w.heap.size w W:=by rw [←hN];exact ab
 have HCN:=jaa (jcg t W _ _ (ht.below hbw) htw)
 have HNM:Hid ((jaz t ([],false)).1=ns):=hns.symm
 have HW0:Hid (Below w.heap.size w W∧W.heap.size=N+2∧W.heap[N+1]? = some (.cells #[] 42)∧N=w.heap.size):=⟨hbw,asz,a1,hN⟩
 have h6:Six W N t.op t.at_ t.n t.s (.slice ps t.set.length cs) (.slice pu t.len cu) 27:=a0
 obtain ⟨x0,x1,x2,x3,x4,x5⟩:=h6.cells
 have HWW:=jaa hW
 have HN:=jaa hN
 obtain ⟨i0,hi0,hz0,hz1,hz2⟩:=info_parts jdQ
 clear ht htw hat hns hnz hbw hW hN a0 a1 asz ab h6
 go_enter Tryz.func77,Tryz.ntmps77
 go_upto_region 2 with fail
 rw [HWW.out,←HN.out]
 go_wp2_with fail
 refine HCN.out.mono ?_
 rintro e w2 ⟨nv,rfl,hb2,hown⟩
 rw [HNM.out] at hown
 obtain ⟨an,cn,hnv,hcn⟩:=hown.rd
 subst hnv
 have HNC:Hid (∀ j,j<ns.length→∃ b off,an=some ⟨b,off,none⟩∧N+2≤b∧b<w2.heap.size∧w2.cell? ⟨b,off+j,none⟩=some (.string (ns.getD j ⟨#[]⟩))):=fun j hj=>by
  obtain ⟨b,off,e1,e2⟩:=hcn j hj
  refine ⟨b,off,e1,?_,wbl w2 _ e2,e2⟩
  rcases hown.2 with ⟨e3,_⟩|⟨g,cap,cur,e3,hbg,_⟩
  ·injection e3 with e3;rw [e3] at e1;cases e1
  ·injection e3 with e3
   rw [e3] at e1
   injection e1 with e1
   injection e1 with e1
   have:=HW0.out.2.1
   omega
 have HB2:Hid (Below w.heap.size w w2∧w2.heap[N+1]? = some (.cells #[] 42)∧N+2≤w2.heap.size):=⟨HW0.out.1.trans (hb2.mono HW0.out.1.size),(hb2.block _ (by have:=HW0.out.2.1;omega)).trans HW0.out.2.2.1,by have:=HW0.out.2.1;have:=hb2.size;omega⟩
 have HG0:Hid (GRd w0 w2 (N+1) (.slice (some ⟨N+1,0,none⟩) 0 0) []):=by
  obtain ⟨l,SS,h1,_⟩:=GN.empty HB2.out.2.1 (nlr _)
  exact ⟨l,h1.row,h1.len,fun i hi=>absurd hi (Nat.not_lt_zero _)⟩
 clear hcn hown hb2 HCN HNM HWW x0 x1 x2 x3 x4 x5
 go_wp2_with fail
 go_loopw [7,9] (fun r i wr=>∃ (k:Nat) (v0:Value),v0=r∧i=.int .i64 k∧k≤ns.length∧GRd w0 wr (N+1) v0 (jaA L turn (ns.take k))∧(∃ gb,v0.ownBlock=some gb∧(gb=N+1∨w2.heap.size≤gb))∧But (fun k=>k=N+1) w2 wr) (fun _ i _=>ns.length-(intOf i).toNat)
 case atStart=>exact ⟨0,_,rfl,by first|rfl|(simp),nzl _,by simp only [List.take_zero];exact HG0.out,⟨N+1,rfl,.inl rfl⟩,But.refl _ _⟩
 case round =>
  obtain ⟨k,v0,rfl,rfl,hk,hgr,hvb,hbut⟩:=hrel
  have HR:Hid (GRd w0 wr (N+1) v0 (jaA L turn (ns.take k))∧(∃ gb,v0.ownBlock=some gb∧(gb=N+1∨w2.heap.size≤gb))∧But (fun k=>k=N+1) w2 wr):=⟨hgr,hvb,hbut⟩
  have HBW:Hid (Below w.heap.size w wr):=HB2.out.1.trans (hbut.below HB2.out.1.size (fun k hk=>by have:=HW0.out.2.2.2;omega))
  clear hgr hvb hbut
  by_cases hlt:(k:Int)<ns.length
  ·have hk':k<ns.length:=by omega
   obtain ⟨bn,on,han,hbn1,hbn2,hcl⟩:=HNC.out k hk'
   subst han
   have n0:wr.cell? ⟨bn,on+k,none⟩=some (.string (ns.getD k ⟨#[]⟩)):=(HR.out.2.2.cell (p:=⟨bn,on+k,none⟩) hbn2 (by simp only;omega)).trans hcl
   have HTK:Hid (ns.take (k+1)=ns.take k++[ns.getD k ⟨#[]⟩]):=by
    show _=_
    rw [List.take_succ_eq_append_getElem hk',lgd,lgg hk',Option.getD_some]
   have HZ:Hid ((ns.getD k ⟨#[]⟩).size≤maxLen):=HNZ.out _ (by
    rw [lgd,lgg hk',Option.getD_some]
    exact List.getElem_mem _)
   clear hcl hbn1 hbn2
   generalize ns.getD k ⟨#[]⟩=nm at *
   have HCG:=jaa (jhi L nm wr _ (HV.out.below HBW.out))
   go_wp2_with fail
   refine HCG.out.mono ?_
   rintro e w3 ⟨k',rfl,hf,hb3⟩
   have HR3:Hid (GRd w0 w3 (N+1) v0 (jaA L turn (ns.take k))∧(∃ gb,v0.ownBlock=some gb∧(gb=N+1∨w2.heap.size≤gb))∧But (fun k=>k=N+1) w2 w3∧Below w.heap.size w w3):=by
    obtain ⟨⟨l,h1,h2,h3⟩,h4,h5⟩:=HR.out
    exact ⟨⟨l,jaY h1 hb3,h2,h3⟩,h4,h5.step (But.of_all hb3) (fun j hj h=>h),HBW.out.trans (hb3.mono HBW.out.size)⟩
   have n3:=jat hb3 _ _ n0
   clear hb3 n0 HCG HBW HR
   have HSK:Hid (((jag L nm).bind fun g=>if 0<g.deep∧turn<g.len then some ((g.sm turn).named nm) else none)=none→GRd w0 w3 (N+1) v0 (jaA L turn (ns.take (k+1)))):=fun h=>by
    rw [HTK.out,jgD,h]
    simpa using HR3.out.1
   rcases hf with ⟨i,hi,rfl,-,hfg⟩|⟨rfl,hfg⟩
   ·obtain ⟨b,ob,a1,b1,c1,hpl,-,hd,hga⟩:=HAT.out i hi
    subst hpl
    obtain ⟨_,_,⟨p3,q3,e3⟩⟩:=hga.shape
    subst e3
    obtain ⟨d0,d1,d2,d3,d4,d5,d6,d7,d8⟩:=hd.below HR3.out.2.2.2
    have HGA:=jaa hga
    have HFG:=jaa hfg
    clear hd hga hfg
    generalize L.getD i .no=g at *
    by_cases hdp:0<g.deep
    ·by_cases htl:(turn:Int)<g.len
     ·have htl':turn<g.len:=by omega
      obtain ⟨_,_,hgs⟩:=HGA.out.parts
      obtain ⟨p9,c9,e9,_,_,hq9,h9⟩:=hgs
      injection e9 with e91 _ e92
      subst e91 e92
      obtain ⟨b9,o9,sa,sb,sc,hp9,hd9,hg9⟩:=h9 turn htl'
      subst hp9
      obtain ⟨y,hy⟩:∃ y,y=g.sm turn:=⟨_,rfl⟩
      rw [←hy] at hd9 hg9
      have HTN:Hid (jaA L turn (ns.take (k+1))=jaA L turn (ns.take k)++[y.named nm]):=by
       show _=_
       rw [HTK.out,jgD,HFG.out]
       simp only [Option.bind_some]
       rw [if_pos ⟨hdp,htl'⟩,hy]
       rfl
      obtain ⟨⟨pa,ca,ea⟩,⟨pb,cb,eb⟩,⟨pc,cc,ec⟩⟩:=hg9.shape
      subst ea eb ec
      obtain ⟨f0,f1,f2,f3,f4,f5,f6,f7,f8⟩:=hd9.below (HB0.out.1.trans (HR3.out.2.2.2.mono HB0.out.1.size))
      have HG9:=jaa hg9
      have n3a:∀ o,(w3.alloc o).cell? ⟨bn,on+k,none⟩=some (.string nm):=fun o=>jat (newx w3 o) _ _ n3
      have hgl:(g.len:Int)≤9223372036854775807:=by unfold maxLen at hq9;omega
      obtain ⟨lr,hr1,hr2,hr3⟩:=HR3.out.1
      have hAl:=jfZ L turn (ns.take k)
      rw [List.length_take] at hAl
      have HRD:Hid (∀ o1 o2,((w3.alloc o1).alloc o2).ownsRow (N+1) 42 9 v0 (jaA L turn (ns.take k)).length (jak lr)):=fun o1 o2=>World.ownsRow.alloc (World.ownsRow.alloc hr1 _) _
      have HNEW:Hid (∀ o1 o2,((w3.alloc o1).alloc o2).heap[w3.heap.size+1]? = some o2):=fun o1 o2=>by
       have h1:=han (w3.alloc o1) o2
       rw [World.size_alloc] at h1
       exact h1
      have HBB:Hid (∀ o1 o2,Below w3.heap.size w3 ((w3.alloc o1).alloc o2)):=fun o1 o2=>((brf _ w3).alloc (nlr _) o1).alloc (by simp) o2
      have HVB:Hid (v0.ownBlock≠none):=by
       obtain ⟨gb,h1,_⟩:=HR3.out.2.1
       show _≠_
       rw [h1]
       simp
      have HSZ:Hid (N+1≤w3.heap.size):=by have h1:=HR3.out.2.2.1.size;have h2:=HB2.out.2.2;show _≤_;omega
      have HLR:Hid (lr.length=(jaA L turn (ns.take k)).length∧∀ i,i<(jaA L turn (ns.take k)).length→∃ a b c,lr[i]? = some ⟨(jaA L turn (ns.take k)).getD i .no,a,b,c⟩∧GAt w0 ((jaA L turn (ns.take k)).getD i .no) a b c):=⟨hr2,hr3⟩
      clear hr1 hr2 hr3 hd9 hg9 h9 hy hq9 HSK HTK
      generalize jaA L turn (ns.take k)=A at *
      go_wp2_with (at_builtin;refine jas _ rfl (.tmp 60) (.tmp 62) 28 rfl (N+1) 42 i0 (.agg #[.string ⟨#[]⟩,.int .i64 0,.int .i64 0,.int .i64 0,.int .i64 0,.string ⟨#[]⟩,.slice none 0 0,.slice none 0 0,.slice none 0 0]) 9 136 Tryz.underlying28 hi0 hz0 hz1 hz2 rfl (by decide) v0 A.length (jak lr) rfl (HRD.out _ _) HVB.out (some ⟨w3.heap.size+1,0,none⟩) 1 1 [.string nm,.int .i64 y.deep,.int .i64 y.one.op,.int .i64 y.one.at_,.int .i64 y.one.n,.string y.one.s,.slice pa y.one.set.length ca,.slice pb y.one.len cb,.slice pc y.len cc] rfl rfl (by simp) (fun ad had=>by injection had with had;subst had;exact World.news_of_block (cs:=#[.string nm,.int .i64 y.deep,.int .i64 y.one.op,.int .i64 y.one.at_,.int .i64 y.one.n,.string y.one.s,.slice pa y.one.set.length ca,.slice pb y.one.len cb,.slice pc y.len cc]) (t:=42) (fr:=(0,0)) (HNEW.out _ _)) (by simp [Value.oneCell']) (by unfold maxLen;omega) (by omega) (by have h1:=HSZ.out;simp;omega) ?_;intro v' w5 hown5 hg5 hwh5)
      have HN2:Hid (GRd w0 w5 (N+1) v' (jaA L turn (ns.take (k+1)))∧(∃ gb,v'.ownBlock=some gb∧(gb=N+1∨w2.heap.size≤gb))∧But (fun k=>k=N+1) w2 w5):=by
       obtain ⟨gb,h1,h2⟩:=HR3.out.2.1
       have hsz3:=HR3.out.2.2.1.size
       refine ⟨?_,?_,?_⟩
       ·rw [HTN.out]
        obtain ⟨m0,m1,m2,m3⟩:=jiN y nm HG9.out.ne
        refine GRd.push (g:=y.named nm) HLR.out.1 HLR.out.2 (jn6 HG9.out HZ.out) ?_
        simp only [jba,m0,m1,m2]
        exact hown5.out
       ·rcases hwh5.out with h|h
        ·exact ⟨gb,h.trans h1,h2⟩
        ·exact ⟨_,h,.inr (by simp;omega)⟩
       ·refine (HR3.out.2.2.1.step (But.of_all (HBB.out _ _)) (fun j hj h=>h)).grown hg5.out (fun j hj=>?_)
        rw [h1] at hj
        injection hj with hj
        rcases h2 with h2|h2
        ·exact .inr (by omega)
        ·exact .inl (by omega)
      clear hown5 hg5 hwh5 f0 f1 f2 f3 f4 f5 f6 f7 f8 d0 d1 d2 d3 d4 d5 d6 d7 d8 n3 n3a HRD HNEW HBB
      go_wp2_with fail
      go_roundw
      case rel=>first|exact ⟨k+1,_,rfl,by go_num,by omega,HN2.out⟩|((repeat apply Exists.intro);exact ⟨⟨k+1,_,rfl,by go_num,by omega,HN2.out⟩,rfl⟩)
      case measure=>simp [intOf];omega
     ·have HS:=jaa (HSK.out (by rw [HFG.out];simp only [Option.bind_some];rw [if_neg (by omega)]))
      go_wp2_with fail
      go_roundw
      case rel=>first|exact ⟨k+1,_,rfl,by go_num,by omega,HS.out,HR3.out.2.1,HR3.out.2.2.1⟩|((repeat apply Exists.intro);exact ⟨⟨k+1,_,rfl,by go_num,by omega,HS.out,HR3.out.2.1,HR3.out.2.2.1⟩,rfl⟩)
      case measure=>simp [intOf];omega
    ·have HS:=jaa (HSK.out (by rw [HFG.out];simp only [Option.bind_some];rw [if_neg (by omega)]))
     go_wp2_with fail
     go_roundw
     case rel=>first|exact ⟨k+1,_,rfl,by go_num,by omega,HS.out,HR3.out.2.1,HR3.out.2.2.1⟩|((repeat apply Exists.intro);exact ⟨⟨k+1,_,rfl,by go_num,by omega,HS.out,HR3.out.2.1,HR3.out.2.2.1⟩,rfl⟩)
     case measure=>simp [intOf];omega
   ·have HS:=jaa (HSK.out (by rw [hfg];rfl))
    clear hfg
    go_wp2_with fail
    go_roundw
    case rel=>first|exact ⟨k+1,_,rfl,by go_num,by omega,HS.out,HR3.out.2.1,HR3.out.2.2.1⟩|((repeat apply Exists.intro);exact ⟨⟨k+1,_,rfl,by go_num,by omega,HS.out,HR3.out.2.1,HR3.out.2.2.1⟩,rfl⟩)
    case measure=>simp [intOf];omega
  ·have hke:k=ns.length:=by omega
   have HA:Hid (ns.take k=ns):=by show _=_;rw [hke,List.take_length]
   obtain ⟨lr,hr1,hr2,hr3⟩:=HR.out.1
   rw [HA.out] at hr1 hr2 hr3
   obtain ⟨p2,c2,l2,e2,hn2,hl2,hr4,hnw0,hone⟩:=HVV.out.rows
   injection e2 with e21 _ e22
   subst e21 e22
   have hnw:∀ ad,pl=some ad→∀ j u,(jak l2)[j]? = some u→wr.cell? (ad.add j)=some u:=fun ad had j u hu=>jat HBW.out _ _ (hnw0 ad had j u hu)
   clear hnw0
   have hAl:=jfZ L turn ns
   have HRW:Hid (wr.ownsRow (N+1) 42 9 v0 (jaA L turn ns).length (jak lr)):=hr1
   have HVB:Hid (v0.ownBlock≠none):=by
    obtain ⟨gb,h1,_⟩:=HR.out.2.1
    show _≠_
    rw [h1]
    simp
   have HN1:Hid ((pl=none→L.length=0∧cl=0)∧(∀ ad,pl=some ad→∀ j u,(jak l2)[j]? = some u→wr.cell? (ad.add j)=some u)∧(jak l2).length=L.length*9∧∀ u∈jak l2,u.oneCell'=true):=⟨hn2,hnw,by rw [jbq,hl2],hone⟩
   have HLL:Hid (lr.length=(jaA L turn ns).length∧l2.length=L.length∧(∀ i,i<(jaA L turn ns).length→∃ a b c,lr[i]? = some ⟨(jaA L turn ns).getD i .no,a,b,c⟩∧GAt w0 ((jaA L turn ns).getD i .no) a b c)∧∀ i,i<L.length→∃ a b c,l2[i]? = some ⟨L.getD i .no,a,b,c⟩∧GAt w0 (L.getD i .no) a b c):=⟨hr2,hl2,hr3,hr4⟩
   have HSZ:Hid (N+1≤wr.heap.size):=by have h1:=HR.out.2.2.size;have h2:=HB2.out.2.2;show _≤_;omega
   clear hr1 hr2 hr3 hn2 hl2 hr4 hnw hone
   obtain ⟨A,hA'⟩:∃ A,A=jaA L turn ns:=⟨_,rfl⟩
   rw [←hA'] at HRW HLL hAl
   have HA':=jaa hA'
   clear hA'
   go_wp2_with (at_builtin;refine jas _ rfl (.tmp 64) (.tmp 65) 28 rfl (N+1) 42 i0 (.agg #[.string ⟨#[]⟩,.int .i64 0,.int .i64 0,.int .i64 0,.int .i64 0,.string ⟨#[]⟩,.slice none 0 0,.slice none 0 0,.slice none 0 0]) 9 136 Tryz.underlying28 hi0 hz0 hz1 hz2 rfl (by decide) v0 A.length (jak lr) rfl HRW.out HVB.out pl L.length cl (jak l2) rfl HN1.out.2.2.1 HN1.out.1 HN1.out.2.1 HN1.out.2.2.2 (by unfold maxLen;omega) (by omega) HSZ.out ?_;intro v' w5 hown5 hg5 hwh5)
   have HF:Hid (Below w.heap.size w w5∧GsV w0 w5 Q (A++L) v'):=by
    have hb5:Below w.heap.size w w5:=by
     obtain ⟨gb,h1,h2⟩:=HR.out.2.1
     refine ⟨hg5.out.os.trans HBW.out.os,hg5.out.tape.trans HBW.out.tape,hg5.out.output.trans HBW.out.output,Nat.le_trans HBW.out.size hg5.out.size,fun j hj=>(hg5.out.block j (by have:=HBW.out.size;omega) (fun e=>?_)).trans (HBW.out.block j hj)⟩
     rw [h1] at e
     injection e with e
     have h3:=HW0.out.2.2.2
     have h4:=HB2.out.2.2
     omega
    refine ⟨hb5,GRd.gv (B:=N+1) ⟨lr++l2,by rw [lla,jb9];exact hown5.out,by simp [HLL.out.1,HLL.out.2.1],fun i hi=>?_⟩ (by have:=HB0.out.2;have:=HW0.out.2.2.2;omega) ?_⟩
    ·rw [lla] at hi
     rcases Nat.lt_or_ge i A.length with h0|h0
     ·obtain ⟨a',b',c',k1,k2⟩:=HLL.out.2.2.1 i h0
      have e:(A++L).getD i .no=A.getD i .no:=by simp [List.getD_eq_getElem?_getD,List.getElem?_append_left h0]
      rw [e]
      exact ⟨a',b',c',by rw [List.getElem?_append_left (by rw [HLL.out.1];omega)];exact k1,k2⟩
     ·obtain ⟨a',b',c',k1,k2⟩:=HLL.out.2.2.2 (i-A.length) (by omega)
      have e:(A++L).getD i .no=L.getD (i-A.length) .no:=by simp [List.getD_eq_getElem?_getD,List.getElem?_append_right h0]
      rw [e]
      exact ⟨a',b',c',by rw [List.getElem?_append_right (by rw [HLL.out.1];omega),HLL.out.1];exact k1,k2⟩
    ·rcases hwh5.out with h|h
     ·rw [h];exact HVB.out
     ·rw [h];simp
   clear hown5 hg5 hwh5
   rw [HA'.out,←HM.out] at HF
   go_wp2_with fail
   go_ret
   exact ⟨_,rfl,HF.out⟩
end Go.Proofs.YtjmlfacbcfbhdaaGreatDoor
