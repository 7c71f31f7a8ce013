/- impl.remade, of what is written to what is written. Condition: at most 2^20 nodes, each set of at most 2^22. -/
import Derived.Test.YtjmlfacbcfbhdaaGreatDoorYA
import Derived.Test.YtjmlfacbcfbhdaaGreatDoorY20
import Derived.Test.YtjmlfacbcfbhdaaGreatDoorY21
import Derived.Test.YtjmlfacbcfbhdaaGreatDoorY0
import Derived.Test.YtjmlfacbcfbhdaaGreatDoorY19
import Derived.Test.YtjmlfacbcfbhdaaGreatDoorY1
import Derived.Test.YtjmlfacbcfbhdaaGreatDoorRows
import Derived.Test.YtjmlfacbcfbhdaaGreatDoorY22
import Derived.Deep.RegionHeld
import Derived.OrdersIn
import Derived.Deep.AppendLies
import Derived.WalkKit
import Derived.ProofKit
import Derived.Deep.RegionLaw
import Derived.Deep.RegionWith
import Derived.Deep.LoopGhost
set_option maxRecDepth 100000
set_option maxHeartbeats 8000000
namespace Go.Proofs.YtjmlfacbcfbhdaaGreatDoor
open Go.RowKit
variable {P : Program} {ops : Array Oper} {Q : Exit → Act → World → Prop} {l n : Nat}
theorem jpx {o:Oper} {a:Act} {K K':Act→World→Prop} (hK:∀ a w,K a w→K' a w):∀ r:Result Next,o.upon P a K Q r→o.uponIn (Fence.wide.inRound l) n P a K' Q r:=by
 intro r h
 match r,h with
 | .ok (.value v) w',h=>exact hK _ _ h
 | .ok .skip w',h=>exact hK _ _ h
 | .ok (.defer d) w',h=>exact hK _ _ h
 | .ok (.enter f args) w',h =>
  refine ⟨fun hh=>(by simp [Fence.wide] at hh),CallsIn.inRound l (callsIn_wide.2 (h.mono ?_))⟩
  intro e w'' he
  match e,he with
  | .returned v,he=>exact hK _ _ he
  | .panicked c,he=>exact he
  | .outgrown,he=>exact he
 | .ok (.row row args) w',h =>
  refine ⟨fun hh=>(by simp [Fence.wide] at hh),fun c cs _=>?_⟩
  obtain ⟨v,w'',hr,hs⟩:=h c cs
  exact ⟨v,w'',hK _ _ hr,stepsIn_wide.2 hs⟩
 | .halt (.panic v) w',h=>exact h
theorem jpX {o:Oper} {a:Act} {w:World} {K K':Act→World→Prop} (hd:∀ c,o.op≠.defer c) (hK:∀ a w,K a w→K' a w) (h:o.wp P a w K Q):o.wpIn (Fence.wide.inRound l) n P a w K' Q:=by
 refine ⟨fun _ _=>trivial,?_⟩
 rw [Oper.semAt_eq _ _ _ hd]
 exact jpx hK _ h
theorem jjq (md:Region.Mode) (hd:∀ (i:Nat) (o:Oper),ops[i]? = some o→∀ c,o.op≠.defer c) (hQ:∀ a w,¬ Q .outgrown a w):∀ (fuel:Nat) (listed:Array Bool) (a:Act) (w:World),wpAny P md ops Q fuel listed a w→wpAnyIn (Fence.wide.inRound l) n P md ops Q fuel listed a w
 | 0,_,_,_,h=>h
 | fuel+1,listed,a,w,h=>by
  refine ⟨h.1,fun i hi=>?_⟩
  have h2:=h.2 i hi
  unfold wpOp at h2
  unfold wpOpIn
  cases ho:ops[i]? with
  | none=>rw [ho] at h2;exact jjq md hd hQ fuel _ _ _ h2
  | some o =>
   rw [ho] at h2
   simp only at h2 ⊢
   by_cases hw:Region.wanted o (yielded ops a.tmps)=true
   ·rw [if_pos hw] at h2 ⊢
    rcases h2 with h2|⟨_,a',w',h2⟩
    ·exact jpX (hd i o ho) (fun a w hk=>jjq md hd hQ fuel _ a w hk) h2
    ·exact absurd h2 (hQ a' w')
   ·rw [if_neg hw] at h2 ⊢
    exact ⟨fun _ _=>trivial,jjq md hd hQ fuel _ _ _ h2⟩
def jiR (ops:Array Oper):Bool:=ops.all fun o=>match o.op with | .defer _=>false|_=>true
theorem jhP (h:jiR ops=true):∀ (i:Nat) (o:Oper),ops[i]? = some o→∀ c,o.op≠.defer c:=by
 intro i o ho c hc
 unfold jiR at h
 rw [Array.all_eq_true] at h
 obtain ⟨hi,he⟩:=aes.1 ho
 have:=h i hi
 rw [he,hc] at this
 cases this
theorem jf4 {S:World→Prop} {id sz:Nat} {a:Act} {w:World} (hm:P.follows .mixedOrders=true) (hd:jiR ops=true) (hsz:ops.size=sz) (hQ:∀ a w,¬ Q .outgrown a w)
  (h:S w.drew→wpAnyH P .any ops Q S sz (Array.replicate sz false) a w.drew) (hS:S w.drew:=by trivial):(Code.region id ops true).wpIn (Fence.wide.inRound l) n P Q a w:=by
 subst hsz
 exact wpIn_region_any hm (jjq .any (jhP hd) hQ _ _ _ _ (wpAny_of_held _ _ _ _ (h hS)))
end Go.Proofs.YtjmlfacbcfbhdaaGreatDoor
namespace Go.Proofs.YtjmlfacbcfbhdaaGreatDoor
open Go.ChangeShapes Go.WideShapes Go.ChangeAt Go.RowKit
theorem jby (w:World) (b1 o1 b2 o2:Nat) (x y:Value) (h:b1≠b2):(w.setCell ⟨b1,o1,none⟩ x).setCell ⟨b2,o2,none⟩ y=(w.setCell ⟨b2,o2,none⟩ y).setCell ⟨b1,o1,none⟩ x:=by
 unfold World.setCell
 simp only
 congr 1
 apply Array.ext_getElem?
 intro i
 simp only [Array.getElem?_modify]
 by_cases h1:b1=i
 ·have h2:¬ b2=i:=by omega
  simp only [h1,h2,if_true,if_false]
 ·by_cases h2:b2=i
  ·simp only [h1,h2,if_true,if_false]
  ·simp only [h1,h2,if_false]
theorem jmM (w:World) (g p:Nat) (q:GR) (b o:Nat) (x:Value) (h:b≠g):put9 (w.setCell ⟨b,o,none⟩ x) g p q=(put9 w g p q).setCell ⟨b,o,none⟩ x:=by
 unfold put9
 rw [jby w b o g p x _ h,jby _ b o g (p+1) x _ h,jby _ b o g (p+2) x _ h,jby _ b o g (p+3) x _ h,jby _ b o g (p+4) x _ h,jby _ b o g (p+5) x _ h,jby _ b o g (p+6) x _ h,jby _ b o g (p+7) x _ h,jby _ b o g (p+8) x _ h]
abbrev jnw:List Value:=[.string ⟨#[]⟩,.int .i64 0,.int .i64 0,.int .i64 0,.int .i64 0,.string ⟨#[]⟩,.slice none 0 0,.slice none 0 0,.slice none 0 0]
end Go.Proofs.YtjmlfacbcfbhdaaGreatDoor
namespace Go.Proofs.YtjmlfacbcfbhdaaGreatDoor
open Go.ChangeShapes Go.WideShapes Go.ChangeAt Go.RowKit Go.Shelf
attribute [local go_sem] Oper.semAt_some
def joK (x:ByteArray×Int):G:=.mk x.1 (x.2+1) jlB 0 (fun _=>.no)
def jfk (x:ByteArray×Int):GR:=⟨joK x,.slice none 0 0,.slice none 0 0,.slice none 0 0⟩
theorem jkp {α:Type} {f:Nat→List α} {y:α} (k:Nat) (h:y∈jaB f k):∃ i,i<k∧y∈f i:=by
 induction k with
 | zero=>simp [jaB] at h
 | succ k ih =>
  rw [jaB] at h
  rcases lma.1 h with h|h
  ·obtain ⟨i,hi,hy⟩:=ih h
   exact ⟨i,by omega,hy⟩
  ·exact ⟨k,by omega,h⟩
theorem jnf (w:World) (o1 o2 o3:Obj):∃ W,((w.alloc o1).alloc o2).alloc o3=W∧W.heap[w.heap.size]? = some o1∧W.heap[w.heap.size+1]? = some o2∧W.heap[w.heap.size+1+1]? = some o3∧W.heap.size=w.heap.size+3∧Below w.heap.size w W:=by
 have a:∀ (w:World) (o:Obj) (k:Nat),(w.alloc o).heap[k]? = if k=w.heap.size then some o else w.heap[k]? := fun w o k=>Array.getElem?_push
 refine ⟨_,rfl,?_,?_,?_,by simp,(((brf _ w).alloc (nlr _) _).alloc (by simp) _).alloc (by simp;omega) _⟩
 all_goals
  simp only [a,World.size_alloc]
  repeat rw [if_neg (by omega)]
  simp
end Go.Proofs.YtjmlfacbcfbhdaaGreatDoor
namespace Go.Proofs.YtjmlfacbcfbhdaaGreatDoor
open Go.ChangeShapes Go.WideShapes Go.ChangeAt Go.RowKit
def RowsX (kid:Nat→X) (l:List XR) (w:World) (S:List Nat):Prop :=
 ∃ SS:List (List Nat),SS.length=l.length∧S=SS.flatten∧∀ i,i<l.length→∃ su u T,l[i]? = some (kid i,su,u)∧SS[i]? = some T∧XOwn w (kid i) su u T
theorem RowsX.nil (kid:Nat→X) (w:World):RowsX kid [] w []:=⟨[],rfl,rfl,fun i hi=>by simp at hi⟩
theorem RowsX.snoc {kid:Nat→X} {l:List XR} {w:World} {S:List Nat} (h:RowsX kid l w S) {su u:Value} {T:List Nat} (hv:XOwn w (kid l.length) su u T):RowsX kid (l++[(kid l.length,su,u)]) w (S++T):=by
 obtain ⟨SS,hl,rfl,he⟩:=h
 refine ⟨SS++[T],by simp [hl],by simp,fun i hi=>?_⟩
 rcases Nat.lt_or_ge i l.length with h1|h1
 ·obtain ⟨su',u',T',k1,k2,k3⟩:=he i h1
  exact ⟨su',u',T',by rw [List.getElem?_append_left h1];exact k1,by rw [List.getElem?_append_left (by rw [hl];exact h1)];exact k2,k3⟩
 ·have hi':i=l.length:=by simp at hi;omega
  subst hi'
  exact ⟨su,u,T,by simp,by rw [←hl];simp,hv⟩
theorem RowsX.own {kid:Nat→X} {l:List XR} {w:World} {S:List Nat} {g n cap:Nat} (h:RowsX kid l w S) (hk:XKs kid l) (hl:l.length=n) (hown:w.ownsRow 0 27 6 (.slice (some ⟨g,0,none⟩) n cap) n (jau l)):XsOwn w n kid (.slice (some ⟨g,0,none⟩) n cap) (g::S):=by
 obtain ⟨SS,h1,rfl,he⟩:=h
 exact .inr ⟨g,cap,l,SS,rfl,hown,hl,by omega,hk,rfl,fun i hi=>he i (by omega)⟩
abbrev WandX (w:World) (R:List Nat) (es:List (Ent X)) (P:World→List Nat→Prop):Prop:=Wand XsOwn w R es P
theorem WandX.leaf {w:World} {R:List Nat} {es:List (Ent X)} {kid:Nat→X} {l:List XR} {sv:Value} (h:WandX w R es (RowsX kid l)) (hne:kid l.length≠.no) (hpl:(kid l.length).s.size≤maxLen∧(-9223372036854775808≤(kid l.length).n∧(kid l.length).n≤9223372036854775807)∧(kid l.length).set.length≤maxLen)
  (hs:Own w 0 sv (kid l.length).set) (h0:(kid l.length).len=0):WandX w (R++sv.ownBlock.toList) (es++[]) (RowsX kid (l++[(kid l.length,sv,.slice none 0 0)])):=by
 refine Wand.more h (fun w' S SS hx hP hF=>?_)
 cases SS with
 | cons x xs=>exact hF.elim
 | nil =>
  have hs':Own w' 0 sv (kid l.length).set:=hs.sameX (fun g hg=>hx g (jbh hg))
  refine hP.snoc ?_
  generalize kid l.length=t at *
  cases t with
  | no=>exact absurd rfl hne
  | mk op a n s set len kd=>exact XOwn.mk' hpl hs' (.inl ⟨h0,rfl,rfl⟩)
theorem WandX.node {w:World} {R:List Nat} {es:List (Ent X)} {kid:Nat→X} {l:List XR} {sv v:Value} (h:WandX w R es (RowsX kid l)) (hne:kid l.length≠.no) (hpl:(kid l.length).s.size≤maxLen∧(-9223372036854775808≤(kid l.length).n∧(kid l.length).n≤9223372036854775807)∧(kid l.length).set.length≤maxLen)
  (hs:Own w 0 sv (kid l.length).set):WandX w (R++sv.ownBlock.toList) (es++[⟨(kid l.length).len,(kid l.length).kid,v⟩]) (RowsX kid (l++[(kid l.length,sv,v)])):=by
 refine Wand.more h (fun w' S SS hx hP hF=>?_)
 cases SS with
 | nil=>exact hF.elim
 | cons T TS=>cases TS with
  | cons y ys=>exact hF.2.elim
  | nil =>
   have hs':Own w' 0 sv (kid l.length).set:=hs.sameX (fun g hg=>hx g (jbh hg))
   have hT:=hF.1
   refine hP.snoc ?_
   simp only [List.flatten_cons,List.flatten_nil,List.append_nil]
   generalize kid l.length=t at *
   cases t with
   | no=>exact absurd rfl hne
   | mk op a n s set len kd=>exact XOwn.mk' hpl hs' hT
theorem WandX.filled {w:World} {R Ri:List Nat} {es en:List (Ent X)} {n g cap:Nat} {kid:Nat→X} {l:List XR} {P:World→List Nat→Prop} (h:WandX w R (es++[⟨n,kid,.slice (some ⟨g,0,none⟩) n cap⟩]) P) (hi:WandX w Ri en (RowsX kid l)) (hk:XKs kid l) (hl:l.length=n) (hown:w.ownsRow 0 27 6 (.slice (some ⟨g,0,none⟩) n cap) n (jau l)) :
  WandX w (R++g::Ri) (es++en) P :=
 Wand.next h hi (fun w' S hg hP=>hP.own hk hl (jaM hown (fun x hx=>by simp only [Value.ownBlock,Option.some.injEq] at hx;subst hx;exact hg)))
theorem jok {W:World} {f:X} {g:Nat} {S:List Nat} (h:XsOwn W 1 (fun _=>f) (.slice (some ⟨g,0,none⟩) 1 1) S) (hn:S.Nodup) :
  ∃ su u T,(W.cell? ⟨g,0,none⟩=some (.int .i64 f.op)∧W.cell? ⟨g,1,none⟩=some (.int .i64 f.at_)∧W.cell? ⟨g,2,none⟩=some (.int .i64 f.n)∧W.cell? ⟨g,3,none⟩=some (.string f.s)∧W.cell? ⟨g,4,none⟩=some su∧W.cell? ⟨g,5,none⟩=some u)∧XOwn W f su u T∧T.Nodup∧∀ x∈T,x∈S:=by
 rcases h with ⟨h0,_⟩|⟨g',cap',l,SS,he,hown,hl,hSl,hks,hSe,heach⟩
 ·cases h0
 injection he with h1 _ h2
 injection h1 with h1
 injection h1 with h1
 subst h1 h2
 obtain ⟨su,u,T,k1,k2,k3⟩:=heach 0 (by omega)
 have hl1:l=[(f,su,u)]:=by
  match l,hl,k1 with
  | [q],_,k1=>simp at k1;rw [k1]
 subst hl1
 have hc:∀ j,j<6→W.cell? ⟨g,j,none⟩=(jbP (f,su,u))[j]? := by
  intro j hj
  have:=hown.cellAt j (by omega)
  rw [this]
  simp [jau]
 have hT:∀ x∈T,x∈S:=fun x hx=>by rw [hSe];exact List.mem_cons_of_mem _ (jaD k2 hx)
 refine ⟨su,u,T,⟨hc 0 (by omega),hc 1 (by omega),hc 2 (by omega),hc 3 (by omega),hc 4 (by omega),hc 5 (by omega)⟩,k3,?_,hT⟩
 have hSS:SS=[T]:=by
  match SS,hSl,k2 with
  | [q],_,k2=>simp at k2;rw [k2]
 rw [hSe,hSS] at hn
 simp at hn
 exact hn.2
def HoleX {A:Type} (W:World) (e:Job A):Prop:=∃ junk:List Value,junk.length=e.len*6∧W.ownsRow 0 27 6 e.tv e.len junk
theorem HoleX.same {A:Type} {W W':World} {e:Job A} (h:HoleX W e) (hs:W'.heap[e.g]? = W.heap[e.g]?):HoleX W' e:=by
 obtain ⟨junk,h1,h2⟩:=h
 exact ⟨junk,h1,jbi h2 hs⟩
structure RemX {A:Type} (fT:A→X) (tL:TypeId) (Src:Job A→Prop) (Kp:World→Prop) (New:Nat→Prop) (P:World→List Nat→Prop) (W:World) (R:List Nat) (st:List (Job A)) (gL cap:Nat):Prop where
 keep:Kp W
 wand:WandX W R (st.map (Job.ent fT)) P
 nd:(R++st.map Job.g).Nodup
 new:∀ x∈R++st.map Job.g,New x∧x≠gL∧x<W.heap.size
 left:New gL
 holes:∀ e∈st,HoleX W e
 src:∀ e∈st,Src e∧0<e.len
 own:W.ownsRow 0 tL 2 (.slice (some ⟨gL,0,none⟩) st.length cap) st.length (jc0 st)
structure InnX {A:Type} (fT:A→X) (count:A→Nat) (tL tJ:TypeId) (Src:Job A→Prop) (Kp:World→Prop) (New:Nat→Prop) (P:World→List Nat→Prop) (W:World) (R Ri:List Nat) (rest en ex:List (Job A)) (e:Job A) (l:List XR) (junk:List Value) (gL cap NB:Nat):Prop where
 keep:Kp W
 nb:W.heap[NB]? = some (.cells #[e.fv,e.tv] tJ (0,0))
 nbn:New NB∧NB≠gL
 wand:WandX W R ((rest++[e]).map (Job.ent fT)) P
 wandi:WandX W Ri (en.map (Job.ent fT)) (RowsX (fun i=>fT (e.kid i)) l)
 ks:XKs (fun i=>fT (e.kid i)) l
 nd:(R++(Ri++(e.g::(rest++(en++ex)).map Job.g))).Nodup
 new:∀ x∈R++(Ri++(e.g::(rest++(en++ex)).map Job.g)),New x∧x≠gL∧x≠NB∧x<W.heap.size
 left:New gL
 holes:∀ e'∈rest++(en++ex),HoleX W e'
 src:∀ e'∈rest++(en++ex),Src e'∧0<e'.len
 row:W.ownsRow 0 27 6 e.tv e.len (jau l++junk)
 rowl:l.length*6+junk.length=e.len*6
 own:W.ownsRow 0 tL 2 (.slice (some ⟨gL,0,none⟩) (rest++(en++ex)).length cap) (rest++(en++ex)).length (jc0 (rest++(en++ex)))
 tot:jbu count en+l.length=sumJ (fun i=>count (e.kid i)) l.length
variable {A : Type} {fT : A → X} {count : A → Nat} {tL tJ : TypeId} {Src : Job A → Prop} {Kp : World → Prop} {New : Nat → Prop} {P : World → List Nat → Prop}
theorem RemX.pop {W:World} {R:List Nat} {rest:List (Job A)} {e:Job A} {gL cap:Nat} (hE:Env Kp New) (h:RemX fT tL Src Kp New P W R (rest++[e]) gL cap) :
  ∃ junk,InnX fT count tL tJ Src Kp New P (W.alloc (.cells #[e.fv,e.tv] tJ)) R [] rest [] [] e [] junk gL cap W.heap.size:=by
 have hf:Below W.heap.size W (W.alloc (.cells #[e.fv,e.tv] tJ)):=(brf _ _).alloc (nlr _) _
 have hmem:∀ x,x∈R++([]++(e.g::(rest++([]++[])).map Job.g))→x∈R++(rest++[e]).map Job.g:=by
  intro x hx
  simp only [List.nil_append,List.append_nil,List.mem_append,List.mem_cons,List.map_append,List.map_cons,List.map_nil,List.not_mem_nil,or_false] at hx ⊢
  rcases hx with h|h|h
  ·exact .inl h
  ·exact .inr (.inr h)
  ·exact .inr (.inl h)
 have hsz:(W.alloc (.cells #[e.fv,e.tv] tJ)).heap.size=W.heap.size+1:=by simp
 obtain ⟨junk,hj1,hj2⟩:=h.holes e (by simp)
 have hgl:gL<W.heap.size:=(h.own.lt _ rfl).2
 refine ⟨junk,hE.fr h.keep (Fr.below hf []) (fun x hx=>by simp at hx),han W _,⟨hE.new h.keep (nlr _),by omega⟩,h.wand.same (fun x hx=>hf.block x (h.new x (by simp [hx])).2.2),?_,XKs.nil _,?_,?_,h.left,?_,?_,?_,by simpa using hj1,?_,by simp [jbu,sumJ]⟩
 ·intro w' SS _ hF
  cases SS with
  | nil=>exact ⟨[],RowsX.nil _ _,by simp⟩
  | cons x xs=>exact hF.elim
 ·have hp:(R++([]++(e.g::(rest++([]++[])).map Job.g))).Perm (R++(rest++[e]).map Job.g):=by
   simp only [List.nil_append,List.append_nil,List.map_append,List.map_cons,List.map_nil]
   exact List.Perm.append_left R (List.perm_append_singleton e.g (rest.map Job.g)).symm
  exact hp.nodup_iff.2 h.nd
 ·intro x hx
  obtain ⟨h1,h2,h3⟩:=h.new x (hmem x hx)
  exact ⟨h1,h2,by omega,by omega⟩
 ·intro e' he'
  simp only [List.append_nil] at he'
  exact (h.holes e' (by simp [he'])).same (hf.block _ (h.new e'.g (List.mem_append_right _ (List.mem_map_of_mem (by simp [he'])))).2.2)
 ·intro e' he'
  simp only [List.append_nil] at he'
  exact h.src e' (by simp [he'])
 ·exact jbi hj2 (hf.block _ (h.new e.g (List.mem_append_right _ (List.mem_map_of_mem (by simp)))).2.2)
 ·have hown:=h.own
  rw [jeK] at hown
  have:=jiU (n:=rest.length) hown (by rw [jc1]) (by simp)
  simp only [List.append_nil]
  exact jbi this (hf.block _ hgl)
theorem InnX.lt {W:World} {R Ri:List Nat} {rest en ex:List (Job A)} {e:Job A} {l:List XR} {junk:List Value} {gL cap NB:Nat} (h:InnX fT count tL tJ Src Kp New P W R Ri rest en ex e l junk gL cap NB):gL<W.heap.size∧NB<W.heap.size :=
 ⟨(h.own.lt _ rfl).2,(aes.1 h.nb).1⟩
theorem InnX.gOf {W:World} {R Ri:List Nat} {rest en ex:List (Job A)} {e:Job A} {l:List XR} {junk:List Value} {gL cap NB:Nat} (h:InnX fT count tL tJ Src Kp New P W R Ri rest en ex e l junk gL cap NB):New e.g∧e.g≠gL∧e.g≠NB∧e.g<W.heap.size:=h.new e.g (by simp)
theorem InnX.gIn {W:World} {R Ri:List Nat} {rest en ex:List (Job A)} {e e':Job A} {l:List XR} {junk:List Value} {gL cap NB:Nat} (h:InnX fT count tL tJ Src Kp New P W R Ri rest en ex e l junk gL cap NB) (he:e'∈rest++(en++ex)):New e'.g∧e'.g≠gL∧e'.g≠NB∧e'.g<W.heap.size∧e'.g≠e.g:=by
 obtain ⟨a,b,c,d⟩:=h.new e'.g (List.mem_append_right _ (List.mem_append_right _ (List.mem_cons_of_mem _ (List.mem_map_of_mem he))))
 refine ⟨a,b,c,d,fun heq=>?_⟩
 have h1:=(List.nodup_append.1 h.nd).2.1
 have h2:=(List.nodup_append.1 h1).2.1
 rw [List.nodup_cons] at h2
 exact h2.1 (heq ▸ List.mem_map_of_mem he)
theorem InnX.room {W:World} {R Ri:List Nat} {rest en ex:List (Job A)} {n g k:Nat} {kid:Nat→A} {fv:Value} {l:List XR} {junk:List Value} {gL cap NB:Nat} (h:InnX fT count tL tJ Src Kp New P W R Ri rest en ex ⟨n,kid,fv,g⟩ l junk gL cap NB) (hk:l.length=k) (hlt:k<n) :
  (∀ j,W.frozen? ⟨g,j,none⟩=false)∧(∃ u,W.cell? ⟨g,k*6,none⟩=some u)∧(∃ u,W.cell? ⟨g,k*6+1,none⟩=some u)∧(∃ u,W.cell? ⟨g,k*6+2,none⟩=some u)∧(∃ u,W.cell? ⟨g,k*6+3,none⟩=some u)∧(∃ u,W.cell? ⟨g,k*6+4,none⟩=some u)∧(∃ u,W.cell? ⟨g,k*6+5,none⟩=some u):=by
 have hr:W.ownsRow 0 27 6 (.slice (some ⟨g,0,none⟩) n n) n (jau l++junk):=h.row
 have hcl:∀ j,j<6→∃ u,W.cell? ⟨g,k*6+j,none⟩=some u:=by
  intro j hj
  have h2:=h.rowl
  simp only at h2
  have hl:k*6+j<(jau l++junk).length:=by rw [lla,jdc,hk];omega
  exact ⟨_,(hr.cellAt (k*6+j) (by omega)).trans (lgg hl)⟩
 exact ⟨fun j=>hr.frozenAt j,hcl 0 (by omega),hcl 1 (by omega),hcl 2 (by omega),hcl 3 (by omega),hcl 4 (by omega),hcl 5 (by omega)⟩
theorem InnX.below {W W':World} {R Ri:List Nat} {rest en ex:List (Job A)} {e:Job A} {l:List XR} {junk:List Value} {gL cap NB:Nat} (hE:Env Kp New) (h:InnX fT count tL tJ Src Kp New P W R Ri rest en ex e l junk gL cap NB) (hb:Below W.heap.size W W'):InnX fT count tL tJ Src Kp New P W' R Ri rest en ex e l junk gL cap NB :=
 ⟨hE.fr h.keep (Fr.below hb []) (fun x hx=>by simp at hx),(hb.block _ h.lt.2).trans h.nb,h.nbn,h.wand.same (fun x hx=>hb.block x (h.new x (by simp [hx])).2.2.2),h.wandi.same (fun x hx=>hb.block x (h.new x (by simp [hx])).2.2.2),h.ks,h.nd,
  fun x hx=>⟨(h.new x hx).1,(h.new x hx).2.1,(h.new x hx).2.2.1,nll (h.new x hx).2.2.2 hb.size⟩,h.left,fun e' he'=>(h.holes e' he').same (hb.block _ (h.gIn he').2.2.2.1),h.src,jbi h.row (hb.block _ h.gOf.2.2.2),h.rowl,jbi h.own (hb.block _ h.lt.1),h.tot⟩
theorem InnX.push {W W1 W3:World} {R Ri:List Nat} {rest en:List (Job A)} {e:Job A} {l:List XR} {junk zs:List Value} {gL cap cap' gg NB n:Nat} {kd:Nat→A} {fv:Value} {o:Obj} (hE:Env Kp New) (h:InnX fT count tL tJ Src Kp New P W R Ri rest en [] e l junk gL cap NB)
  (h1:W.grownBy W1 none) (hh:W1.ownsRow 0 27 6 (.slice (some ⟨W.heap.size,0,none⟩) n n) n zs) (hz:zs.length=n*6) (h3:(W1.alloc o).grownBy W3 (some gL)) (hat:gL=gg∨gg=W1.heap.size+1)
  (hown:W3.ownsRow 0 tL 2 (.slice (some ⟨gg,0,none⟩) ((rest++(en++[])).length+1) cap') ((rest++(en++[])).length+1) (jc0 (rest++(en++[]))++[fv,.slice (some ⟨W.heap.size,0,none⟩) n n]))
  (hs:Src ⟨n,kd,fv,W.heap.size⟩) (hn:0<n):InnX fT count tL tJ Src Kp New P W3 R Ri rest en [⟨n,kd,fv,W.heap.size⟩] e l junk gg cap' NB:=by
 have hl:=h.lt
 have hgW1:W.heap.size<W1.heap.size:=(hh.lt _ rfl).2
 have hsz:(W1.alloc o).heap.size=W1.heap.size+1:=by simp
 have hs3:=h3.size
 have keep:∀ x,x<W1.heap.size→x≠gL→W3.heap[x]? = W1.heap[x]? := fun x hx hne=>(h3.block x (by omega) (by intro e;injection e with e;exact hne e)).trans (bha W1 o x hx)
 have keep0:∀ x,x<W.heap.size→x≠gL→W3.heap[x]? = W.heap[x]? := fun x hx hne=>(keep x (by omega) hne).trans (h1.block x hx (by simp))
 have hfr:Fr [gL] W W3:=(Fr.grown h1 (by simp)).trans ((Fr.below ((brf _ _).alloc (nlr _) o) _).trans (Fr.grown h3 (by simp)))
 have hgg:New gg∧gg≠W.heap.size∧(gg=gL∨W1.heap.size≤gg)∧gg≠NB:=by
  rcases hat with rfl|rfl
  ·exact ⟨h.left,by omega,.inl rfl,fun e=>h.nbn.2 e.symm⟩
  ·exact ⟨hE.new h.keep (by omega),by omega,.inr (by omega),by omega⟩
 have hne:∀ x,x<W.heap.size→x≠gL→x≠gg:=by
  intro x hx hx2
  rcases hgg.2.2.1 with e|e
  ·rw [e];exact hx2
  ·omega
 have hp:(R++(Ri++(e.g::(rest++(en++[(⟨n,kd,fv,W.heap.size⟩:Job A)])).map Job.g))).Perm (W.heap.size::(R++(Ri++(e.g::(rest++(en++[])).map Job.g)))):=by
  rw [List.perm_iff_count]
  intro x
  simp only [List.map_append,List.map_cons,List.map_nil,List.append_nil,List.count_append,List.count_cons,List.count_nil]
  omega
 refine ⟨hE.fr h.keep hfr (fun x hx=>by simp only [List.mem_singleton] at hx;subst hx;exact h.left),(keep0 _ hl.2 h.nbn.2).trans h.nb,⟨h.nbn.1,fun e=>hgg.2.2.2 e.symm⟩,h.wand.same (fun x hx=>?_),h.wandi.same (fun x hx=>?_),h.ks,?_,?_,hgg.1,?_,?_,?_,h.rowl,?_,h.tot⟩
 ·have:=h.new x (by simp [hx]);exact keep0 x this.2.2.2 this.2.1
 ·have:=h.new x (by simp [hx]);exact keep0 x this.2.2.2 this.2.1
 ·rw [hp.nodup_iff,List.nodup_cons]
  exact ⟨fun hx=>by have:=(h.new _ hx).2.2.2;omega,h.nd⟩
 ·intro x hx
  have hx':x=W.heap.size∨x∈R++(Ri++(e.g::(rest++(en++[])).map Job.g)):=List.mem_cons.1 (hp.mem_iff.1 hx)
  rcases hx' with rfl|hx'
  ·exact ⟨hE.new h.keep (nlr _),fun e=>hgg.2.1 e.symm,by omega,by omega⟩
  ·obtain ⟨a,b,c,d⟩:=h.new x hx'
   exact ⟨a,hne x d b,c,by omega⟩
 ·intro e' he'
  have he2:e'=⟨n,kd,fv,W.heap.size⟩∨e'∈rest++(en++[]):=by
   simp only [List.mem_append,List.mem_singleton,List.append_nil] at he' ⊢
   rcases he' with h|h|h
   ·exact .inr (.inl h)
   ·exact .inr (.inr h)
   ·exact .inl h
  rcases he2 with rfl|he2
  ·exact ⟨zs,hz,jbi hh (keep W.heap.size hgW1 (by omega))⟩
  ·exact (h.holes e' he2).same (keep0 _ (h.gIn he2).2.2.2.1 (h.gIn he2).2.1)
 ·intro e' he'
  have he2:e'=⟨n,kd,fv,W.heap.size⟩∨e'∈rest++(en++[]):=by
   simp only [List.mem_append,List.mem_singleton,List.append_nil] at he' ⊢
   rcases he' with h|h|h
   ·exact .inr (.inl h)
   ·exact .inr (.inr h)
   ·exact .inl h
  rcases he2 with rfl|he2
  ·exact ⟨hs,hn⟩
  ·exact h.src e' he2
 ·exact jbi h.row (keep0 _ h.gOf.2.2.2 h.gOf.2.1)
 ·have e1:(rest++(en++[(⟨n,kd,fv,W.heap.size⟩:Job A)])).length=(rest++(en++[])).length+1:=by simp;omega
  have e2:jc0 (rest++(en++[(⟨n,kd,fv,W.heap.size⟩:Job A)]))=jc0 (rest++(en++[]))++[fv,.slice (some ⟨W.heap.size,0,none⟩) n n]:=by
   simp [jc0,Job.cells,Job.tv]
  rw [e1,e2]
  exact hown
theorem InnX.store {Wm W:World} {R Ri:List Nat} {rest en ex:List (Job A)} {e:Job A} {l:List XR} {junk:List Value} {gL cap NB:Nat} {sv v:Value} {set:List Int} (hE:Env Kp New) (h:InnX fT count tL tJ Src Kp New P Wm R Ri rest en ex e l junk gL cap NB) (hb:Below Wm.heap.size Wm W) (hs:Own W Wm.heap.size sv set) (hlt:l.length<e.len)
  (hw:WandX W (Ri++sv.ownBlock.toList) ((en++ex).map (Job.ent fT)) (RowsX (fun i=>fT (e.kid i)) (l++[(fT (e.kid l.length),sv,v)]))) (hc:jbu count ex+1=count (e.kid l.length)) :
  InnX fT count tL tJ Src Kp New P (st6 W e.g (l.length*6) (fT (e.kid l.length)) sv v) R (Ri++sv.ownBlock.toList) rest (en++ex) [] e (l++[(fT (e.kid l.length),sv,v)]) (junk.drop 6) gL cap NB:=by
 have hbs:=hb.size
 have h':=h.below hE hb
 obtain ⟨q,g⟩:=jpp h'.row (by have:=h.rowl;omega) (fT (e.kid l.length)) sv v
 have hblk:∀ x,x<W.heap.size→x≠e.g→(st6 W e.g (l.length*6) (fT (e.kid l.length)) sv v).heap[x]? = W.heap[x]? := fun x hx hne=>g.block x hx (by intro e;injection e with e;exact hne e)
 have hsv:∀ x∈sv.ownBlock.toList,Wm.heap.size≤x∧x<W.heap.size:=fun x hx=>World.ownsRow.lt hs x (by simpa using hx)
 have hnd:=h.nd
 have hneg:∀ x∈R++Ri,x≠e.g:=by
  intro x hx heq
  subst heq
  have h1:=List.nodup_append.1 hnd
  have h2:=List.nodup_append.1 h1.2.1
  rcases lma.1 hx with hx|hx
  ·exact h1.2.2 _ hx _ (by simp) rfl
  ·exact h2.2.2 _ hx _ (by simp) rfl
 have hp:(R++((Ri++sv.ownBlock.toList)++(e.g::(rest++((en++ex)++[])).map Job.g))).Perm (sv.ownBlock.toList++(R++(Ri++(e.g::(rest++(en++ex)).map Job.g)))):=by
  rw [List.perm_iff_count]
  intro x
  simp only [List.append_nil,List.count_append,List.count_cons]
  omega
 refine ⟨hE.fr h'.keep (Fr.grown (C:=[e.g]) g (by simp)) (fun x hx=>by simp only [List.mem_singleton] at hx;subst hx;exact h.gOf.1),(hblk _ h'.lt.2 (fun e=>h.gOf.2.2.1 e.symm)).trans h'.nb,h.nbn,h'.wand.same (fun x hx=>hblk x (h'.new x (by simp [hx])).2.2.2 (hneg x (by simp [hx]))),hw.same (fun x hx=>?_),?_,?_,?_,h.left,?_,?_,q,?_,?_,?_⟩
 ·rcases lma.1 hx with hx|hx
  ·exact hblk x (h'.new x (by simp [hx])).2.2.2 (hneg x (by simp [hx]))
  ·exact hblk x (hsv x hx).2 (fun e=>by have:=(hsv x hx).1;have:=h.gOf.2.2.2;omega)
 ·exact h.ks.snoc (sv,v)
 ·rw [hp.nodup_iff,List.nodup_append]
  refine ⟨?_,hnd,fun a ha b hb heq=>?_⟩
  ·cases sv.ownBlock <;> simp
  ·have:=(hsv a ha).1
   have:=(h.new b hb).2.2.2
   omega
 ·intro x hx
  have hx':x∈sv.ownBlock.toList∨x∈R++(Ri++(e.g::(rest++(en++ex)).map Job.g)):=lma.1 (hp.mem_iff.1 hx)
  have hg2:=g.size
  rcases hx' with hx'|hx'
  ·have h1:=hsv x hx'
   have h2:=h.lt
   exact ⟨hE.new h.keep h1.1,by omega,by omega,by omega⟩
  ·obtain ⟨a,b,c,d⟩:=h'.new x hx'
   exact ⟨a,b,c,by omega⟩
 ·intro e' he'
  have he2:e'∈rest++(en++ex):=by simpa using he'
  exact (h'.holes e' he2).same (hblk _ (h'.gIn he2).2.2.2.1 (h'.gIn he2).2.2.2.2)
 ·intro e' he'
  exact h.src e' (by simpa using he')
 ·rw [lla,List.length_drop];have:=h.rowl;simp;omega
 ·simp only [List.append_nil]
  exact jbi h'.own (hblk _ h'.lt.1 (fun e=>h.gOf.2.1 e.symm))
 ·rw [jbe,lla]
  have:=h.tot
  simp only [List.length_cons,List.length_nil,sumJ]
  omega
theorem InnX.done {W:World} {R Ri:List Nat} {rest en:List (Job A)} {e:Job A} {l:List XR} {junk:List Value} {gL cap NB:Nat} (h:InnX fT count tL tJ Src Kp New P W R Ri rest en [] e l junk gL cap NB) (hl:l.length=e.len) :
  RemX fT tL Src Kp New P W (R++e.g::Ri) (rest++en) gL cap∧jbu count (rest++en)+e.len=jbu count (rest++[e]):=by
 have hj:junk=[]:=List.eq_nil_of_length_eq_zero (by have:=h.rowl;omega)
 have hrow:=h.row
 rw [hj,lan] at hrow
 have hw:=h.wand
 rw [List.map_append] at hw
 have h2:=WandX.filled (g:=e.g) (cap:=e.len) (n:=e.len) (kid:=fun i=>fT (e.kid i)) (l:=l) hw h.wandi h.ks hl hrow
 rw [←List.map_append] at h2
 have hp:((R++e.g::Ri)++(rest++en).map Job.g).Perm (R++(Ri++(e.g::(rest++(en++[])).map Job.g))):=by
  rw [List.perm_iff_count]
  intro x
  simp only [List.append_nil,List.count_append,List.count_cons]
  omega
 refine ⟨⟨h.keep,h2,?_,?_,h.left,?_,?_,?_⟩,?_⟩
 ·exact hp.nodup_iff.2 h.nd
 ·intro x hx
  have hx':x∈R++(Ri++(e.g::(rest++(en++[])).map Job.g)):=hp.mem_iff.1 hx
  obtain ⟨a,b,c,d⟩:=h.new x hx'
  exact ⟨a,b,d⟩
 ·intro e' he'
  exact h.holes e' (by simpa using he')
 ·intro e' he'
  exact h.src e' (by simpa using he')
 ·have:=h.own
  simpa using this
 ·rw [jbe,jbe,jdq]
  have h1:=h.tot
  rw [hl] at h1
  unfold Job.total
  omega
theorem RemX.start {W:World} {e:Job A} {gL cap:Nat} (hk:Kp W) (hn:New e.g∧e.g≠gL∧e.g<W.heap.size) (hg:New gL) (hh:HoleX W e) (hs:Src e∧0<e.len) (hown:W.ownsRow 0 tL 2 (.slice (some ⟨gL,0,none⟩) 1 cap) 1 e.cells) :
  RemX fT tL Src Kp New (fun w' S=>XsOwn w' e.len (fun i=>fT (e.kid i)) e.tv S) W [] [e] gL cap :=
 ⟨hk,Wand.start XsOwn W (e.ent fT),by simp,fun x hx=>by simp at hx;subst hx;exact hn,hg,fun e' he=>by simp at he;subst he;exact hh,fun e' he=>by simp at he;subst he;exact hs,by simpa [jc0] using hown⟩
theorem RemX.end {W:World} {R:List Nat} {gL cap:Nat} (h:RemX fT tL Src Kp New P W R [] gL cap):∃ S,P W S∧S.Nodup∧∀ x∈S,New x:=by
 obtain ⟨S,h1,h2⟩:=Wand.done h.wand
 have hnd:=h.nd
 simp only [List.map_nil,List.append_nil] at hnd
 exact ⟨S,h1,h2.nodup_iff.2 hnd,fun x hx=>(h.new x (by simp [h2.mem_iff.1 hx])).1⟩
structure TurnXX (fT:X→X) (fS:X→List Int):Prop where
 ne:∀ x,x≠.no→fT x≠.no
 op:∀ x,(fT x).op=x.op
 at_:∀ x,(fT x).at_=x.at_
 n:∀ x,(fT x).n=x.n
 s:∀ x,(fT x).s=x.s
 set:∀ x,(fT x).set=fS x
 len:∀ x,(fT x).len=x.len
 kid:∀ x i,(fT x).kid i=fT (x.kid i)
 small:∀ x,x.Small→(fS x).length≤maxLen
def jdL (w:World) (Kp:World→Prop) (e:Job X):Prop:=∃ p cap,e.fv=.slice p e.len cap∧e.len≤maxLen∧∀ W,Kp W→∀ i,i<e.len→∃ b o sv u,p=some ⟨b,o,none⟩∧Head6 W b (o+i*6) (e.kid i) sv u∧(e.kid i).At 0 w sv u∧(e.kid i).Small
theorem jhZ {t:X} (h:t.Small):t.set.length≤4194304:=by
 cases t with
 | no=>simp [X.set]
 | mk op a n s set len kid=>exact h.1
theorem jm1 {t:X} (h:t.Small) (i:Nat) (hi:i<t.len):(t.kid i).Small:=by
 cases t with
 | no=>simp [X.len] at hi
 | mk op a n s set len kid=>exact h.2 i hi
theorem jpE {B:Nat} {w:World} {t:X} {sv v:Value} (h:t.At B w sv v):t≠.no:=by
 rintro rfl;exact h.elim
theorem jpn {w:World} {Kp:World→Prop} (hb:∀ W,Kp W→Below w.heap.size w W) {x:X} {sx:Value} {p:Option Addr} {n cap g:Nat} (h:x.At 0 w sx (.slice p n cap)) (hs:x.Small) (hn:n=x.len):jdL w Kp ⟨n,x.kid,.slice p n cap,g⟩:=by
 subst hn
 obtain ⟨p',cap',he,hl,hat⟩:=h.xs.at
 injection he with h1 _ h2
 subst h1 h2
 refine ⟨p,cap,rfl,hl,fun W hW i hi=>?_⟩
 obtain ⟨b,o,sv,u,hp,hd,hin⟩:=hat i hi
 exact ⟨b,o,sv,u,hp,hd.below (hb W hW),hin,jm1 hs i hi⟩
theorem jlA:(Tryz.prog.info? 159).map (fun i=>(i.zero,i.size,i.bytes))=some (some (.agg #[.slice none 0 0,.slice none 0 0]),2,48):=by kernel_rfl
theorem joN (f:Nat→Nat) (k:Nat):sumX f k=sumJ f k:=by
 induction k with
 | zero=>rfl
 | succ k ih=>simp only [sumX,sumJ,ih]
theorem jot (f:Nat→Nat) (hf:∀ i,1≤f i) (k:Nat):k≤sumX f k:=by
 rw [joN];exact jjU f hf k
theorem jed (t:X):1≤t.count:=by rw [X.count_eq];omega
def joE (w:World) (PS:Nat) (fS:X→List Int):Prop:=∀ (x:X) (sx:Value) (vp:Option Addr) (vc:Nat) (kp:Option Addr) (kn kc:Nat) (W:World),Below w.heap.size w W→x.At 0 w sx (.slice vp x.len vc)→x.Small →
 Calls Tryz.prog 70 #[.agg #[.int .i64 x.op,.int .i64 x.at_,.int .i64 x.n,.string x.s,sx,.slice vp x.len vc],.slice kp kn kc,.pointer (some ⟨PS,0,none⟩)] W fun e W'=>∃ sv,e=.returned (.agg #[.int .i64 x.op,.int .i64 x.at_,.int .i64 x.n,.string x.s,sv,.slice kp kn kc])∧Below W.heap.size W W'∧Own W' W.heap.size sv (fS x)
theorem jiZ {w w1:World} {fT:X→X} {t:X} {su:Value} {p:Option Addr} {cap:Nat} {oA:Obj} (hin:t.At 0 w su (.slice p t.len cap)) (hsm:t.Small)
  (hg:((w.alloc oA).alloc (.cells #[.int .i64 0,.int .i64 0,.int .i64 0,.string ⟨#[]⟩,.slice none 0 0,.slice none 0 0] 27)).grownBy w1 none) {zs:List Value} (hz:zs.length=6)
  (hown:w1.ownsRow 0 27 6 (.slice (some ⟨w.heap.size+1+1,0,none⟩) 1 1) 1 zs) :
  RemX fT 159 (jdL w (Kept w (w.heap.size+1) w1.heap.size (.cells #[.int .i64 0,.int .i64 0,.int .i64 0,.string ⟨#[]⟩,.slice none 0 0,.slice none 0 0] 27) (.cells #[.int .i64 t.op,.int .i64 t.at_,.int .i64 t.n,.string t.s,su,.slice p t.len cap] 27)))
   (Kept w (w.heap.size+1) w1.heap.size (.cells #[.int .i64 0,.int .i64 0,.int .i64 0,.string ⟨#[]⟩,.slice none 0 0,.slice none 0 0] 27) (.cells #[.int .i64 t.op,.int .i64 t.at_,.int .i64 t.n,.string t.s,su,.slice p t.len cap] 27)) (NewB w (w.heap.size+1) w1.heap.size)
   (fun w' S=>XsOwn w' 1 (fun _=>fT t) (.slice (some ⟨w.heap.size+1+1,0,none⟩) 1 1) S)
   ((w1.alloc (.cells #[.int .i64 t.op,.int .i64 t.at_,.int .i64 t.n,.string t.s,su,.slice p t.len cap] 27)).alloc (.cells #[.slice (some ⟨w1.heap.size,0,none⟩) 1 1,.slice (some ⟨w.heap.size+1+1,0,none⟩) 1 1] 159)) [] [⟨1,fun _=>t,.slice (some ⟨w1.heap.size,0,none⟩) 1 1,w.heap.size+1+1⟩] (w1.heap.size+1) 1:=by
 have e1:(w.alloc oA).heap.size=w.heap.size+1:=by simp
 have e2:((w.alloc oA).alloc (.cells #[.int .i64 0,.int .i64 0,.int .i64 0,.string ⟨#[]⟩,.slice none 0 0,.slice none 0 0] 27)).heap.size=w.heap.size+1+1:=by simp
 have hs1:w.heap.size+1+1<w1.heap.size:=(hown.lt _ rfl).2
 have b1:Below w.heap.size w w1:=((newx w oA).trans ((newx _ _).mono (by omega))).trans ⟨hg.os,hg.tape,hg.output,hg.size,fun x hx=>hg.block x (by omega) (by simp)⟩
 have hR:w1.heap[w.heap.size+1]? = some (.cells #[.int .i64 0,.int .i64 0,.int .i64 0,.string ⟨#[]⟩,.slice none 0 0,.slice none 0 0] 27 (0,0)):=by
  have n2:=han (w.alloc oA) (.cells #[.int .i64 0,.int .i64 0,.int .i64 0,.string ⟨#[]⟩,.slice none 0 0,.slice none 0 0] 27)
  rw [e1] at n2
  exact (hg.block _ (by omega) (by simp)).trans n2
 obtain ⟨oT,hoT⟩:∃ oT:Obj,oT=.cells #[.int .i64 t.op,.int .i64 t.at_,.int .i64 t.n,.string t.s,su,.slice p t.len cap] 27:=⟨_,rfl⟩
 obtain ⟨oL,hoL⟩:∃ oL:Obj,oL=.cells #[.slice (some ⟨w1.heap.size,0,none⟩) 1 1,.slice (some ⟨w.heap.size+1+1,0,none⟩) 1 1] 159:=⟨_,rfl⟩
 rw [←hoT,←hoL]
 have e3:(w1.alloc oT).heap.size=w1.heap.size+1:=by simp
 have bL:Below w1.heap.size w1 ((w1.alloc oT).alloc oL):=(newx w1 oT).trans ((newx _ oL).mono (by omega))
 have hTB:((w1.alloc oT).alloc oL).heap[w1.heap.size]? = some oT:=(bha _ _ _ (by omega)).trans (han w1 oT)
 have hLB:((w1.alloc oT).alloc oL).heap[w1.heap.size+1]? = some oL:=by
  have:=han (w1.alloc oT) oL
  rwa [e3] at this
 have e4:((w1.alloc oT).alloc oL).heap.size=w1.heap.size+1+1:=by simp
 refine RemX.start (e:=⟨1,fun _=>t,.slice (some ⟨w1.heap.size,0,none⟩) 1 1,w.heap.size+1+1⟩) ⟨b1.trans (bL.mono (by omega)),(bL.block _ (by omega)).trans hR,hTB⟩ ⟨⟨?_,?_,?_⟩,?_,?_⟩ ⟨?_,?_,?_⟩ ⟨zs,?_,?_⟩ ⟨?_,?_⟩ ?_
 ·show w.heap.size≤w.heap.size+1+1;omega
 ·show w.heap.size+1+1≠w.heap.size+1;omega
 ·show w.heap.size+1+1≠w1.heap.size;omega
 ·show w.heap.size+1+1≠w1.heap.size+1;omega
 ·show w.heap.size+1+1<_;omega
 ·omega
 ·omega
 ·omega
 ·simpa using hz
 ·exact jbi hown (bL.block _ (by omega))
 ·refine ⟨_,1,rfl,by show 1≤maxLen;unfold maxLen;omega,fun W hW i hi=>⟨w1.heap.size,0,su,.slice p t.len cap,rfl,?_,hin,hsm⟩⟩
  have hi0:i=0:=by have:i<1:=hi;omega
  subst hi0
  have h:=hW.top
  rw [hoT] at h
  exact ⟨crw W _ 0 _ _ _ h,crw W _ 1 _ _ _ h,crw W _ 2 _ _ _ h,crw W _ 3 _ _ _ h,crw W _ 4 _ _ _ h,crw W _ 5 _ _ _ h⟩
 ·show 0<1;omega
 ·refine ⟨rfl,.inr ⟨w1.heap.size+1,1,#[.slice (some ⟨w1.heap.size,0,none⟩) 1 1,.slice (some ⟨w.heap.size+1+1,0,none⟩) 1 1],rfl,nzl _,?_,nlr _,by unfold maxLen;omega,rfl,rfl⟩⟩
  rw [hLB,hoL]
theorem jiY {w w1:World} {fT:X→X} {t:X} {su:Value} {p:Option Addr} {cap:Nat} {oA:Obj} (hin:t.At 0 w su (.slice p t.len cap)) (hsm:t.Small)
  (hg:((w.alloc oA).alloc (.cells #[.int .i64 0,.int .i64 0,.int .i64 0,.string ⟨#[]⟩,.slice none 0 0,.slice none 0 0] 27)).grownBy w1 none) {zs:List Value} (hz:zs.length=6)
  (hown:w1.ownsRow 0 27 6 (.slice (some ⟨w.heap.size+1+1,0,none⟩) 1 1) 1 zs) :
  ∃ (Kp:World→Prop) (New:Nat→Prop) (P:World→List Nat→Prop),Env Kp New∧(∀ W,Kp W→Below w.heap.size w W∧Six W (w.heap.size+1) 0 0 0 ⟨#[]⟩ (.slice none 0 0) (.slice none 0 0) 27)∧(∀ x,New x→w.heap.size≤x∧x≠w.heap.size+1)∧(∀ W S,P W S→XsOwn W 1 (fun _=>fT t) (.slice (some ⟨w.heap.size+1+1,0,none⟩) 1 1) S) ∧
   RemX fT 159 (jdL w Kp) Kp New P ((w1.alloc (.cells #[.int .i64 t.op,.int .i64 t.at_,.int .i64 t.n,.string t.s,su,.slice p t.len cap] 27)).alloc (.cells #[.slice (some ⟨w1.heap.size,0,none⟩) 1 1,.slice (some ⟨w.heap.size+1+1,0,none⟩) 1 1] 159)) [] [⟨1,fun _=>t,.slice (some ⟨w1.heap.size,0,none⟩) 1 1,w.heap.size+1+1⟩] (w1.heap.size+1) 1 :=
 ⟨_,_,_,Kept.env _ _ _ _ _,fun _ h=>⟨h.bel,h.res⟩,fun _ h=>⟨h.1,h.2.1⟩,fun _ _ h=>h,jiZ (fT:=fT) hin hsm hg hz hown⟩
section
variable {fT : X → X} {fS : X → List Int} {tL tJ : TypeId} {Src : Job X → Prop} {Kp : World → Prop} {New : Nat → Prop} {P : World → List Nat → Prop}
theorem jjS (hF:TurnXX fT fS) (W:World) (g q:Nat) (x:X) (sv v:Value):st6 W g q (fT x) sv v=st6 W g q x sv v:=by
 unfold st6;rw [hF.op,hF.at_,hF.n,hF.s]
theorem jmJ (hF:TurnXX fT fS) {B:Nat} {w:World} {x:X} {sx ux:Value} (h:x.At B w sx ux) (hs:x.Small):(fT x).s.size≤maxLen∧(-9223372036854775808≤(fT x).n∧(fT x).n≤9223372036854775807)∧(fT x).set.length≤maxLen:=by
 rw [hF.s,hF.n,hF.set]
 exact ⟨h.size,h.num,hF.small x hs⟩
theorem jky {Wm W:World} {R Ri:List Nat} {rest en:List (Job X)} {n g k:Nat} {kid:Nat→X} {fv:Value} {l:List XR} {junk:List Value} {gL cap NB:Nat} {sv sx ux:Value} {w:World} (hE:Env Kp New) (hF:TurnXX fT fS) (h:InnX fT X.count tL tJ Src Kp New P Wm R Ri rest en [] ⟨n,kid,fv,g⟩ l junk gL cap NB) (hb:Below Wm.heap.size Wm W) (hk:l.length=k) (hlt:k<n)
  (hx:(kid k).At 0 w sx ux) (hsm:(kid k).Small) (hs:Own W Wm.heap.size sv (fS (kid k))) (h0:(kid k).len=0) :
  InnX fT X.count tL tJ Src Kp New P (st6 W g (k*6) (kid k) sv (.slice none 0 0)) R (Ri++sv.ownBlock.toList) rest en [] ⟨n,kid,fv,g⟩ (l++[(fT (kid k),sv,.slice none 0 0)]) (junk.drop 6) gL cap NB:=by
 subst hk
 have h1:=WandX.leaf (sv:=sv) (h.below hE hb).wandi (hF.ne _ (jpE hx)) (jmJ hF hx hsm) (by rw [hF.set];exact hs.mono (nzl _)) (by rw [hF.len];exact h0)
 have h2:=InnX.store (v:=.slice none 0 0) hE h hb hs hlt (by simpa using h1) (by simp only [jbu,List.map_nil,List.sum_nil];rw [X.count_eq,h0];rfl)
 simp only [List.append_nil] at h2
 rw [←jjS hF]
 exact h2
theorem jkz {Wm W:World} {R Ri:List Nat} {rest en:List (Job X)} {n g k g1:Nat} {kid:Nat→X} {fv fv1:Value} {l:List XR} {junk:List Value} {gL cap NB:Nat} {sv sx ux:Value} {w:World} (hE:Env Kp New) (hF:TurnXX fT fS) (h:InnX fT X.count tL tJ Src Kp New P Wm R Ri rest en [⟨(kid k).len,(kid k).kid,fv1,g1⟩] ⟨n,kid,fv,g⟩ l junk gL cap NB) (hb:Below Wm.heap.size Wm W) (hk:l.length=k) (hlt:k<n)
  (hx:(kid k).At 0 w sx ux) (hsm:(kid k).Small) (hs:Own W Wm.heap.size sv (fS (kid k))) :
  InnX fT X.count tL tJ Src Kp New P (st6 W g (k*6) (kid k) sv (.slice (some ⟨g1,0,none⟩) (kid k).len (kid k).len)) R (Ri++sv.ownBlock.toList) rest (en++[⟨(kid k).len,(kid k).kid,fv1,g1⟩]) [] ⟨n,kid,fv,g⟩ (l++[(fT (kid k),sv,.slice (some ⟨g1,0,none⟩) (kid k).len (kid k).len)]) (junk.drop 6) gL cap NB:=by
 subst hk
 have h1:=WandX.node (sv:=sv) (v:=.slice (some ⟨g1,0,none⟩) (kid l.length).len (kid l.length).len) (h.below hE hb).wandi (hF.ne _ (jpE hx)) (jmJ hF hx hsm) (by rw [hF.set];exact hs.mono (nzl _))
 have e1:(⟨(fT (kid l.length)).len,(fT (kid l.length)).kid,.slice (some ⟨g1,0,none⟩) (kid l.length).len (kid l.length).len⟩:Ent X)=Job.ent fT ⟨(kid l.length).len,(kid l.length).kid,fv1,g1⟩:=by
  unfold Job.ent Job.tv
  rw [hF.len]
  congr 1
  funext i
  exact hF.kid _ i
 have h2:=InnX.store (v:=.slice (some ⟨g1,0,none⟩) (kid l.length).len (kid l.length).len) hE h hb hs hlt (by rw [List.map_append];simp only [List.map_cons,List.map_nil];rw [←e1];exact h1) (by rw [jdq];unfold Job.total;rw [X.count_eq,joN];simp only;omega)
 rw [←jjS hF]
 exact h2
end
end Go.Proofs.YtjmlfacbcfbhdaaGreatDoor
