/- impl.remade, of data to what is written. Condition: at most 2^20 nodes. -/
import Derived.Test.YtoifhaakieigcaaRemX
import Derived.Test.YtoifhaakieigcaaMadeStxOf
import Derived.Test.YtoifhaakieigcaaDatRows
import Derived.Test.YtoifhaakieigcaaToStx
import Derived.Test.YtoifhaakieigcaaStxP
import Derived.Deep.RegionLaw
import Derived.Deep.RegionWith
import Derived.Deep.AppendLies
import Derived.Deep.LoopGhost
namespace Go.Proofs.Ytoifhaakieigcaa
open Go.ChangeShapes Go.WideShapes Go.ChangeAt Go.RowKit

/-- What is made of a node: the same, but for its set. -/
structure TurnDX (fT : D → X) (fS : D → List Int) : Prop where
  ne : ∀ x, x ≠ .no → fT x ≠ .no
  op : ∀ x, (fT x).op = x.op
  at_ : ∀ x, (fT x).at_ = x.at_
  n : ∀ x, (fT x).n = x.n
  s : ∀ x, (fT x).s = x.s
  set : ∀ x, (fT x).set = fS x
  len : ∀ x, (fT x).len = x.len
  kid : ∀ x i, (fT x).kid i = fT (x.kid i)
  small : ∀ x, (fS x).length ≤ maxLen

/-- Where a row's nodes lie. -/
def SrcDX (w : World) (Kp : World → Prop) (e : Job D) : Prop := ∃ p cap, e.fv = .slice p e.len cap ∧ e.len ≤ maxLen ∧ ∀ W, Kp W → ∀ i, i < e.len → ∃ b o u, p = some ⟨b, o, none⟩ ∧ Head W b (o + i * 5) (e.kid i) u ∧ (e.kid i).In w u

theorem in_ne {w : World} {t : D} {v : Value} (h : t.In w v) : t ≠ .no := by
  rintro rfl; exact h.elim

theorem src_kidDX {w : World} {Kp : World → Prop} (hb : ∀ W, Kp W → Below w.heap.size w W) {x : D} {p : Option Addr} {n cap g : Nat} (h : x.In w (.slice p n cap)) (hn : n = x.len) : SrcDX w Kp ⟨n, x.kid, .slice p n cap, g⟩ := by
  subst hn
  obtain ⟨p', cap', he, hl, hat⟩ := h.sl.at
  injection he with h1 _ h2
  subst h1 h2
  refine ⟨p, cap, rfl, hl, fun W hW i hi => ?_⟩
  obtain ⟨b, o, u, hp, hd, hin⟩ := hat i hi
  exact ⟨b, o, u, hp, hd.below (hb W hW), hin⟩

theorem dxlist_info : (Try.prog.info? 81).map (fun i => (i.zero, i.size, i.bytes)) = some (some (.agg #[.slice none 0 0, .slice none 0 0]), 2, 48) := by kernel_rfl

theorem sumTo_J (f : Nat → Nat) (k : Nat) : sumTo f k = sumJ f k := by
  induction k with
  | zero => rfl
  | succ k ih => simp only [sumTo, sumJ, ih]
theorem sumTo_len (f : Nat → Nat) (hf : ∀ i, 1 ≤ f i) (k : Nat) : k ≤ sumTo f k := by
  rw [sumTo_J]; exact sumJ_len f hf k
theorem count_posD (t : D) : 1 ≤ t.count := by rw [D.count_eq]; omega

/-- What impl's closure must do at a node. -/
def MadeDX (w : World) (PS : Nat) (fS : D → List Int) : Prop := ∀ (x : D) (vp : Option Addr) (vc : Nat) (kp : Option Addr) (kn kc : Nat) (W : World), Below w.heap.size w W → x.In w (.slice vp x.len vc) →
  Calls Try.prog 38 #[.agg #[.int .i64 x.op, .int .i64 x.at_, .int .i64 x.n, .string x.s, .slice vp x.len vc], .slice kp kn kc, .pointer (some ⟨PS, 0, none⟩)] W fun e W' => ∃ sv, e = .returned (.agg #[.int .i64 x.op, .int .i64 x.at_, .int .i64 x.n, .string x.s, sv, .slice kp kn kc]) ∧ Below W.heap.size W W' ∧ Own W' W.heap.size sv (fS x)

/-- The world when the loop begins: the row of one, and the list of one. -/
theorem rem_startDX {w w1 : World} {fT : D → X} {t : D} {p : Option Addr} {cap : Nat} {oA : Obj} (hin : t.In w (.slice p t.len cap))
    (hg : ((w.alloc oA).alloc (.cells #[.int .i64 0, .int .i64 0, .int .i64 0, .string ⟨#[]⟩, .slice none 0 0, .slice none 0 0] 29)).grownBy w1 none) {zs : List Value} (hz : zs.length = 6)
    (hown : w1.ownsRow 0 29 6 (.slice (some ⟨w.heap.size + 1 + 1, 0, none⟩) 1 1) 1 zs) :
    RemX fT 81 (SrcDX w (Kept w (w.heap.size + 1) w1.heap.size (.cells #[.int .i64 0, .int .i64 0, .int .i64 0, .string ⟨#[]⟩, .slice none 0 0, .slice none 0 0] 29) (.cells #[.int .i64 t.op, .int .i64 t.at_, .int .i64 t.n, .string t.s, .slice p t.len cap] 33)))
      (Kept w (w.heap.size + 1) w1.heap.size (.cells #[.int .i64 0, .int .i64 0, .int .i64 0, .string ⟨#[]⟩, .slice none 0 0, .slice none 0 0] 29) (.cells #[.int .i64 t.op, .int .i64 t.at_, .int .i64 t.n, .string t.s, .slice p t.len cap] 33)) (NewB w (w.heap.size + 1) w1.heap.size)
      (fun w' S => XsOwn w' 1 (fun _ => fT t) (.slice (some ⟨w.heap.size + 1 + 1, 0, none⟩) 1 1) S)
      ((w1.alloc (.cells #[.int .i64 t.op, .int .i64 t.at_, .int .i64 t.n, .string t.s, .slice p t.len cap] 33)).alloc (.cells #[.slice (some ⟨w1.heap.size, 0, none⟩) 1 1, .slice (some ⟨w.heap.size + 1 + 1, 0, none⟩) 1 1] 81)) [] [⟨1, fun _ => t, .slice (some ⟨w1.heap.size, 0, none⟩) 1 1, w.heap.size + 1 + 1⟩] (w1.heap.size + 1) 1 := by
  have e1 : (w.alloc oA).heap.size = w.heap.size + 1 := by simp
  have e2 : ((w.alloc oA).alloc (.cells #[.int .i64 0, .int .i64 0, .int .i64 0, .string ⟨#[]⟩, .slice none 0 0, .slice none 0 0] 29)).heap.size = w.heap.size + 1 + 1 := by simp
  have hs1 : w.heap.size + 1 + 1 < w1.heap.size := (hown.lt _ rfl).2
  have b1 : Below w.heap.size w w1 := ((newx w oA).trans ((newx _ _).mono (by omega))).trans ⟨hg.os, hg.tape, hg.output, hg.size, fun x hx => hg.block x (by omega) (by simp)⟩
  have hR : w1.heap[w.heap.size + 1]? = some (.cells #[.int .i64 0, .int .i64 0, .int .i64 0, .string ⟨#[]⟩, .slice none 0 0, .slice none 0 0] 29 (0, 0)) := by
    have n2 := heap_alloc_new (w.alloc oA) (.cells #[.int .i64 0, .int .i64 0, .int .i64 0, .string ⟨#[]⟩, .slice none 0 0, .slice none 0 0] 29)
    rw [e1] at n2
    exact (hg.block _ (by omega) (by simp)).trans n2
  obtain ⟨oT, hoT⟩ : ∃ oT : Obj, oT = .cells #[.int .i64 t.op, .int .i64 t.at_, .int .i64 t.n, .string t.s, .slice p t.len cap] 33 := ⟨_, rfl⟩
  obtain ⟨oL, hoL⟩ : ∃ oL : Obj, oL = .cells #[.slice (some ⟨w1.heap.size, 0, none⟩) 1 1, .slice (some ⟨w.heap.size + 1 + 1, 0, none⟩) 1 1] 81 := ⟨_, rfl⟩
  rw [← hoT, ← hoL]
  have e3 : (w1.alloc oT).heap.size = w1.heap.size + 1 := by simp
  have bL : Below w1.heap.size w1 ((w1.alloc oT).alloc oL) := (newx w1 oT).trans ((newx _ oL).mono (by omega))
  have hTB : ((w1.alloc oT).alloc oL).heap[w1.heap.size]? = some oT := (Below.heap_alloc _ _ _ (by omega)).trans (heap_alloc_new w1 oT)
  have hLB : ((w1.alloc oT).alloc oL).heap[w1.heap.size + 1]? = some oL := by
    have := heap_alloc_new (w1.alloc oT) oL
    rwa [e3] at this
  have e4 : ((w1.alloc oT).alloc oL).heap.size = w1.heap.size + 1 + 1 := by simp
  refine RemX.start (e := ⟨1, fun _ => t, .slice (some ⟨w1.heap.size, 0, none⟩) 1 1, w.heap.size + 1 + 1⟩) ⟨b1.trans (bL.mono (by omega)), (bL.block _ (by omega)).trans hR, hTB⟩ ⟨⟨?_, ?_, ?_⟩, ?_, ?_⟩ ⟨?_, ?_, ?_⟩ ⟨zs, ?_, ?_⟩ ⟨?_, ?_⟩ ?_
  · show w.heap.size ≤ w.heap.size + 1 + 1; omega
  · show w.heap.size + 1 + 1 ≠ w.heap.size + 1; omega
  · show w.heap.size + 1 + 1 ≠ w1.heap.size; omega
  · show w.heap.size + 1 + 1 ≠ w1.heap.size + 1; omega
  · show w.heap.size + 1 + 1 < _; omega
  · omega
  · omega
  · omega
  · simpa using hz
  · exact own_sameG hown (bL.block _ (by omega))
  · refine ⟨_, 1, rfl, by show 1 ≤ maxLen; unfold maxLen; omega, fun W hW i hi => ⟨w1.heap.size, 0, .slice p t.len cap, rfl, ?_, hin⟩⟩
    have hi0 : i = 0 := by have : i < 1 := hi; omega
    subst hi0
    have h := hW.top
    rw [hoT] at h
    exact ⟨cell_of_row W _ 0 _ _ _ h, cell_of_row W _ 1 _ _ _ h, cell_of_row W _ 2 _ _ _ h, cell_of_row W _ 3 _ _ _ h, cell_of_row W _ 4 _ _ _ h⟩
  · show 0 < 1; omega
  · refine ⟨rfl, .inr ⟨w1.heap.size + 1, 1, #[.slice (some ⟨w1.heap.size, 0, none⟩) 1 1, .slice (some ⟨w.heap.size + 1 + 1, 0, none⟩) 1 1], rfl, Nat.zero_le _, ?_, Nat.le_refl _, by unfold maxLen; omega, rfl, rfl⟩⟩
    rw [hLB, hoL]

/-- .. with what is wanted of it, by name. -/
theorem rem_beginDX {w w1 : World} {fT : D → X} {t : D} {p : Option Addr} {cap : Nat} {oA : Obj} (hin : t.In w (.slice p t.len cap))
    (hg : ((w.alloc oA).alloc (.cells #[.int .i64 0, .int .i64 0, .int .i64 0, .string ⟨#[]⟩, .slice none 0 0, .slice none 0 0] 29)).grownBy w1 none) {zs : List Value} (hz : zs.length = 6)
    (hown : w1.ownsRow 0 29 6 (.slice (some ⟨w.heap.size + 1 + 1, 0, none⟩) 1 1) 1 zs) :
    ∃ (Kp : World → Prop) (New : Nat → Prop) (P : World → List Nat → Prop), Env Kp New ∧ (∀ W, Kp W → Below w.heap.size w W ∧ Six W (w.heap.size + 1) 0 0 0 ⟨#[]⟩ (.slice none 0 0) (.slice none 0 0) 29) ∧ (∀ x, New x → w.heap.size ≤ x ∧ x ≠ w.heap.size + 1) ∧ (∀ W S, P W S → XsOwn W 1 (fun _ => fT t) (.slice (some ⟨w.heap.size + 1 + 1, 0, none⟩) 1 1) S) ∧
      RemX fT 81 (SrcDX w Kp) Kp New P ((w1.alloc (.cells #[.int .i64 t.op, .int .i64 t.at_, .int .i64 t.n, .string t.s, .slice p t.len cap] 33)).alloc (.cells #[.slice (some ⟨w1.heap.size, 0, none⟩) 1 1, .slice (some ⟨w.heap.size + 1 + 1, 0, none⟩) 1 1] 81)) [] [⟨1, fun _ => t, .slice (some ⟨w1.heap.size, 0, none⟩) 1 1, w.heap.size + 1 + 1⟩] (w1.heap.size + 1) 1 :=
  ⟨_, _, _, Kept.env _ _ _ _ _, fun _ h => ⟨h.bel, h.res⟩, fun _ h => ⟨h.1, h.2.1⟩, fun _ _ h => h, rem_startDX (fT := fT) hin hg hz hown⟩

section
variable {fT : D → X} {fS : D → List Int} {tL tJ : TypeId} {Src : Job D → Prop} {Kp : World → Prop} {New : Nat → Prop} {P : World → List Nat → Prop}
theorem st6_turnDX (hF : TurnDX fT fS) (W : World) (g q : Nat) (x : D) (sv v : Value) : st6 W g q (fT x) sv v = (((((W.setCell ⟨g, q, none⟩ (.int .i64 x.op)).setCell ⟨g, q + 1, none⟩ (.int .i64 x.at_)).setCell ⟨g, q + 2, none⟩ (.int .i64 x.n)).setCell ⟨g, q + 3, none⟩ (.string x.s)).setCell ⟨g, q + 4, none⟩ sv).setCell ⟨g, q + 5, none⟩ v := by
  unfold st6; rw [hF.op, hF.at_, hF.n, hF.s]
/-- Six stores, of a datum's fields. -/
abbrev st6d (W : World) (g q : Nat) (x : D) (sv v : Value) : World := (((((W.setCell ⟨g, q, none⟩ (.int .i64 x.op)).setCell ⟨g, q + 1, none⟩ (.int .i64 x.at_)).setCell ⟨g, q + 2, none⟩ (.int .i64 x.n)).setCell ⟨g, q + 3, none⟩ (.string x.s)).setCell ⟨g, q + 4, none⟩ sv).setCell ⟨g, q + 5, none⟩ v
theorem plainDX (hF : TurnDX fT fS) {w : World} {x : D} {ux : Value} (h : x.In w ux) : (fT x).s.size ≤ maxLen ∧ (-9223372036854775808 ≤ (fT x).n ∧ (fT x).n ≤ 9223372036854775807) ∧ (fT x).set.length ≤ maxLen := by
  rw [hF.s, hF.n, hF.set]
  exact ⟨h.size, h.num, hF.small x⟩
/-- A node without kids is stored. -/
theorem innDX_leaf {Wm W : World} {R Ri : List Nat} {rest en : List (Job D)} {n g k : Nat} {kid : Nat → D} {fv : Value} {l : List XR} {junk : List Value} {gL cap NB : Nat} {sv ux : Value} {w : World} (hE : Env Kp New) (hF : TurnDX fT fS) (h : InnX fT D.count tL tJ Src Kp New P Wm R Ri rest en [] ⟨n, kid, fv, g⟩ l junk gL cap NB) (hb : Below Wm.heap.size Wm W) (hk : l.length = k) (hlt : k < n)
    (hx : (kid k).In w ux) (hs : Own W Wm.heap.size sv (fS (kid k))) (h0 : (kid k).len = 0) :
    InnX fT D.count tL tJ Src Kp New P (st6d W g (k * 6) (kid k) sv (.slice none 0 0)) R (Ri ++ sv.ownBlock.toList) rest en [] ⟨n, kid, fv, g⟩ (l ++ [(fT (kid k), sv, .slice none 0 0)]) (junk.drop 6) gL cap NB := by
  subst hk
  have h1 := WandX.leaf (sv := sv) (h.below hE hb).wandi (hF.ne _ (in_ne hx)) (plainDX hF hx) (by rw [hF.set]; exact hs.mono (Nat.zero_le _)) (by rw [hF.len]; exact h0)
  have h2 := InnX.store (v := .slice none 0 0) hE h hb hs hlt (by simpa using h1) (by simp only [totalJ, List.map_nil, List.sum_nil]; rw [D.count_eq, h0]; rfl)
  simp only [List.append_nil] at h2
  rw [st6_turnDX hF] at h2
  exact h2
/-- A node with kids is stored; their row is left. -/
theorem innDX_node {Wm W : World} {R Ri : List Nat} {rest en : List (Job D)} {n g k g1 : Nat} {kid : Nat → D} {fv fv1 : Value} {l : List XR} {junk : List Value} {gL cap NB : Nat} {sv ux : Value} {w : World} (hE : Env Kp New) (hF : TurnDX fT fS) (h : InnX fT D.count tL tJ Src Kp New P Wm R Ri rest en [⟨(kid k).len, (kid k).kid, fv1, g1⟩] ⟨n, kid, fv, g⟩ l junk gL cap NB) (hb : Below Wm.heap.size Wm W) (hk : l.length = k) (hlt : k < n)
    (hx : (kid k).In w ux) (hs : Own W Wm.heap.size sv (fS (kid k))) :
    InnX fT D.count tL tJ Src Kp New P (st6d W g (k * 6) (kid k) sv (.slice (some ⟨g1, 0, none⟩) (kid k).len (kid k).len)) R (Ri ++ sv.ownBlock.toList) rest (en ++ [⟨(kid k).len, (kid k).kid, fv1, g1⟩]) [] ⟨n, kid, fv, g⟩ (l ++ [(fT (kid k), sv, .slice (some ⟨g1, 0, none⟩) (kid k).len (kid k).len)]) (junk.drop 6) gL cap NB := by
  subst hk
  have h1 := WandX.node (sv := sv) (v := .slice (some ⟨g1, 0, none⟩) (kid l.length).len (kid l.length).len) (h.below hE hb).wandi (hF.ne _ (in_ne hx)) (plainDX hF hx) (by rw [hF.set]; exact hs.mono (Nat.zero_le _))
  have e1 : (⟨(fT (kid l.length)).len, (fT (kid l.length)).kid, .slice (some ⟨g1, 0, none⟩) (kid l.length).len (kid l.length).len⟩ : Ent X) = Job.ent fT ⟨(kid l.length).len, (kid l.length).kid, fv1, g1⟩ := by
    unfold Job.ent Job.tv
    rw [hF.len]
    congr 1
    funext i
    exact hF.kid _ i
  have h2 := InnX.store (v := .slice (some ⟨g1, 0, none⟩) (kid l.length).len (kid l.length).len) hE h hb hs hlt (by rw [List.map_append]; simp only [List.map_cons, List.map_nil]; rw [← e1]; exact h1) (by rw [totalJ_one]; unfold Job.total; rw [D.count_eq, sumTo_J]; simp only; omega)
  rw [st6_turnDX hF] at h2
  exact h2
end
end Go.Proofs.Ytoifhaakieigcaa
