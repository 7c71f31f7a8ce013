/- impl.remade, of what is written to data. Condition: at most 2^20 nodes. -/
import Derived.Test.YtoifhaakieigcaaRemD
import Derived.Test.YtoifhaakieigcaaMadeDatOf
import Derived.Test.YtoifhaakieigcaaToDat
import Derived.Test.YtoifhaakieigcaaStxOwn
import Derived.Test.YtoifhaakieigcaaStxP
import Derived.Deep.RegionLaw
import Derived.Deep.RegionWith
import Derived.Deep.AppendLies
import Derived.Deep.LoopGhost
namespace Go.Proofs.Ytoifhaakieigcaa
open Go.ChangeShapes Go.WideShapes Go.ChangeAt Go.RowKit

/-- What is made of a node: the same, but for its set. -/
structure TurnXD (fT : X → D) : Prop where
  ne : ∀ x, x ≠ .no → fT x ≠ .no
  op : ∀ x, (fT x).op = x.op
  at_ : ∀ x, (fT x).at_ = x.at_
  n : ∀ x, (fT x).n = x.n
  s : ∀ x, (fT x).s = x.s
  len : ∀ x, (fT x).len = x.len
  kid : ∀ x i, (fT x).kid i = fT (x.kid i)

/-- Where a row's nodes lie. -/
def SrcXD (w : World) (Kp : World → Prop) (e : Job X) : Prop := ∃ p cap, e.fv = .slice p e.len cap ∧ e.len ≤ maxLen ∧ ∀ W, Kp W → ∀ i, i < e.len → ∃ b o sv u, p = some ⟨b, o, none⟩ ∧ Head6 W b (o + i * 6) (e.kid i) sv u ∧ (e.kid i).At 0 w sv u

theorem at_neXD {B : Nat} {w : World} {t : X} {sv v : Value} (h : t.At B w sv v) : t ≠ .no := by
  rintro rfl; exact h.elim

theorem src_kidXD {w : World} {Kp : World → Prop} (hb : ∀ W, Kp W → Below w.heap.size w W) {x : X} {sx : Value} {p : Option Addr} {n cap g : Nat} (h : x.At 0 w sx (.slice p n cap)) (hn : n = x.len) : SrcXD w Kp ⟨n, x.kid, .slice p n cap, g⟩ := by
  subst hn
  obtain ⟨p', cap', he, hl, hat⟩ := h.xs.at
  injection he with h1 _ h2
  subst h1 h2
  refine ⟨p, cap, rfl, hl, fun W hW i hi => ?_⟩
  obtain ⟨b, o, sv, u, hp, hd, hin⟩ := hat i hi
  exact ⟨b, o, sv, u, hp, hd.below (hb W hW), hin⟩

theorem xdlist_info : (Try.prog.info? 89).map (fun i => (i.zero, i.size, i.bytes)) = some (some (.agg #[.slice none 0 0, .slice none 0 0]), 2, 48) := by kernel_rfl

theorem sumX_JXD (f : Nat → Nat) (k : Nat) : sumX f k = sumJ f k := by
  induction k with
  | zero => rfl
  | succ k ih => simp only [sumX, sumJ, ih]
theorem sumX_lenXD (f : Nat → Nat) (hf : ∀ i, 1 ≤ f i) (k : Nat) : k ≤ sumX f k := by
  rw [sumX_JXD]; exact sumJ_len f hf k
theorem count_posXD (t : X) : 1 ≤ t.count := by rw [X.count_eq]; omega

/-- The world when the loop begins: the row of one, and the list of one. -/
theorem rem_startXD {w w1 : World} {fT : X → D} {t : X} {su : Value} {p : Option Addr} {cap : Nat} {oA : Obj} (hin : t.At 0 w su (.slice p t.len cap))
    (hg : ((w.alloc oA).alloc (.cells #[.int .i64 0, .int .i64 0, .int .i64 0, .string ⟨#[]⟩, .slice none 0 0] 33)).grownBy w1 none) {zs : List Value} (hz : zs.length = 5)
    (hown : w1.ownsRow 0 33 5 (.slice (some ⟨w.heap.size + 1 + 1, 0, none⟩) 1 1) 1 zs) :
    RemD fT 89 (SrcXD w (Kept w (w.heap.size + 1) w1.heap.size (.cells #[.int .i64 0, .int .i64 0, .int .i64 0, .string ⟨#[]⟩, .slice none 0 0] 33) (.cells #[.int .i64 t.op, .int .i64 t.at_, .int .i64 t.n, .string t.s, su, .slice p t.len cap] 29)))
      (Kept w (w.heap.size + 1) w1.heap.size (.cells #[.int .i64 0, .int .i64 0, .int .i64 0, .string ⟨#[]⟩, .slice none 0 0] 33) (.cells #[.int .i64 t.op, .int .i64 t.at_, .int .i64 t.n, .string t.s, su, .slice p t.len cap] 29)) (NewB w (w.heap.size + 1) w1.heap.size)
      (fun w' S => SOwn w' 1 (fun _ => fT t) (.slice (some ⟨w.heap.size + 1 + 1, 0, none⟩) 1 1) S)
      ((w1.alloc (.cells #[.int .i64 t.op, .int .i64 t.at_, .int .i64 t.n, .string t.s, su, .slice p t.len cap] 29)).alloc (.cells #[.slice (some ⟨w1.heap.size, 0, none⟩) 1 1, .slice (some ⟨w.heap.size + 1 + 1, 0, none⟩) 1 1] 89)) [] [⟨1, fun _ => t, .slice (some ⟨w1.heap.size, 0, none⟩) 1 1, w.heap.size + 1 + 1⟩] (w1.heap.size + 1) 1 := by
  have e1 : (w.alloc oA).heap.size = w.heap.size + 1 := by simp
  have e2 : ((w.alloc oA).alloc (.cells #[.int .i64 0, .int .i64 0, .int .i64 0, .string ⟨#[]⟩, .slice none 0 0] 33)).heap.size = w.heap.size + 1 + 1 := by simp
  have hs1 : w.heap.size + 1 + 1 < w1.heap.size := (hown.lt _ rfl).2
  have b1 : Below w.heap.size w w1 := ((newx w oA).trans ((newx _ _).mono (by omega))).trans ⟨hg.os, hg.tape, hg.output, hg.size, fun x hx => hg.block x (by omega) (by simp)⟩
  have hR : w1.heap[w.heap.size + 1]? = some (.cells #[.int .i64 0, .int .i64 0, .int .i64 0, .string ⟨#[]⟩, .slice none 0 0] 33 (0, 0)) := by
    have n2 := heap_alloc_new (w.alloc oA) (.cells #[.int .i64 0, .int .i64 0, .int .i64 0, .string ⟨#[]⟩, .slice none 0 0] 33)
    rw [e1] at n2
    exact (hg.block _ (by omega) (by simp)).trans n2
  obtain ⟨oT, hoT⟩ : ∃ oT : Obj, oT = .cells #[.int .i64 t.op, .int .i64 t.at_, .int .i64 t.n, .string t.s, su, .slice p t.len cap] 29 := ⟨_, rfl⟩
  obtain ⟨oL, hoL⟩ : ∃ oL : Obj, oL = .cells #[.slice (some ⟨w1.heap.size, 0, none⟩) 1 1, .slice (some ⟨w.heap.size + 1 + 1, 0, none⟩) 1 1] 89 := ⟨_, rfl⟩
  rw [← hoT, ← hoL]
  have e3 : (w1.alloc oT).heap.size = w1.heap.size + 1 := by simp
  have bL : Below w1.heap.size w1 ((w1.alloc oT).alloc oL) := (newx w1 oT).trans ((newx _ oL).mono (by omega))
  have hTB : ((w1.alloc oT).alloc oL).heap[w1.heap.size]? = some oT := (Below.heap_alloc _ _ _ (by omega)).trans (heap_alloc_new w1 oT)
  have hLB : ((w1.alloc oT).alloc oL).heap[w1.heap.size + 1]? = some oL := by
    have := heap_alloc_new (w1.alloc oT) oL
    rwa [e3] at this
  have e4 : ((w1.alloc oT).alloc oL).heap.size = w1.heap.size + 1 + 1 := by simp
  refine RemD.start (e := ⟨1, fun _ => t, .slice (some ⟨w1.heap.size, 0, none⟩) 1 1, w.heap.size + 1 + 1⟩) ⟨b1.trans (bL.mono (by omega)), (bL.block _ (by omega)).trans hR, hTB⟩ ⟨⟨?_, ?_, ?_⟩, ?_, ?_⟩ ⟨?_, ?_, ?_⟩ ⟨zs, ?_, ?_⟩ ⟨?_, ?_⟩ ?_
  · show w.heap.size ≤ w.heap.size + 1 + 1; omega
  · show w.heap.size + 1 + 1 ≠ w.heap.size + 1; omega
  · show w.heap.size + 1 + 1 ≠ w1.heap.size; omega
  · show w.heap.size + 1 + 1 ≠ w1.heap.size + 1; omega
  · show w.heap.size + 1 + 1 < _; omega
  · omega
  · omega
  · omega
  · simpa using hz
  · exact own_sameG hown (bL.block _ (by omega))
  · refine ⟨_, 1, rfl, by show 1 ≤ maxLen; unfold maxLen; omega, fun W hW i hi => ⟨w1.heap.size, 0, su, .slice p t.len cap, rfl, ?_, hin⟩⟩
    have hi0 : i = 0 := by have : i < 1 := hi; omega
    subst hi0
    have h := hW.top
    rw [hoT] at h
    exact ⟨cell_of_row W _ 0 _ _ _ h, cell_of_row W _ 1 _ _ _ h, cell_of_row W _ 2 _ _ _ h, cell_of_row W _ 3 _ _ _ h, cell_of_row W _ 4 _ _ _ h, cell_of_row W _ 5 _ _ _ h⟩
  · show 0 < 1; omega
  · refine ⟨rfl, .inr ⟨w1.heap.size + 1, 1, #[.slice (some ⟨w1.heap.size, 0, none⟩) 1 1, .slice (some ⟨w.heap.size + 1 + 1, 0, none⟩) 1 1], rfl, Nat.zero_le _, ?_, Nat.le_refl _, by unfold maxLen; omega, rfl, rfl⟩⟩
    rw [hLB, hoL]

/-- .. with what is wanted of it, by name. -/
theorem rem_beginXD {w w1 : World} {fT : X → D} {t : X} {su : Value} {p : Option Addr} {cap : Nat} {oA : Obj} (hin : t.At 0 w su (.slice p t.len cap))
    (hg : ((w.alloc oA).alloc (.cells #[.int .i64 0, .int .i64 0, .int .i64 0, .string ⟨#[]⟩, .slice none 0 0] 33)).grownBy w1 none) {zs : List Value} (hz : zs.length = 5)
    (hown : w1.ownsRow 0 33 5 (.slice (some ⟨w.heap.size + 1 + 1, 0, none⟩) 1 1) 1 zs) :
    ∃ (Kp : World → Prop) (New : Nat → Prop) (P : World → List Nat → Prop), Env Kp New ∧ (∀ W, Kp W → Below w.heap.size w W ∧ Five W (w.heap.size + 1) 0 0 0 ⟨#[]⟩ (.slice none 0 0) 33) ∧ (∀ x, New x → w.heap.size ≤ x ∧ x ≠ w.heap.size + 1) ∧ (∀ W S, P W S → SOwn W 1 (fun _ => fT t) (.slice (some ⟨w.heap.size + 1 + 1, 0, none⟩) 1 1) S) ∧
      RemD fT 89 (SrcXD w Kp) Kp New P ((w1.alloc (.cells #[.int .i64 t.op, .int .i64 t.at_, .int .i64 t.n, .string t.s, su, .slice p t.len cap] 29)).alloc (.cells #[.slice (some ⟨w1.heap.size, 0, none⟩) 1 1, .slice (some ⟨w.heap.size + 1 + 1, 0, none⟩) 1 1] 89)) [] [⟨1, fun _ => t, .slice (some ⟨w1.heap.size, 0, none⟩) 1 1, w.heap.size + 1 + 1⟩] (w1.heap.size + 1) 1 :=
  ⟨_, _, _, Kept.env _ _ _ _ _, fun _ h => ⟨h.bel, h.res⟩, fun _ h => ⟨h.1, h.2.1⟩, fun _ _ h => h, rem_startXD (fT := fT) hin hg hz hown⟩

section
variable {fT : X → D} {tL tJ : TypeId} {Src : Job X → Prop} {Kp : World → Prop} {New : Nat → Prop} {P : World → List Nat → Prop}
/-- Five stores, of a node's fields. -/
abbrev st5x (W : World) (g q : Nat) (x : X) (v : Value) : World := ((((W.setCell ⟨g, q, none⟩ (.int .i64 x.op)).setCell ⟨g, q + 1, none⟩ (.int .i64 x.at_)).setCell ⟨g, q + 2, none⟩ (.int .i64 x.n)).setCell ⟨g, q + 3, none⟩ (.string x.s)).setCell ⟨g, q + 4, none⟩ v
theorem st5_turnXD (hF : TurnXD fT) (W : World) (g q : Nat) (x : X) (v : Value) : st5 W g q (fT x) v = st5x W g q x v := by
  unfold st5 st5x; rw [hF.op, hF.at_, hF.n, hF.s]
theorem plainXD (hF : TurnXD fT) {B : Nat} {w : World} {x : X} {sx ux : Value} (h : x.At B w sx ux) : (fT x).s.size ≤ maxLen ∧ (-9223372036854775808 ≤ (fT x).n ∧ (fT x).n ≤ 9223372036854775807) := by
  rw [hF.s, hF.n]
  exact ⟨h.size, h.num⟩
/-- A datum without kids is stored. -/
theorem innXD_leaf {Wm W : World} {R Ri : List Nat} {rest en : List (Job X)} {n g k : Nat} {kid : Nat → X} {fv : Value} {l : List (D × Value)} {junk : List Value} {gL cap NB : Nat} {sx ux : Value} {w : World} (hE : Env Kp New) (hF : TurnXD fT) (h : InnD fT X.count tL tJ Src Kp New P Wm R Ri rest en [] ⟨n, kid, fv, g⟩ l junk gL cap NB) (hb : Below Wm.heap.size Wm W) (hk : l.length = k) (hlt : k < n)
    (hx : (kid k).At 0 w sx ux) (h0 : (kid k).len = 0) :
    InnD fT X.count tL tJ Src Kp New P (st5x W g (k * 5) (kid k) (.slice none 0 0)) R Ri rest en [] ⟨n, kid, fv, g⟩ (l ++ [(fT (kid k), .slice none 0 0)]) (junk.drop 5) gL cap NB := by
  subst hk
  have h1 := WandD.leaf (h.below hE hb).wandi (hF.ne _ (at_neXD hx)) (plainXD hF hx) (by rw [hF.len]; exact h0)
  have h2 := InnD.store (v := .slice none 0 0) hE h hb hlt (by simpa using h1) (by simp only [totalJ, List.map_nil, List.sum_nil]; rw [X.count_eq, h0]; rfl)
  simp only [List.append_nil] at h2
  rw [← st5_turnXD hF]
  exact h2
/-- A datum with kids is stored; their row is left. -/
theorem innXD_node {Wm W : World} {R Ri : List Nat} {rest en : List (Job X)} {n g k g1 : Nat} {kid : Nat → X} {fv fv1 : Value} {l : List (D × Value)} {junk : List Value} {gL cap NB : Nat} {sx ux : Value} {w : World} (hE : Env Kp New) (hF : TurnXD fT) (h : InnD fT X.count tL tJ Src Kp New P Wm R Ri rest en [⟨(kid k).len, (kid k).kid, fv1, g1⟩] ⟨n, kid, fv, g⟩ l junk gL cap NB) (hb : Below Wm.heap.size Wm W) (hk : l.length = k) (hlt : k < n)
    (hx : (kid k).At 0 w sx ux) :
    InnD fT X.count tL tJ Src Kp New P (st5x W g (k * 5) (kid k) (.slice (some ⟨g1, 0, none⟩) (kid k).len (kid k).len)) R Ri rest (en ++ [⟨(kid k).len, (kid k).kid, fv1, g1⟩]) [] ⟨n, kid, fv, g⟩ (l ++ [(fT (kid k), .slice (some ⟨g1, 0, none⟩) (kid k).len (kid k).len)]) (junk.drop 5) gL cap NB := by
  subst hk
  have h1 := WandD.node (v := .slice (some ⟨g1, 0, none⟩) (kid l.length).len (kid l.length).len) (h.below hE hb).wandi (hF.ne _ (at_neXD hx)) (plainXD hF hx)
  rw [List.append_nil] at h1
  have e1 : (⟨(fT (kid l.length)).len, (fT (kid l.length)).kid, .slice (some ⟨g1, 0, none⟩) (kid l.length).len (kid l.length).len⟩ : Ent D) = Job.ent fT ⟨(kid l.length).len, (kid l.length).kid, fv1, g1⟩ := by
    unfold Job.ent Job.tv
    rw [hF.len]
    congr 1
    funext i
    exact hF.kid _ i
  have h2 := InnD.store (v := .slice (some ⟨g1, 0, none⟩) (kid l.length).len (kid l.length).len) hE h hb hlt (by rw [List.map_append]; simp only [List.map_cons, List.map_nil]; rw [← e1]; exact h1) (by rw [totalJ_one]; unfold Job.total; rw [X.count_eq, sumX_JXD]; simp only; omega)
  rw [← st5_turnXD hF]
  exact h2
end
end Go.Proofs.Ytoifhaakieigcaa
