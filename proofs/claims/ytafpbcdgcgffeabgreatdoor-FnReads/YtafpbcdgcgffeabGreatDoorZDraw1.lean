/- spec.l3Draw: some data in memory of the call's own. Condition: the code's bytes can be read. -/
import Derived.Test.YtafpbcdgcgffeabGreatDoorZDrawDat1
import Derived.Test.YtafpbcdgcgffeabGreatDoorZDrawTok
import Derived.Test.YtafpbcdgcgffeabGreatDoorZSpecReadAll
import Derived.Deep.RegionHeld3
import Derived.Deep.AppendLies
namespace Go.Proofs.YtafpbcdgcgffeabGreatDoor
open Go.ChangeShapes Go.WideShapes Go.ChangeAt Go.RowKit

/-- What a text's data weigh. -/
theorem readP_weight (s : ByteArray) (ds : List D) (r : List Tok) (h : readP s = .ok ds r) : kidsWeight ds.length (kidsOf ds) ≤ 52000 := by
  unfold readP at h
  split at h
  · rename_i hb
    have h4 : s.size ≤ 4000 := by
      by_cases h4 : s.size ≤ 4000
      · exact h4
      · rw [toks_long s h4] at hb; simp at hb
    cases hr : readL s.size (toks s).1 with
    | bad p => rw [hr] at h; simp at h
    | ok ds' r' =>
      rw [hr] at h
      simp only at h
      split at h
      · injection h with h1 _
        subst h1
        exact readL_w _ _ _ _ (toks_w s) (toks_good s).2.1 hr
      · simp at h
  · simp at h

theorem NodeAt.apart {w : World} {t : D} {v : Value} {S : List Nat} {g j : Nat} {x : D} {u : Value} {T : List Nat} (h : NodeAt w t v S g j x u T) (hn : S.Nodup) : T.Nodup ∧ g ∉ T := by
  induction h with
  | here hp hr hj h1 h2 =>
    rw [hr.eq, List.nodup_cons] at hn
    exact ⟨(List.pairwise_flatten.1 hn.2).1 _ (List.mem_of_getElem? h2), fun hg => hn.1 (mem_flat h2 hg)⟩
  | there hp hr hi h1 h2 _ ih =>
    rw [hr.eq, List.nodup_cons] at hn
    exact ih ((List.pairwise_flatten.1 hn.2).1 _ (List.mem_of_getElem? h2))

theorem root_there {w : World} {t : D} {v : Value} {S : List Nat} {g j : Nat} {x : D} {u : Value} {T : List Nat} (h : NodeAt w t v S g j x u T) : ∀ b ∈ S, b < w.heap.size := by
  cases h with
  | here hp hr hj h1 h2 => exact fun b hb => DOwn.there (.mk t.op t.at_ t.n t.s t.len t.kid) (v := v) (S := S) ⟨hp, hr.sown⟩ b hb
  | there hp hr hi h1 h2 _ => exact fun b hb => DOwn.there (.mk t.op t.at_ t.n t.s t.len t.kid) (v := v) (S := S) ⟨hp, hr.sown⟩ b hb

theorem swap_weight {n : Nat} {kid kid' : Nat → D} {x x' : D} {q : Nat} (h : (rootD n kid').weight + x.weight = (rootD n kid).weight + x'.weight) (hw : kidsWeight n kid ≤ 52000) (hx : x'.weight ≤ x.weight + q) (hq : q ≤ 8000) : kidsWeight n kid' ≤ 60000 := by
  have e1 : (rootD n kid').weight = kidsWeight n kid' := by rw [D.weight_eq]; exact Nat.zero_add _
  have e2 : (rootD n kid).weight = kidsWeight n kid := by rw [D.weight_eq]; exact Nat.zero_add _
  omega

/-- One field of a node put anew. -/
theorem put_done {w0 wr : World} {c B n : Nat} {kid : Nat → D} {v : Value} {S : List Nat} {g j : Nat} {x : D} {u : Value} {T : List Nat} (hN : NodeAt w0 (rootD n kid) v S g j x u T) (hn : S.Nodup) (hS : ∀ b ∈ S, B ≤ b) (hcB : c < B) (hw : kidsWeight n kid ≤ 52000) (he : Ext c w0 wr)
    (f : Nat) (y : Value) (x' : D) (hf : f < 5) (hx : dcells (x', u) = (dcells (x, u)).set f y) (hl : x'.len = x.len) (hk : x'.kid = x.kid) (hm : ∃ op a n s k kd, x' = .mk op a n s k kd) (hp : x'.s.size ≤ maxLen ∧ -9223372036854775808 ≤ x'.n ∧ x'.n ≤ 9223372036854775807) (hwt : x'.s.size ≤ 100 + x.s.size) :
    ∃ kid', SlB B (wr.setCell ⟨g, j * 5 + f, none⟩ y) n kid' v ∧ kidsWeight n kid' ≤ 60000 := by
  obtain ⟨h1, h2, h3, -⟩ := hN.facts
  obtain ⟨hTn, hgT⟩ := hN.apart hn
  have hlt : ∀ b ∈ T, b < w0.heap.size := fun b hb => DOwn.there _ h1 b hb
  have hgl : g < w0.heap.size := by
    have := (hN.cells).1.c0
    exact World.block_lt_of_cell? w0 _ this
  have same : ∀ b, b < w0.heap.size → b ≠ g → B ≤ b → (wr.setCell ⟨g, j * 5 + f, none⟩ y).heap[b]? = w0.heap[b]? := fun b hb hbg hB =>
    (Below.heap_setCell wr ⟨g, j * 5 + f, none⟩ y b hbg).trans (he.block b hb (by omega))
  have hd : DOwn (wr.setCell ⟨g, j * 5 + f, none⟩ y) x' u T := by
    obtain ⟨op, a, nn, s, k, kd, rfl⟩ := hm
    refine ⟨hp, ?_⟩
    have := h1.sown.same (w' := wr.setCell ⟨g, j * 5 + f, none⟩ y) (fun b hb => same b (hlt b hb) (fun e => hgT (e ▸ hb)) (hS b (h3 b hb)))
    simp only [D.len, D.kid] at hl hk
    rw [hl, hk]
    exact this
  obtain ⟨kid', S', k1, k2, k3, k4, k5⟩ := hN.swap hn (w' := wr.setCell ⟨g, j * 5 + f, none⟩ y) (x' := x') (u' := u) (T' := T)
    (fun len cap l ho hl hj => row_put (x', u) y (he.block g hgl (by have := hS g h2; omega)) hf hx ho hj) hd hTn (fun b hb => .inl hb)
    (fun b hb hbg _ => same b (by
      have := (root_there hN b hb)
      exact this) hbg (hS b hb))
  refine ⟨kid', k1.sown.slB (fun b hb => ?_), swap_weight k5 hw (q := 100) ?_ (by omega)⟩
  · rcases k3 b hb with h | h
    · exact hS b h
    · exact hS b (h3 b h)
  · rw [D.weight_eq x', D.weight_eq x, hl, hk]
    omega

theorem Ext.transB {c : Nat} {w w1 w2 : World} (h : Ext c w w1) (g : Below w.heap.size w1 w2) : Ext c w w2 :=
  ⟨g.os.trans h.os, g.tape.trans h.tape, g.output.trans h.output, Nat.le_trans h.size g.size, fun k hk hc => (g.block k hk).trans (h.block k hk hc)⟩
theorem CurAt.keepC {c : Nat} {a : Option Addr} {len cap : Nat} {w w' : World} (h : CurAt c a len cap w) (hb : ∀ k, k ≤ c → w'.heap[k]? = w.heap[k]?) : CurAt c a len cap w' := by
  obtain ⟨hc, i, hh, h0, hk⟩ := h
  exact ⟨hc.keep fun k hk _ => hb k (by omega), i, hh, h0, by rw [hb c (Nat.le_refl _)]; exact hk⟩

/-- What is told of drawn data. -/
structure Drawn3 (w w' : World) (c : Nat) (a : Option Addr) (len cap : Nat) (v : Value) : Prop where
  ex : ∃ n kid, SlB w.heap.size w' n kid v ∧ kidsWeight n kid ≤ 60000
  ext : Ext c w w'
  cur : CurAt c a len cap w'

/-- What the walk knows behind the reading. -/
structure Base3 (w w2 : World) (c n : Nat) (kid : Nat → D) (v : Value) (S : List Nat) : Prop where
  nd : S.Nodup
  up : ∀ b ∈ S, w.heap.size ≤ b
  cw : c < w.heap.size
  wt : kidsWeight n kid ≤ 52000
  ext : Ext c w w2

theorem put_finish {w w2 wr : World} {c n : Nat} {kid : Nat → D} {v : Value} {S : List Nat} {a : Option Addr} {len cap : Nat} (hb : Base3 w w2 c n kid v S) {g j : Nat} {x : D} {u : Value} {T : List Nat} (hN : NodeAt w2 (rootD n kid) v S g j x u T) (he : Ext c w2 wr) (hc : CurAt c a len cap wr)
    (f : Nat) (y : Value) (x' : D) (hf : f < 5) (hx : dcells (x', u) = (dcells (x, u)).set f y) (hl : x'.len = x.len) (hk : x'.kid = x.kid) (hm : ∃ op a n s k kd, x' = .mk op a n s k kd) (hp : x'.s.size ≤ maxLen ∧ -9223372036854775808 ≤ x'.n ∧ x'.n ≤ 9223372036854775807) (hwt : x'.s.size ≤ 100 + x.s.size) :
    Drawn3 w (wr.setCell ⟨g, j * 5 + f, none⟩ y) c a len cap v := by
  have hg : w.heap.size ≤ g := hb.up g hN.facts.2.1
  obtain ⟨kid', h1, h2⟩ := put_done hN hb.nd hb.up hb.cw hb.wt he f y x' hf hx hl hk hm hp hwt
  refine ⟨⟨n, kid', h1, h2⟩, (hb.ext.trans he).transB ((Below.refl _ wr).setCell (by exact hg) y), hc.keepC fun k hk => ?_⟩
  exact Below.heap_setCell wr ⟨g, j * 5 + f, none⟩ y k (by have := hb.cw; simp only; omega)

theorem same_finish {w w2 wr : World} {c n : Nat} {kid : Nat → D} {v : Value} {S : List Nat} {a : Option Addr} {len cap : Nat} (hb : Base3 w w2 c n kid v S) (hs : SOwn w2 n kid v S) (he : Ext c w2 wr) (hc : CurAt c a len cap wr) (hlt : ∀ b ∈ S, b < w2.heap.size) : Drawn3 w wr c a len cap v :=
  ⟨⟨n, kid, (hs.same (fun b h => he.block b (hlt b h) (by have := hb.up b h; have := hb.cw; omega))).slB hb.up, by have := hb.wt; omega⟩, hb.ext.trans he, hc⟩
end Go.Proofs.YtafpbcdgcgffeabGreatDoor

/- A node of drawn data with one kid more. No conditions. -/
namespace Go.Proofs.YtafpbcdgcgffeabGreatDoor
open Go.ChangeShapes Go.WideShapes Go.ChangeAt Go.RowKit

/-- The kid that is appended. -/
abbrev newKid : D := .mk 1 0 3 ⟨#[]⟩ 0 (fun _ => .no)
abbrev zeroKid : D := .mk 0 0 0 ⟨#[]⟩ 0 (fun _ => .no)

theorem Acc.sown' {B : Nat} {w : World} {acc : List D} {g n cap : Nat} {la : List (D × Value)} {SS : List (List Nat)} (h : Acc B w acc (.slice (some ⟨g, 0, none⟩) n cap) la SS) : SOwn w acc.length (kidsOf acc) (.slice (some ⟨g, 0, none⟩) n cap) (g :: SS.flatten) ∧ (g :: SS.flatten).Nodup ∧ ∀ x ∈ g :: SS.flatten, B ≤ x := by
  have hn : n = acc.length := by
    rcases h.own.2 with ⟨h1, _⟩ | ⟨g', cap', cur, h1, _⟩
    · simp at h1
    · simp only [Value.slice.injEq] at h1; exact h1.2.1
  subst hn
  refine ⟨.inr ⟨g, cap, la, SS, rfl, h.own, h.len, h.sl, fun i q hq => ?_, rfl, h.each⟩, List.nodup_cons.2 ⟨(h.out g rfl).1, h.nd⟩, fun x hx => ?_⟩
  · have hi : i < acc.length := by have := (List.getElem?_eq_some_iff.1 hq).1; have := h.len; omega
    obtain ⟨u, T, k1, _, _⟩ := h.each i hi
    rw [hq] at k1
    injection k1 with k1
    rw [k1]
  · rcases List.mem_cons.1 hx with rfl | hx
    · exact (h.out x rfl).2
    · exact h.up x hx

/-- The kids of a node, as a list that may grow. -/
theorem kids_acc {w w2 wr : World} {c n : Nat} {kid : Nat → D} {v : Value} {S : List Nat} (hb : Base3 w w2 c n kid v S) {g j : Nat} {x : D} {u : Value} {T : List Nat} (hN : NodeAt w2 (rootD n kid) v S g j x u T) (he : Ext c w2 wr) :
    ∃ la SS, Acc w.heap.size wr (kidList x.len x.kid) u la SS ∧ (∀ b ∈ SS.flatten, b ∈ T) ∧ (∀ b, u.ownBlock = some b → b ∈ T) := by
  obtain ⟨h1, h2, h3, -⟩ := hN.facts
  have hs : SOwn wr x.len x.kid u T := h1.sown.same (fun b hb' => he.block b (DOwn.there _ h1 b hb') (by have := hb.up b (h3 b hb'); have := hb.cw; omega))
  exact hs.acc (hN.apart hb.nd).1 (fun b hb' => hb.up b (h3 b hb'))

theorem app_finish {w w2 wr w3 : World} {c n : Nat} {kid : Nat → D} {v : Value} {S : List Nat} {a : Option Addr} {len cap : Nat} (hb : Base3 w w2 c n kid v S) {g j : Nat} {x : D} {u : Value} {T : List Nat} (hN : NodeAt w2 (rootD n kid) v S g j x u T) (he : Ext c w2 wr) (hc : CurAt c a len cap wr)
    {la : List (D × Value)} {SS : List (List Nat)} (hA : Acc w.heap.size wr (kidList x.len x.kid) u la SS) (hsub : ∀ b ∈ SS.flatten, b ∈ T) (hub : ∀ b, u.ownBlock = some b → b ∈ T) {o : Obj} {g' cap3 : Nat}
    (hown : w3.ownsRow 0 30 5 (.slice (some ⟨g', 0, none⟩) (x.len + 1) cap3) (x.len + 1) (drows la ++ dcells (zeroKid, .slice none 0 0))) (hg : (wr.alloc o).drew.grownBy w3 u.ownBlock) (hat : u.ownBlock = some g' ∨ g' = wr.heap.size + 1) :
    g ≠ g' ∧ w3.heap[g]? = w2.heap[g]? ∧ Drawn3 w ((st5 w3 g' (x.len * 5) newKid (.slice none 0 0)).setCell ⟨g, j * 5 + 4, none⟩ (.slice (some ⟨g', 0, none⟩) (x.len + 1) cap3)) c a len cap v := by
  obtain ⟨f1, f2, f3, -⟩ := hN.facts
  obtain ⟨hTn, hgT⟩ := hN.apart hb.nd
  have hSlt := root_there hN
  have hsz := he.size
  have hg' : g' ∈ T ∨ g' = wr.heap.size + 1 := hat.imp (hub g') id
  have hgB : w.heap.size ≤ g := hb.up g f2
  have hw2 : w.heap.size ≤ w2.heap.size := hb.ext.size
  have hg'B : w.heap.size ≤ g' := by
    rcases hg' with h | h
    · exact hb.up g' (f3 g' h)
    · omega
  have hgl : g < w2.heap.size := hSlt g f2
  have hne : g ≠ g' := by
    rcases hg' with h | h
    · intro e; exact hgT (e ▸ h)
    · omega
  have hll : la.length = x.len := by rw [hA.len, kidList_len]
  have hown' : w3.ownsRow 0 30 5 (.slice (some ⟨g', 0, none⟩) (x.len + 1) cap3) (x.len + 1) (drows la ++ dcells (zeroKid, .slice none 0 0)) := hown
  have h5 := stored5 hown' (by simp [dcells]) newKid (.slice none 0 0)
  rw [hll] at h5
  obtain ⟨o4, g4⟩ := h5
  have w3k : ∀ k, k < wr.heap.size → u.ownBlock ≠ some k → w3.heap[k]? = wr.heap[k]? := fun k hk hne' =>
    (hg.block k (by show k < (wr.alloc o).heap.size; simp; omega) (fun e => hne' e.symm)).trans (Below.heap_alloc wr o k hk)
  have w4k : ∀ k, k < wr.heap.size + 1 → u.ownBlock ≠ some k → (st5 w3 g' (x.len * 5) newKid (.slice none 0 0)).heap[k]? = w3.heap[k]? := fun k hk hne' =>
    g4.block k (by have := hg.size; have h1 : (wr.alloc o).drew.heap.size = wr.heap.size + 1 := by show (wr.alloc o).heap.size = _; simp
                   omega) (fun e => by
      injection e with e
      rcases hat with h | h
      · exact hne' (by rw [e]; exact h)
      · omega)
  have hgu : u.ownBlock ≠ some g := fun e => hgT (hub g e)
  have hg3 : w3.heap[g]? = w2.heap[g]? := (w3k g (by omega) hgu).trans (he.block g hgl (by have := hb.cw; omega))
  refine ⟨hne, hg3, ?_⟩
  have grown : (wr.alloc o).grownBy (st5 w3 g' (x.len * 5) newKid (.slice none 0 0)) u.ownBlock :=
    ⟨g4.os.trans hg.os, g4.tape.trans hg.tape, g4.output.trans hg.output, Nat.le_trans hg.size g4.size, fun k hk hr => by
      have hk1 : k < wr.heap.size + 1 := by simpa using hk
      exact (w4k k hk1 (fun e => hr e.symm)).trans (hg.block k hk hr)⟩
  have hd1 : DOwn wr newKid (.slice none 0 0) [] := ⟨⟨by unfold maxLen; exact Nat.zero_le _, by omega, by omega⟩, .inl ⟨rfl, rfl, rfl⟩⟩
  have hA2 := hA.app (d := newKid) (v := .slice none 0 0) (T := []) (o := o) (w3 := st5 w3 g' (x.len * 5) newKid (.slice none 0 0)) (g := g') (cap := cap3) hd1 (by simp) (by simp) (by simp) (by simp) (by omega)
    (by rw [kidList_len]; have := o4; rw [drows_append] at this; simpa [dcells, drows] using this) grown hat
  rw [kidList_len] at hA2
  obtain ⟨s1, s2, s3⟩ := hA2.sown'
  have hflat : ∀ b ∈ g' :: (SS ++ [[]]).flatten, b = g' ∨ b ∈ T := by
    intro b hb'
    rcases List.mem_cons.1 hb' with h | h
    · exact .inl h
    · rw [List.flatten_append, List.mem_append] at h
      rcases h with h | h
      · exact .inr (hsub b h)
      · simp at h
  generalize hS2 : g' :: (SS ++ [[]]).flatten = S2 at s1 s2 s3 hflat
  have hgS2 : g ∉ S2 := fun h => by
    rcases hflat g h with h1 | h1
    · exact hne h1
    · exact hgT h1
  generalize hw4 : st5 w3 g' (x.len * 5) newKid (.slice none 0 0) = w4 at *
  have hset : ∀ k, k ≠ g → (w4.setCell ⟨g, j * 5 + 4, none⟩ (.slice (some ⟨g', 0, none⟩) (x.len + 1) cap3)).heap[k]? = w4.heap[k]? := fun k hk => Below.heap_setCell w4 ⟨g, j * 5 + 4, none⟩ _ k hk
  have hs' := s1.same (w' := w4.setCell ⟨g, j * 5 + 4, none⟩ (.slice (some ⟨g', 0, none⟩) (x.len + 1) cap3)) (fun b hb' => hset b (fun e => hgS2 (e ▸ hb')))
  rw [List.length_append, kidList_len, List.length_singleton] at hs'
  have hg4 : w4.heap[g]? = w2.heap[g]? := (w4k g (by omega) hgu).trans hg3
  obtain ⟨kid', S', k1, k2, k3, k4, k5⟩ := hN.swap hb.nd (w' := w4.setCell ⟨g, j * 5 + 4, none⟩ (.slice (some ⟨g', 0, none⟩) (x.len + 1) cap3)) (x' := .mk x.op x.at_ x.n x.s (x.len + 1) (kidsOf (kidList x.len x.kid ++ [newKid]))) (u' := .slice (some ⟨g', 0, none⟩) (x.len + 1) cap3) (T' := S2)
    (fun len cap l ho hl hj => row_put (x := x) (u := u) (.mk x.op x.at_ x.n x.s (x.len + 1) (kidsOf (kidList x.len x.kid ++ [newKid])), .slice (some ⟨g', 0, none⟩) (x.len + 1) cap3) _ hg4 (by omega) rfl ho hj)
    ⟨f1.plain, hs'⟩ s2 (fun b hb' => by
      rcases hflat b hb' with h | h
      · rcases hg' with h1 | h1
        · exact .inl (h ▸ h1)
        · exact .inr (fun h2 => by have := hSlt b h2; omega)
      · exact .inl h) (fun b hb' hbg hbT => by
      have hbu : u.ownBlock ≠ some b := fun e => hbT (hub b e)
      have hbl := hSlt b hb'
      have hbB := hb.up b hb'
      have hcw := hb.cw
      exact (hset b hbg).trans ((w4k b (by omega) hbu).trans ((w3k b (by omega) hbu).trans (he.block b hbl (by omega)))))
  have hbel : Below w.heap.size wr (w4.setCell ⟨g, j * 5 + 4, none⟩ (.slice (some ⟨g', 0, none⟩) (x.len + 1) cap3)) := by
    have hb4 : Below w.heap.size wr w4 := ((newb wr o).mono (by omega)).grown grown (by simp; omega) (fun k hk => hb.up k (f3 k (hub k hk)))
    exact hb4.setCell (by exact hgB) _
  refine ⟨⟨n, kid', k1.sown.slB (fun b hb' => ?_), swap_weight k5 hb.wt (q := 1) ?_ (by omega)⟩, (hb.ext.trans he).transB hbel, hc.keepC fun k hk => hbel.block k (by have := hb.cw; omega)⟩
  · rcases k3 b hb' with h | h
    · exact hb.up b h
    · exact s3 b h
  · rw [D.weight_eq x]
    show x.s.size + ((x.len + 1) + sumTo (fun i => (kidsOf (kidList x.len x.kid ++ [newKid]) i).weight) (x.len + 1)) ≤ _
    rw [sum_kidList D.weight x.len x.kid newKid]
    unfold kidsWeight
    have : (newKid).weight = 0 := rfl
    omega

theorem set_comm (w : World) (b1 o1 b2 o2 : Nat) (x y : Value) (h : b1 ≠ b2) : (w.setCell ⟨b1, o1, none⟩ x).setCell ⟨b2, o2, none⟩ y = (w.setCell ⟨b2, o2, none⟩ y).setCell ⟨b1, o1, none⟩ x := by
  unfold World.setCell
  simp only
  congr 1
  apply Array.ext_getElem?
  intro i
  simp only [Array.getElem?_modify]
  by_cases h1 : b1 = i
  · have h2 : ¬ b2 = i := by omega
    simp only [h1, h2, if_true, if_false]
  · by_cases h2 : b2 = i
    · simp only [h1, h2, if_true, if_false]
    · simp only [h1, h2, if_false]

/-- The five stores and the one, in either order. -/
theorem five_comm (w : World) (g o G p : Nat) (x v0 v1 v2 v3 v4 : Value) (h : g ≠ G) :
    (((((w.setCell ⟨g, o, none⟩ x).setCell ⟨G, p, none⟩ v0).setCell ⟨G, p + 1, none⟩ v1).setCell ⟨G, p + 2, none⟩ v2).setCell ⟨G, p + 3, none⟩ v3).setCell ⟨G, p + 4, none⟩ v4 =
    (((((w.setCell ⟨G, p, none⟩ v0).setCell ⟨G, p + 1, none⟩ v1).setCell ⟨G, p + 2, none⟩ v2).setCell ⟨G, p + 3, none⟩ v3).setCell ⟨G, p + 4, none⟩ v4).setCell ⟨g, o, none⟩ x := by
  rw [set_comm w g o G p x v0 h, set_comm _ g o G (p + 1) x v1 h, set_comm _ g o G (p + 2) x v2 h, set_comm _ g o G (p + 3) x v3 h, set_comm _ g o G (p + 4) x v4 h]
end Go.Proofs.YtafpbcdgcgffeabGreatDoor
