/- A node of drawn data with one kid more. No conditions. -/
import Derived.Test.YtoljphjmekkneabGreatDoorZG19DrawDat2
import Derived.Deep.CutRange
import Derived.Deep.CutBlock
import Derived.Deep.RegionLaw
namespace Go.Proofs.YtoljphjmekkneabGreatDoor
open Go.ChangeShapes Go.WideShapes Go.ChangeAt Go.RowKit

/-- The kid that is appended. -/
abbrev newKid : D := .mk 1 0 3 ⟨#[]⟩ 0 (fun _ => .no)
abbrev zeroKid : D := .mk 0 0 0 ⟨#[]⟩ 0 (fun _ => .no)

theorem Acc.sown' {B : Nat} {w : World} {acc : List D} {g n cap : Nat} {la : List (D × Value)} {SS : List (List Nat)} (h : Acc B w acc (.slice (some ⟨g, 0, none⟩) n cap) la SS) : SOwn w acc.length (kidsOf acc) (.slice (some ⟨g, 0, none⟩) n cap) (g :: SS.flatten) ∧ (g :: SS.flatten).Nodup ∧ ∀ x ∈ g :: SS.flatten, B ≤ x := by
  have hn : n = acc.length := by
    rcases h.own.2 with ⟨h1, _⟩ | ⟨g', cap', cur, h1, _⟩
    · simp at h1
    · simp only [Value.slice.injEq] at h1; exact h1.2.1
  subst hn
  refine ⟨.inr ⟨g, cap, la, SS, rfl, h.own, h.len, h.sl, fun i q hq => ?_, rfl, h.each⟩, List.nodup_cons.2 ⟨(h.out g rfl).1, h.nd⟩, fun x hx => ?_⟩
  · have hi : i < acc.length := by have := (List.getElem?_eq_some_iff.1 hq).1; have := h.len; omega
    obtain ⟨u, T, k1, _, _⟩ := h.each i hi
    rw [hq] at k1
    injection k1 with k1
    rw [k1]
  · rcases List.mem_cons.1 hx with rfl | hx
    · exact (h.out x rfl).2
    · exact h.up x hx

/-- The kids of a node, as a list that may grow. -/
theorem kids_acc {w w2 wr : World} {c n : Nat} {kid : Nat → D} {v : Value} {S : List Nat} (hb : Base3 w w2 c n kid v S) {g j : Nat} {x : D} {u : Value} {T : List Nat} (hN : NodeAt w2 (rootD n kid) v S g j x u T) (he : Ext c w2 wr) :
    ∃ la SS, Acc w.heap.size wr (kidList x.len x.kid) u la SS ∧ (∀ b ∈ SS.flatten, b ∈ T) ∧ (∀ b, u.ownBlock = some b → b ∈ T) := by
  obtain ⟨h1, h2, h3, -⟩ := hN.facts
  have hs : SOwn wr x.len x.kid u T := h1.sown.same (fun b hb' => he.block b (DOwn.there _ h1 b hb') (by have := hb.up b (h3 b hb'); have := hb.cw; omega))
  exact hs.acc (hN.apart hb.nd).1 (fun b hb' => hb.up b (h3 b hb'))

theorem app_finish {w w2 wr w3 : World} {c n : Nat} {kid : Nat → D} {v : Value} {S : List Nat} {a : Option Addr} {len cap : Nat} (hb : Base3 w w2 c n kid v S) {g j : Nat} {x : D} {u : Value} {T : List Nat} (hN : NodeAt w2 (rootD n kid) v S g j x u T) (he : Ext c w2 wr) (hc : CurAt c a len cap wr)
    {la : List (D × Value)} {SS : List (List Nat)} (hA : Acc w.heap.size wr (kidList x.len x.kid) u la SS) (hsub : ∀ b ∈ SS.flatten, b ∈ T) (hub : ∀ b, u.ownBlock = some b → b ∈ T) {o : Obj} {g' cap3 : Nat}
    (hown : w3.ownsRow 0 30 5 (.slice (some ⟨g', 0, none⟩) (x.len + 1) cap3) (x.len + 1) (drows la ++ dcells (zeroKid, .slice none 0 0))) (hg : (wr.alloc o).drew.grownBy w3 u.ownBlock) (hat : u.ownBlock = some g' ∨ g' = wr.heap.size + 1) :
    g ≠ g' ∧ w3.heap[g]? = w2.heap[g]? ∧ Drawn3 w ((st5 w3 g' (x.len * 5) newKid (.slice none 0 0)).setCell ⟨g, j * 5 + 4, none⟩ (.slice (some ⟨g', 0, none⟩) (x.len + 1) cap3)) c a len cap v := by
  obtain ⟨f1, f2, f3, -⟩ := hN.facts
  obtain ⟨hTn, hgT⟩ := hN.apart hb.nd
  have hSlt := root_there hN
  have hsz := he.size
  have hg' : g' ∈ T ∨ g' = wr.heap.size + 1 := hat.imp (hub g') id
  have hgB : w.heap.size ≤ g := hb.up g f2
  have hw2 : w.heap.size ≤ w2.heap.size := hb.ext.size
  have hg'B : w.heap.size ≤ g' := by
    rcases hg' with h | h
    · exact hb.up g' (f3 g' h)
    · omega
  have hgl : g < w2.heap.size := hSlt g f2
  have hne : g ≠ g' := by
    rcases hg' with h | h
    · intro e; exact hgT (e ▸ h)
    · omega
  have hll : la.length = x.len := by rw [hA.len, kidList_len]
  have hown' : w3.ownsRow 0 30 5 (.slice (some ⟨g', 0, none⟩) (x.len + 1) cap3) (x.len + 1) (drows la ++ dcells (zeroKid, .slice none 0 0)) := hown
  have h5 := stored5 hown' (by simp [dcells]) newKid (.slice none 0 0)
  rw [hll] at h5
  obtain ⟨o4, g4⟩ := h5
  have w3k : ∀ k, k < wr.heap.size → u.ownBlock ≠ some k → w3.heap[k]? = wr.heap[k]? := fun k hk hne' =>
    (hg.block k (by show k < (wr.alloc o).heap.size; simp; omega) (fun e => hne' e.symm)).trans (Below.heap_alloc wr o k hk)
  have w4k : ∀ k, k < wr.heap.size + 1 → u.ownBlock ≠ some k → (st5 w3 g' (x.len * 5) newKid (.slice none 0 0)).heap[k]? = w3.heap[k]? := fun k hk hne' =>
    g4.block k (by have := hg.size; have h1 : (wr.alloc o).drew.heap.size = wr.heap.size + 1 := by show (wr.alloc o).heap.size = _; simp
                   omega) (fun e => by
      injection e with e
      rcases hat with h | h
      · exact hne' (by rw [e]; exact h)
      · omega)
  have hgu : u.ownBlock ≠ some g := fun e => hgT (hub g e)
  have hg3 : w3.heap[g]? = w2.heap[g]? := (w3k g (by omega) hgu).trans (he.block g hgl (by have := hb.cw; omega))
  refine ⟨hne, hg3, ?_⟩
  have grown : (wr.alloc o).grownBy (st5 w3 g' (x.len * 5) newKid (.slice none 0 0)) u.ownBlock :=
    ⟨g4.os.trans hg.os, g4.tape.trans hg.tape, g4.output.trans hg.output, Nat.le_trans hg.size g4.size, fun k hk hr => by
      have hk1 : k < wr.heap.size + 1 := by simpa using hk
      exact (w4k k hk1 (fun e => hr e.symm)).trans (hg.block k hk hr)⟩
  have hd1 : DOwn wr newKid (.slice none 0 0) [] := ⟨⟨by unfold maxLen; exact Nat.zero_le _, by omega, by omega⟩, .inl ⟨rfl, rfl, rfl⟩⟩
  have hA2 := hA.app (d := newKid) (v := .slice none 0 0) (T := []) (o := o) (w3 := st5 w3 g' (x.len * 5) newKid (.slice none 0 0)) (g := g') (cap := cap3) hd1 (by simp) (by simp) (by simp) (by simp) (by omega)
    (by rw [kidList_len]; have := o4; rw [drows_append] at this; simpa [dcells, drows] using this) grown hat
  rw [kidList_len] at hA2
  obtain ⟨s1, s2, s3⟩ := hA2.sown'
  have hflat : ∀ b ∈ g' :: (SS ++ [[]]).flatten, b = g' ∨ b ∈ T := by
    intro b hb'
    rcases List.mem_cons.1 hb' with h | h
    · exact .inl h
    · rw [List.flatten_append, List.mem_append] at h
      rcases h with h | h
      · exact .inr (hsub b h)
      · simp at h
  generalize hS2 : g' :: (SS ++ [[]]).flatten = S2 at s1 s2 s3 hflat
  have hgS2 : g ∉ S2 := fun h => by
    rcases hflat g h with h1 | h1
    · exact hne h1
    · exact hgT h1
  generalize hw4 : st5 w3 g' (x.len * 5) newKid (.slice none 0 0) = w4 at *
  have hset : ∀ k, k ≠ g → (w4.setCell ⟨g, j * 5 + 4, none⟩ (.slice (some ⟨g', 0, none⟩) (x.len + 1) cap3)).heap[k]? = w4.heap[k]? := fun k hk => Below.heap_setCell w4 ⟨g, j * 5 + 4, none⟩ _ k hk
  have hs' := s1.same (w' := w4.setCell ⟨g, j * 5 + 4, none⟩ (.slice (some ⟨g', 0, none⟩) (x.len + 1) cap3)) (fun b hb' => hset b (fun e => hgS2 (e ▸ hb')))
  rw [List.length_append, kidList_len, List.length_singleton] at hs'
  have hg4 : w4.heap[g]? = w2.heap[g]? := (w4k g (by omega) hgu).trans hg3
  obtain ⟨kid', S', k1, k2, k3, k4, k5⟩ := hN.swap hb.nd (w' := w4.setCell ⟨g, j * 5 + 4, none⟩ (.slice (some ⟨g', 0, none⟩) (x.len + 1) cap3)) (x' := .mk x.op x.at_ x.n x.s (x.len + 1) (kidsOf (kidList x.len x.kid ++ [newKid]))) (u' := .slice (some ⟨g', 0, none⟩) (x.len + 1) cap3) (T' := S2)
    (fun len cap l ho hl hj => row_put (x := x) (u := u) (.mk x.op x.at_ x.n x.s (x.len + 1) (kidsOf (kidList x.len x.kid ++ [newKid])), .slice (some ⟨g', 0, none⟩) (x.len + 1) cap3) _ hg4 (by omega) rfl ho hj)
    ⟨f1.plain, hs'⟩ s2 (fun b hb' => by
      rcases hflat b hb' with h | h
      · rcases hg' with h1 | h1
        · exact .inl (h ▸ h1)
        · exact .inr (fun h2 => by have := hSlt b h2; omega)
      · exact .inl h) (fun b hb' hbg hbT => by
      have hbu : u.ownBlock ≠ some b := fun e => hbT (hub b e)
      have hbl := hSlt b hb'
      have hbB := hb.up b hb'
      have hcw := hb.cw
      exact (hset b hbg).trans ((w4k b (by omega) hbu).trans ((w3k b (by omega) hbu).trans (he.block b hbl (by omega)))))
  have hbel : Below w.heap.size wr (w4.setCell ⟨g, j * 5 + 4, none⟩ (.slice (some ⟨g', 0, none⟩) (x.len + 1) cap3)) := by
    have hb4 : Below w.heap.size wr w4 := ((newb wr o).mono (by omega)).grown grown (by simp; omega) (fun k hk => hb.up k (f3 k (hub k hk)))
    exact hb4.setCell (by exact hgB) _
  refine ⟨⟨n, kid', k1.sown.slB (fun b hb' => ?_), swap_weight k5 hb.wt (q := 1) ?_ (by omega)⟩, (hb.ext.trans he).transB hbel, hc.keepC fun k hk => hbel.block k (by have := hb.cw; omega)⟩
  · rcases k3 b hb' with h | h
    · exact hb.up b h
    · exact s3 b h
  · rw [D.weight_eq x]
    show x.s.size + ((x.len + 1) + sumTo (fun i => (kidsOf (kidList x.len x.kid ++ [newKid]) i).weight) (x.len + 1)) ≤ _
    rw [sum_kidList D.weight x.len x.kid newKid]
    unfold kidsWeight
    have : (newKid).weight = 0 := rfl
    omega

theorem set_comm (w : World) (b1 o1 b2 o2 : Nat) (x y : Value) (h : b1 ≠ b2) : (w.setCell ⟨b1, o1, none⟩ x).setCell ⟨b2, o2, none⟩ y = (w.setCell ⟨b2, o2, none⟩ y).setCell ⟨b1, o1, none⟩ x := by
  unfold World.setCell
  simp only
  congr 1
  apply Array.ext_getElem?
  intro i
  simp only [Array.getElem?_modify]
  by_cases h1 : b1 = i
  · have h2 : ¬ b2 = i := by omega
    simp only [h1, h2, if_true, if_false]
  · by_cases h2 : b2 = i
    · simp only [h1, h2, if_true, if_false]
    · simp only [h1, h2, if_false]

/-- The five stores and the one, in either order. -/
theorem five_comm (w : World) (g o G p : Nat) (x v0 v1 v2 v3 v4 : Value) (h : g ≠ G) :
    (((((w.setCell ⟨g, o, none⟩ x).setCell ⟨G, p, none⟩ v0).setCell ⟨G, p + 1, none⟩ v1).setCell ⟨G, p + 2, none⟩ v2).setCell ⟨G, p + 3, none⟩ v3).setCell ⟨G, p + 4, none⟩ v4 =
    (((((w.setCell ⟨G, p, none⟩ v0).setCell ⟨G, p + 1, none⟩ v1).setCell ⟨G, p + 2, none⟩ v2).setCell ⟨G, p + 3, none⟩ v3).setCell ⟨G, p + 4, none⟩ v4).setCell ⟨g, o, none⟩ x := by
  rw [set_comm w g o G p x v0 h, set_comm _ g o G (p + 1) x v1 h, set_comm _ g o G (p + 2) x v2 h, set_comm _ g o G (p + 3) x v3 h, set_comm _ g o G (p + 4) x v4 h]
end Go.Proofs.YtoljphjmekkneabGreatDoor

/- spec.l3Draw: some data in memory of the call's own. Condition: the code's bytes can be read. -/
namespace Go.Proofs.YtoljphjmekkneabGreatDoor
open Go.ChangeShapes Go.WideShapes Go.ChangeAt Go.RowKit

theorem froz_same {w w' : World} {b : Nat} (h : w'.heap[b]? = w.heap[b]?) (o : Nat) : w'.frozen? ⟨b, o, none⟩ = w.frozen? ⟨b, o, none⟩ := by
  simp [World.frozen?, h]
theorem intsAt_lit3 (w : World) (zs : List Int) (cs : Array Value) (t : TypeId) (h : cs = (zs.map (Value.int .i64)).toArray) : IntsAt w.heap.size zs (w.alloc (.cells cs t)) := by
  rw [h]
  intro j hj
  rw [World.cell?_alloc_mark]
  simp [List.getElem?_map, List.getElem?_eq_getElem hj, List.getD_eq_getElem?_getD]
def datPicks : List ByteArray := [⟨#[]⟩, ⟨#[120]⟩, ⟨#[65]⟩, ⟨#[45, 49]⟩]
theorem datPicks_size : ∀ z ∈ datPicks, z.size ≤ 2 := by decide

set_option maxRecDepth 100000 in
set_option maxHeartbeats 8000000 in
theorem draw3_any (c : Nat) (a : Option Addr) (len cap : Nat) (w : World) (hc : CurAt c a len cap w) :
    Calls Tryz.prog 24 #[.pointer (some ⟨c, 0, none⟩)] w fun e w' => ∃ v, e = .returned v ∧ Drawn3 w w' c a len cap v := by
  have HCW : Hid (c < w.heap.size) := hc.lt
  go_enter Tryz.func24, Tryz.ntmps24
  go_wp2_with fail
  refine (l10DrawSource_any c a len cap w hc).mono ?_
  rintro e w1 ⟨⟨s, hs, rfl⟩, hx1, hcur1⟩
  have HE1 : Hid (Ext c w w1) := hx1
  clear hx1 hc
  go_wp2_with fail
  refine (spec_all s (by omega) w1).mono ?_
  rintro e w2 ⟨hb2, hsay⟩
  have hcur2 : CurAt c a len cap w2 := hcur1.below hb2
  have HE2 : Hid (Ext c w w2) := HE1.out.trans (Ext.of_below hb2 (Nat.le_refl _))
  have HS1 : Hid (w.heap.size ≤ w1.heap.size) := HE1.out.size
  generalize hr : readP s = res at hsay
  have HR : Hid (readP s = res) := hr
  clear hr hcur1 hb2 hs
  have done0 : ∀ p q, Drawn3 w w2 c a len cap (.slice p 0 q) := fun p q => ⟨⟨0, fun _ => .no, .inl ⟨rfl, p, q, rfl⟩, by simp [kidsWeight, sumTo]⟩, HE2.out, hcur2⟩
  cases res with
  | bad p =>
    obtain ⟨q, cc, rfl⟩ := hsay
    have HD := done0 q cc
    clear done0 hcur2
    go_wp2_with fail
    go_ret
    exact ⟨_, rfl, HD⟩
  | ok ds r =>
    obtain ⟨v, rfl, hsl, hown⟩ := hsay
    by_cases hd : ds = []
    · subst hd
      obtain ⟨p, q, hv⟩ := hsl.shape
      subst hv
      have HD := done0 p q
      clear done0 hcur2 hown hsl
      go_wp2_with fail
      go_ret
      exact ⟨_, rfl, HD⟩
    · obtain ⟨S, hS, hn, hB⟩ := hown hd
      have hpos : 0 < ds.length := List.length_pos_iff.2 hd
      have HBB : Hid (Base3 w w2 c ds.length (kidsOf ds) v S) := ⟨hn, fun b h => Nat.le_trans HS1.out (hB b h), HCW.out, readP_weight s ds r HR.out, HE2.out⟩
      have hwl : ds.length ≤ 52000 := by have := HBB.out.wt; unfold kidsWeight at this; omega
      clear hown hsl hn hB hd HR HE2 HE1 HS1 done0
      generalize kidsOf ds = kid at *
      generalize ds.length = n at *
      obtain ⟨g0, cap0, l0, SS0, hr0⟩ := hS.row hpos
      have hv := hr0.val
      clear hr0
      subst hv
      have HS : Hid (SOwn w2 n kid (.slice (some ⟨g0, 0, none⟩) n cap0) S) := hS
      have HB : Hid (Base3 w w2 c n kid (.slice (some ⟨g0, 0, none⟩) n cap0) S) := HBB.out
      clear hS HBB
      go_wp2_with fail
      refine (l1Below_any c a len cap (n : Int) (by omega) _ hcur2).mono ?_
      rintro e w3 ⟨⟨z, z0, _, z1, rfl⟩, hx3, hcur3⟩
      have hzn := z1 (by omega)
      obtain ⟨zn, rfl⟩ : ∃ k : Nat, z = k := ⟨z.toNat, by omega⟩
      have HE3 : Hid (Ext c w2 w3) := hx3
      have HN0 : Hid (∃ x u T, NodeAt w2 (rootD n kid) (.slice (some ⟨g0, 0, none⟩) n cap0) S g0 zn x u T) := by
        obtain ⟨g, cp, u, T, hv, hN⟩ := node_root HS.out (j := zn) (by omega)
        simp only [Value.slice.injEq, Option.some.injEq, Addr.mk.injEq, and_true, true_and] at hv
        obtain ⟨rfl, rfl⟩ := hv
        exact ⟨_, u, T, hN⟩
      clear z1 hx3 hcur2
      go_upto_block 0 with fail
      go_cut [5, 6] from 23 to 51 (fun d i wx => (∃ z : Int, i = .int .i64 z) ∧ ∃ g j : Nat, d = .pointer (some ⟨g, j * 5, none⟩) ∧ (∃ x u T, NodeAt w2 (rootD n kid) (.slice (some ⟨g0, 0, none⟩) n cap0) S g j x u T) ∧ Ext c w2 wx ∧ CurAt c a len cap wx)
      case first =>
        go_wp2_with fail
        go_loopw [5, 6] (fun d i wr => ∃ k g j : Nat, d = .pointer (some ⟨g, j * 5, none⟩) ∧ i = .int .i64 k ∧ k ≤ 6 ∧ (∃ x u T, NodeAt w2 (rootD n kid) (.slice (some ⟨g0, 0, none⟩) n cap0) S g j x u T) ∧ Ext c w2 wr ∧ CurAt c a len cap wr) (fun _ i _ => 6 - (intOf i).toNat)
        case atStart => exact ⟨0, g0, zn, rfl, rfl, by omega, HN0.out, HE3.out, hcur3⟩
        case round =>
          obtain ⟨k, g, j, rfl, rfl, hk, ⟨x, u, T, hN⟩, hex, hcurX⟩ := hrel
          have HN : Hid (NodeAt w2 (rootD n kid) (.slice (some ⟨g0, 0, none⟩) n cap0) S g j x u T) := hN
          have HEX : Hid (Ext c w2 wr) := hex
          have HHD : Hid (Head w2 g (j * 5) x u) := hN.cells.1
          have HGL : Hid (g < w2.heap.size ∧ g ≠ c) := ⟨World.block_lt_of_cell? w2 _ HHD.out.c0, by have := HB.out.up g hN.facts.2.1; have := HB.out.cw; omega⟩
          have hxw : x.len ≤ 60000 := by
            have h1 := hN.weight
            have h2 := x.len_weight
            have h3 := HB.out.wt
            have e2 : (rootD n kid).weight = kidsWeight n kid := by rw [D.weight_eq]; exact Nat.zero_add _
            omega
          obtain ⟨pu, cu, hu⟩ := hN.facts.1.in'.sl.shape
          clear hN hex hcur3 HN0 HE3
          by_cases hk6 : k < 6
          · have d6 : decide (k < 6) = true := by simpa using hk6
            have q4 := (cell_same (HEX.out.block g HGL.out.1 HGL.out.2) _).trans HHD.out.c4
            by_cases hx0 : 0 < x.len
            · have dx : decide (0 < x.len) = true := by simpa using hx0
              clear hu
              obtain ⟨g2, cap2, u2, T2, hu2, -⟩ := HN.out.step (k := 0) hx0
              have HST : Hid (∀ k, k < x.len → ∃ x' u' T', NodeAt w2 (rootD n kid) (.slice (some ⟨g0, 0, none⟩) n cap0) S g2 k x' u' T') := by
                intro k hk
                obtain ⟨g3, cap3, u3, T3, hu3, h3⟩ := HN.out.step (k := k) hk
                rw [hu2] at hu3
                simp only [Value.slice.injEq, Option.some.injEq, Addr.mk.injEq, and_true, true_and] at hu3
                obtain ⟨rfl, rfl⟩ := hu3
                exact ⟨_, _, _, h3⟩
              clear pu cu
              subst hu2
              go_wp2_with fail
              refine (l1Once_any c a len cap 4 (by omega) _ hcurX).mono ?_
              rintro e w4 ⟨⟨bb, rfl⟩, hx4, hcur4⟩
              have HE4 : Hid (Ext c w2 w4) := HEX.out.trans hx4
              have p4 := (cell_same (HE4.out.block g HGL.out.1 HGL.out.2) _).trans HHD.out.c4
              clear hcurX hx4 HEX q4
              cases bb
              · go_wp2_with fail
                go_region_held3 (fun w' => w'.cell? ⟨g, j * 5 + 4, none⟩ = some (.slice (some ⟨g2, 0, none⟩) x.len cap2))
                  (first | go_keep | exact hs3)
                  ((go_at_call 38; refine (l1Below_any c a len cap (x.len : Int) (by omega) _ (by exact hcur4)).mono ?_; rintro e w5 ⟨⟨y, y0, _, y1, rfl⟩, hx5, hcur5⟩; have hyl := y1 (by omega); obtain ⟨yn, rfl⟩ : ∃ k : Nat, y = k := ⟨y.toNat, by omega⟩; have hs3 : w5.cell? ⟨g, j * 5 + 4, none⟩ = some (.slice (some ⟨g2, 0, none⟩) x.len cap2) := (cell_same (hx5.block g (Nat.lt_of_lt_of_le HGL.out.1 HE4.out.size) HGL.out.2) _).trans p4))
                all_goals
                  have HE5 : Hid (Ext c w2 w5) := HE4.out.trans ⟨hx5.os, hx5.tape, hx5.output, hx5.size, hx5.block⟩
                  clear hcur4 hx5 y1 HE4 p4 hs3
                  go_wp2_with fail
                  go_roundw
                  case rel => exact ⟨k + 1, g2, yn, rfl, by go_num, by omega, HST.out yn (by omega), HE5.out, hcur5⟩
                  case measure => simp [intOf]; omega
              · go_wp2_with fail
                go_meet
                case rel => exact ⟨⟨_, rfl⟩, g, j, rfl, ⟨_, _, _, HN.out⟩, HE4.out, hcur4⟩
            · have dx : decide (0 < x.len) = false := by simpa using hx0
              subst hu
              go_wp2_with fail
              go_meet
              case rel => exact ⟨⟨_, rfl⟩, g, j, rfl, ⟨_, _, _, HN.out⟩, HEX.out, hcurX⟩
          · have d6 : decide (k < 6) = false := by simpa using hk6
            subst hu
            go_wp2_with fail
            go_meet
            case rel => exact ⟨⟨_, rfl⟩, g, j, rfl, ⟨_, _, _, HN.out⟩, HEX.out, hcurX⟩
      case rest =>
        obtain ⟨⟨kz, rfl⟩, g, j, rfl, ⟨x, u, T, hN⟩, hex, hcurX⟩ := hcut
        have HN : Hid (NodeAt w2 (rootD n kid) (.slice (some ⟨g0, 0, none⟩) n cap0) S g j x u T) := hN
        have HEX : Hid (Ext c w2 wc) := hex
        have HPL : Hid (x.s.size ≤ maxLen ∧ -9223372036854775808 ≤ x.n ∧ x.n ≤ 9223372036854775807) := hN.facts.1.plain
        have HHD : Hid (Head w2 g (j * 5) x u) := hN.cells.1
        have HFR : Hid (∀ k, w2.frozen? ⟨g, k, none⟩ = false) := hN.cells.2
        have HGL : Hid (g < w2.heap.size ∧ g ≠ c) := ⟨World.block_lt_of_cell? w2 _ HHD.out.c0, by have := HB.out.up g hN.facts.2.1; have := HB.out.cw; omega⟩
        have hxw : x.len ≤ 60000 := by
          have h1 := hN.weight
          have h2 := x.len_weight
          have h3 := HB.out.wt
          have e2 : (rootD n kid).weight = kidsWeight n kid := by rw [D.weight_eq]; exact Nat.zero_add _
          omega
        obtain ⟨pu, cu, hu⟩ := hN.facts.1.in'.sl.shape
        clear hN hex hcur3 HN0 HE3
        subst hu
        go_wp2_with fail
        refine (l1Below_any c a len cap 12 (by omega) _ hcurX).mono ?_
        rintro e w8 ⟨⟨y, y0, _, y1, rfl⟩, hx8, hcur8⟩
        have hy12 := y1 (by omega)
        have HE8 : Hid (Ext c w2 w8) := HEX.out.trans hx8
        clear hcurX hx8 y1 HEX
        by_cases e0 : y = 0
        · subst e0
          go_wp2_with fail
          refine (l1Below_any c a len cap 5 (by omega) _ hcur8).mono ?_
          rintro e w9 ⟨⟨z, z0, _, z1, rfl⟩, hx9, hcur9⟩
          have hz5 := z1 (by omega)
          have HE9 : Hid (Ext c w2 w9) := HE8.out.trans hx9
          have q0 := (cell_same (HE9.out.block g HGL.out.1 HGL.out.2) _).trans HHD.out.c0
          have qf := (froz_same (HE9.out.block g HGL.out.1 HGL.out.2) _).trans (HFR.out (j * 5))
          have HD : Hid (Drawn3 w (w9.setCell ⟨g, j * 5, none⟩ (.int .i64 z)) c a len cap (.slice (some ⟨g0, 0, none⟩) n cap0)) := put_finish HB.out HN.out HE9.out hcur9 0 (.int .i64 z) (.mk z x.at_ x.n x.s x.len x.kid) (by omega) rfl rfl rfl ⟨_, _, _, _, _, _, rfl⟩ HPL.out (Nat.le_add_left _ _)
          clear hcur8 hcur9 hx9 z1 HE8 HE9
          go_wp2_with fail
          go_ret
          exact ⟨_, rfl, HD.out⟩
        · have d0 : (y == 0) = false := by simp [e0]
          by_cases e1 : y = 1
          · subst e1
            go_wp2_with fail
            refine (l1PickInt_any c a len cap w8.heap.size [0, 5, 1073741824] _ (hcur8.alloc _) (by have := hcur8.lt; omega) 3 rfl (by omega) (by omega) (intsAt_lit3 w8 _ _ _ rfl)).mono ?_
            rintro e w9 ⟨⟨z, hz, rfl⟩, hx9, hcur9⟩
            have hzb : 0 ≤ z ∧ z ≤ 1073741824 := by simp at hz; omega
            have HE9 : Hid (Ext c w2 w9) := (HE8.out.alloc _).trans hx9
            have q0 := (cell_same (HE9.out.block g HGL.out.1 HGL.out.2) _).trans HHD.out.c2
            have qf := (froz_same (HE9.out.block g HGL.out.1 HGL.out.2) _).trans (HFR.out (j * 5 + 2))
            have HD : Hid (Drawn3 w (w9.setCell ⟨g, j * 5 + 2, none⟩ (.int .i64 z)) c a len cap (.slice (some ⟨g0, 0, none⟩) n cap0)) := put_finish HB.out HN.out HE9.out hcur9 2 (.int .i64 z) (.mk x.op x.at_ z x.s x.len x.kid) (by omega) rfl rfl rfl ⟨_, _, _, _, _, _, rfl⟩ ⟨HPL.out.1, by simp only [D.n]; omega, by simp only [D.n]; omega⟩ (Nat.le_add_left _ _)
            clear hcur8 hcur9 hx9 hz HE8 HE9
            go_wp2_with fail
            go_ret
            exact ⟨_, rfl, HD.out⟩
          · have d1 : (y == 1) = false := by simp [e1]
            by_cases e2 : y = 2
            · subst e2
              go_wp2_with fail
              refine (l1Pick_any c a len cap w8.heap.size datPicks _ (hcur8.alloc _) (by have := hcur8.lt; omega) 4 rfl (by omega) (by omega) (textsAt_lit w8 datPicks _ _ (by kernel_rfl))).mono ?_
              rintro e w9 ⟨⟨z, hz, rfl⟩, hx9, hcur9⟩
              have hzb := datPicks_size z hz
              have HE9 : Hid (Ext c w2 w9) := (HE8.out.alloc _).trans hx9
              have q0 := (cell_same (HE9.out.block g HGL.out.1 HGL.out.2) _).trans HHD.out.c3
              have qf := (froz_same (HE9.out.block g HGL.out.1 HGL.out.2) _).trans (HFR.out (j * 5 + 3))
              have HD : Hid (Drawn3 w (w9.setCell ⟨g, j * 5 + 3, none⟩ (.string z)) c a len cap (.slice (some ⟨g0, 0, none⟩) n cap0)) := put_finish HB.out HN.out HE9.out hcur9 3 (.string z) (.mk x.op x.at_ x.n z x.len x.kid) (by omega) rfl rfl rfl ⟨_, _, _, _, _, _, rfl⟩ ⟨by simp only [D.s]; unfold maxLen; omega, HPL.out.2⟩ (by simp only [D.s]; omega)
              clear hcur8 hcur9 hx9 hz HE8 HE9
              go_wp2_with fail
              go_ret
              exact ⟨_, rfl, HD.out⟩
            · have d2 : (y == 2) = false := by simp [e2]
              by_cases e3 : y = 3
              · subst e3
                have q0 := (cell_same (HE8.out.block g HGL.out.1 HGL.out.2) _).trans HHD.out.c4
                have qf := (froz_same (HE8.out.block g HGL.out.1 HGL.out.2) _).trans (HFR.out (j * 5 + 4))
                obtain ⟨la, SS, hA, hsub, hub⟩ := kids_acc HB.out HN.out HE8.out
                have HA : Hid (Acc w.heap.size w8 (kidList x.len x.kid) (.slice pu x.len cu) la SS ∧ (∀ b ∈ SS.flatten, b ∈ T) ∧ (∀ b, ((.slice pu x.len cu) : Value).ownBlock = some b → b ∈ T)) := ⟨hA, hsub, hub⟩
                have HOWN : Hid (w8.ownsRow 0 30 5 (.slice pu x.len cu) x.len (drows la)) := by have := hA.own; rw [kidList_len] at this; exact this
                clear hA hsub hub
                have H8C : Hid (CurAt c a len cap w8) := hcur8
                clear hcur8
                have q5 : ∀ o, (w8.alloc o).cell? ⟨g, j * 5 + 4, none⟩ = some (.slice pu x.len cu) := fun o => ((newb w8 o).cell (by exact Nat.lt_of_lt_of_le HGL.out.1 HE8.out.size)).trans q0
                have hli : (x.len : Int) < (x.len : Int) + 1 := by omega
                obtain ⟨i0, hi0, hz0, hz1, hz2⟩ := info_parts dat_info2
                go_wp2_with fail
                go_region_law
                  ((refine step_append_lies _ (by rfl) _ _ _ (by rfl) 0 30 i0 _ 5 64 Tryz.underlying25 hi0 hz0 hz1 hz2 rfl (by omega) (.slice pu x.len cu) x.len (drows la) (by rfl) ((HOWN.out.alloc _).drew) ⟨w8.heap.size, 0, none⟩ 1 1 [.int .i64 0, .int .i64 0, .int .i64 0, .string ⟨#[]⟩, .slice none 0 0] (by rfl) (by rfl) (World.news_of_block (cs := #[.int .i64 0, .int .i64 0, .int .i64 0, .string ⟨#[]⟩, .slice none 0 0]) (t := 30) (fr := (0, 0)) (heap_alloc_new w8 _)) (by simp [Value.oneCell']) (by omega) (by unfold maxLen; omega) (by omega) (Nat.zero_le _) (w8.heap.size + 1) (by simp) ?_; intro gg cap3 w3 hown3 hgrow hat hlt3; obtain ⟨hgg, hg3, hdr⟩ := app_finish HB.out HN.out HE8.out H8C.out HA.out.1 HA.out.2.1 HA.out.2.2 hown3 hgrow hat; have HDR : Hid (Drawn3 w ((((((w3.setCell ⟨gg, x.len * 5, none⟩ (.int .i64 1)).setCell ⟨gg, x.len * 5 + 1, none⟩ (.int .i64 0)).setCell ⟨gg, x.len * 5 + 2, none⟩ (.int .i64 3)).setCell ⟨gg, x.len * 5 + 3, none⟩ (.string ⟨#[]⟩)).setCell ⟨gg, x.len * 5 + 4, none⟩ (.slice none 0 0)).setCell ⟨g, j * 5 + 4, none⟩ (.slice (some ⟨gg, 0, none⟩) (x.len + 1) cap3)) c a len cap (.slice (some ⟨g0, 0, none⟩) n cap0)) := hdr; have HDR2 : Hid (Drawn3 w ((((((w3.setCell ⟨g, j * 5 + 4, none⟩ (.slice (some ⟨gg, 0, none⟩) (x.len + 1) cap3)).setCell ⟨gg, x.len * 5, none⟩ (.int .i64 1)).setCell ⟨gg, x.len * 5 + 1, none⟩ (.int .i64 0)).setCell ⟨gg, x.len * 5 + 2, none⟩ (.int .i64 3)).setCell ⟨gg, x.len * 5 + 3, none⟩ (.string ⟨#[]⟩)).setCell ⟨gg, x.len * 5 + 4, none⟩ (.slice none 0 0)) c a len cap (.slice (some ⟨g0, 0, none⟩) n cap0)) := Eq.mpr (congrArg (fun W => Drawn3 w W c a len cap (.slice (some ⟨g0, 0, none⟩) n cap0)) (five_comm w3 g (j * 5 + 4) gg (x.len * 5) _ _ _ _ _ _ hgg)) HDR.out; have r4 := (cell_same hg3 _).trans HHD.out.c4; have rf := (froz_same hg3 _).trans (HFR.out (j * 5 + 4)); have hfr3 : ∀ k, w3.frozen? ⟨gg, k, none⟩ = false := fun k => hown3.frozenAt k; have hcl3 : ∀ k, k < 5 → ∃ u, w3.cell? ⟨gg, x.len * 5 + k, none⟩ = some u := (fun k hk => ⟨_, (hown3.cellAt (x.len * 5 + k) (by omega)).trans (List.getElem?_eq_getElem (by have := hown3.1; omega))⟩); obtain ⟨c0, hc0⟩ := hcl3 0 (by omega); obtain ⟨c1, hc1⟩ := hcl3 1 (by omega); obtain ⟨c2, hc2⟩ := hcl3 2 (by omega); obtain ⟨c3, hc3⟩ := hcl3 3 (by omega); obtain ⟨c4, hc4⟩ := hcl3 4 (by omega); rw [Nat.add_zero] at hc0; have hgg' : ¬ gg = g := (fun e => hgg e.symm); clear hdr hg3 hcl3 hown3 hgrow hat hlt3))
                all_goals
                  go_wp2_with fail
                  go_ret
                  refine ⟨(.slice (some ⟨g0, 0, none⟩) n cap0), rfl, ?_⟩
                  first | with_reducible exact HDR.out | with_reducible exact HDR2.out
              · have d3 : (y == 3) = false := by simp [e3]
                by_cases e4 : y = 4
                · subst e4
                  have q0 := (cell_same (HE8.out.block g HGL.out.1 HGL.out.2) _).trans HHD.out.c1
                  have qf := (froz_same (HE8.out.block g HGL.out.1 HGL.out.2) _).trans (HFR.out (j * 5 + 1))
                  have HD : Hid (Drawn3 w (w8.setCell ⟨g, j * 5 + 1, none⟩ (.int .i64 (-1))) c a len cap (.slice (some ⟨g0, 0, none⟩) n cap0)) := put_finish HB.out HN.out HE8.out hcur8 1 (.int .i64 (-1)) (.mk x.op (-1) x.n x.s x.len x.kid) (by omega) rfl rfl rfl ⟨_, _, _, _, _, _, rfl⟩ HPL.out (Nat.le_add_left _ _)
                  clear hcur8 HE8
                  go_wp2_with fail
                  go_ret
                  exact ⟨_, rfl, HD.out⟩
                · have d4 : (y == 4) = false := by simp [e4]
                  go_wp2_with fail
                  go_ret
                  exact ⟨_, rfl, same_finish HB.out HS.out HE8.out hcur8 (root_there HN.out)⟩
end Go.Proofs.YtoljphjmekkneabGreatDoor
