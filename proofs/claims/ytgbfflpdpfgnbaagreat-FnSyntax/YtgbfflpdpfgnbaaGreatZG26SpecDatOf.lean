/- laws.toDat and laws.toDatS: a datum, laid anew, each row in a block of its own. Condition: at most 2^20 of it. -/
import Derived.Test.YtgbfflpdpfgnbaaGreatRows
import Derived.Test.YtgbfflpdpfgnbaaGreatZG10DatOwn
import Derived.Test.YtgbfflpdpfgnbaaGreatZG25ToDat
import Derived.Test.YtgbfflpdpfgnbaaGreatZG3SpecStart
import Derived.Test.YtgbfflpdpfgnbaaGreatZG4IntsImpl
import Derived.Test.YtgbfflpdpfgnbaaGreatZG7Cur
import Derived.WalkKit
import Derived.ProofKit
import Derived.Deep.AppendLies
namespace Go.Proofs.YtgbfflpdpfgnbaaGreat
open Go.ChangeShapes Go.WideShapes Go.ChangeAt Go.RowKit

theorem own_baseD {w : World} {base B e size n : Nat} {v : Value} {xs : List Value} (h : w.ownsRow base e size v n xs) (hB : ∀ g, v.ownBlock = some g → B ≤ g) : w.ownsRow B e size v n xs := by
  refine ⟨h.1, ?_⟩
  rcases h.2 with hn | ⟨g, cap, cur, rfl, hbg, rest⟩
  · exact .inl hn
  · exact .inr ⟨g, cap, cur, rfl, hB g rfl, rest⟩

/-- The rows so far: each is owned, in blocks from B on. -/
structure DAcc (B : Nat) (w : World) (kid : Nat → D) (l : List (D × Value)) (SS : List (List Nat)) : Prop where
  len : SS.length = l.length
  ks : Ks kid l
  each : ∀ i, i < l.length → ∃ u T, l[i]? = some (kid i, u) ∧ SS[i]? = some T ∧ DOwn w (kid i) u T
  nd : SS.flatten.Nodup
  ge : ∀ x ∈ SS.flatten, B ≤ x
theorem DAcc.nil (B : Nat) (w : World) (kid : Nat → D) : DAcc B w kid [] [] := ⟨rfl, Ks.nil _, fun i hi => by simp at hi, by simp, by simp⟩
theorem DAcc.lt {B : Nat} {w : World} {kid : Nat → D} {l : List (D × Value)} {SS : List (List Nat)} (h : DAcc B w kid l SS) : ∀ x ∈ SS.flatten, x < w.heap.size := by
  intro x hx
  obtain ⟨T, hT, hxT⟩ := List.mem_flatten.1 hx
  obtain ⟨i, hi, rfl⟩ := List.mem_iff_getElem.1 hT
  obtain ⟨u, T', k1, k2, k3⟩ := h.each i (by rw [← h.len]; exact hi)
  rw [List.getElem?_eq_getElem hi] at k2
  injection k2 with k2
  exact k3.there _ x (by rw [← k2]; exact hxT)
theorem DAcc.same {B : Nat} {w w' : World} {kid : Nat → D} {l : List (D × Value)} {SS : List (List Nat)} (h : DAcc B w kid l SS) (hs : ∀ x, B ≤ x → x < w.heap.size → w'.heap[x]? = w.heap[x]?) : DAcc B w' kid l SS :=
  ⟨h.len, h.ks, fun i hi => by
    obtain ⟨u, T, k1, k2, k3⟩ := h.each i hi
    exact ⟨u, T, k1, k2, k3.same _ (fun x hx => hs x (h.ge x (mem_flat k2 hx)) (h.lt x (mem_flat k2 hx)))⟩, h.nd, h.ge⟩
theorem DAcc.snoc {B : Nat} {w : World} {kid : Nat → D} {l : List (D × Value)} {SS : List (List Nat)} (h : DAcc B w kid l SS) {u : Value} {T : List Nat} (hv : DOwn w (kid l.length) u T) (hn : T.Nodup) (hge : ∀ x ∈ T, B ≤ x) (hd : ∀ x ∈ T, x ∉ SS.flatten) : DAcc B w kid (l ++ [(kid l.length, u)]) (SS ++ [T]) := by
  refine ⟨by simp [h.len], h.ks.snoc u, fun i hi => ?_, ?_, ?_⟩
  · rcases Nat.lt_or_ge i l.length with h1 | h1
    · obtain ⟨u', T', k1, k2, k3⟩ := h.each i h1
      exact ⟨u', T', by rw [List.getElem?_append_left h1]; exact k1, by rw [List.getElem?_append_left (by rw [h.len]; exact h1)]; exact k2, k3⟩
    · have hi' : i = l.length := by simp at hi; omega
      subst hi'
      exact ⟨u, T, by simp, by rw [← h.len]; simp, hv⟩
  · rw [List.flatten_append]
    simp only [List.flatten_cons, List.flatten_nil, List.append_nil]
    exact List.nodup_append.2 ⟨h.nd, hn, fun a ha b hb e => hd b hb (e ▸ ha)⟩
  · intro x hx
    rw [List.flatten_append] at hx
    simp only [List.flatten_cons, List.flatten_nil, List.append_nil] at hx
    rcases List.mem_append.1 hx with hx | hx
    · exact h.ge x hx
    · exact hge x hx

/-- A row goes on by one node that is owned. -/
theorem row_stepD {w wr w2 : World} {e n cap : Nat} {l : List (D × Value)} {junk : List Value} {kid : Nat → D} {v : Value} {SS : List (List Nat)} {T : List Nat}
    (hown : wr.ownsRow w.heap.size e 5 (.slice (some ⟨w.heap.size, 0, none⟩) n cap) n (drows l ++ junk)) (hj : 5 ≤ junk.length) (hacc : DAcc (w.heap.size + 1) wr kid l SS)
    (hbel : Below w.heap.size w wr) (hsz : w.heap.size < wr.heap.size) (hb : Below wr.heap.size wr w2) (hv : DOwn w2 (kid l.length) v T) (hn : T.Nodup) (hT : ∀ x ∈ T, wr.heap.size ≤ x) :
    (st5 w2 w.heap.size (l.length * 5) (kid l.length) v).ownsRow w.heap.size e 5 (.slice (some ⟨w.heap.size, 0, none⟩) n cap) n (drows (l ++ [(kid l.length, v)]) ++ junk.drop 5) ∧
    DAcc (w.heap.size + 1) (st5 w2 w.heap.size (l.length * 5) (kid l.length) v) kid (l ++ [(kid l.length, v)]) (SS ++ [T]) ∧ Below w.heap.size w (st5 w2 w.heap.size (l.length * 5) (kid l.length) v) ∧ w.heap.size < (st5 w2 w.heap.size (l.length * 5) (kid l.length) v).heap.size := by
  obtain ⟨q, g⟩ := stored5 (own_below5 hown hb) hj (kid l.length) v
  have hb2 : Below w.heap.size w w2 := hbel.trans (hb.mono (by omega))
  have hlt := hacc.lt
  have a2 : DAcc (w.heap.size + 1) w2 kid l SS := hacc.same (fun x _ hx => hb.block x hx)
  have a3 := a2.snoc hv hn (fun x hx => by have := hT x hx; omega) (fun x hx hx' => by have := hT x hx; have := hlt x hx'; omega)
  refine ⟨q, a3.same (fun x hx hx' => g.block x hx' (by intro e; injection e with e; omega)), hb2.trans ⟨g.os, g.tape, g.output, g.size, fun k hk => g.block k (by have := hb2.size; omega) (by intro e; injection e with e; omega)⟩, Nat.lt_of_lt_of_le hsz (Nat.le_trans hb.size g.size)⟩

/-- Rows that are done. -/
theorem DAcc.done {w : World} {base g cap n B : Nat} {kid : Nat → D} {l : List (D × Value)} {SS : List (List Nat)} (h : DAcc B w kid l SS) (hown : w.ownsRow base 26 5 (.slice (some ⟨g, 0, none⟩) n cap) n (drows l)) (hl : l.length = n) (hg : g < B) :
    SOwn w n kid (.slice (some ⟨g, 0, none⟩) n cap) (g :: SS.flatten) ∧ (g :: SS.flatten).Nodup ∧ ∀ x ∈ g :: SS.flatten, g ≤ x := by
  refine ⟨.inr ⟨g, cap, l, SS, rfl, own_baseD hown (fun _ _ => Nat.zero_le _), hl, by rw [h.len]; exact hl, h.ks, rfl, fun i hi => h.each i (by omega)⟩, List.nodup_cons.2 ⟨fun hx => by have := h.ge g hx; omega, h.nd⟩, fun x hx => ?_⟩
  rcases List.mem_cons.1 hx with rfl | hx
  · exact Nat.le_refl _
  · have := h.ge x hx; omega

end Go.Proofs.YtgbfflpdpfgnbaaGreat

/- Rows of data that are being built, each owned; a datum whose kids are appended. No conditions. -/
namespace Go.Proofs.YtgbfflpdpfgnbaaGreat
open Go.ChangeShapes Go.WideShapes Go.ChangeAt Go.RowKit

/-- The list so far, k long, at the value lv; its elements' blocks. -/
structure DBuild (B : Nat) (w : World) (kid : Nat → D) (k : Nat) (lv : Value) (la : List (D × Value)) (SS : List (List Nat)) : Prop where
  own : w.ownsRow 0 26 5 lv k (drows la)
  num : la.length = k
  rows : DAcc B w kid la SS
  out : ∀ g, lv.ownBlock = some g → g ∉ SS.flatten ∧ B ≤ g
theorem DBuild.nil (B : Nat) (w : World) (kid : Nat → D) : DBuild B w kid 0 (.slice none 0 0) [] [] :=
  ⟨⟨rfl, .inl ⟨rfl, rfl⟩⟩, rfl, DAcc.nil _ _ _, fun g h => by simp [Value.ownBlock] at h⟩
theorem DBuild.same {B : Nat} {w w' : World} {kid : Nat → D} {k : Nat} {lv : Value} {la : List (D × Value)} {SS : List (List Nat)} (h : DBuild B w kid k lv la SS) (hs : ∀ x, B ≤ x → x < w.heap.size → w'.heap[x]? = w.heap[x]?) : DBuild B w' kid k lv la SS :=
  ⟨own_same h.own (fun g hg => hs g (h.out g hg).2 (h.own.lt g hg).2), h.num, h.rows.same hs, h.out⟩
/-- One more. -/
theorem DBuild.app {B : Nat} {w w3 : World} {kid : Nat → D} {k : Nat} {lv v : Value} {la : List (D × Value)} {SS : List (List Nat)} {T : List Nat} {o : Obj} {g cap : Nat} (h : DBuild B w kid k lv la SS) (hd : DOwn w (kid k) v T) (hT : T.Nodup) (hTS : ∀ x ∈ T, x ∉ SS.flatten) (hTl : ∀ x ∈ T, lv.ownBlock ≠ some x) (hTB : ∀ x ∈ T, B ≤ x) (hB : B ≤ w.heap.size)
    (hown : w3.ownsRow 0 26 5 (.slice (some ⟨g, 0, none⟩) (k + 1) cap) (k + 1) (drows la ++ dcells (kid k, v))) (hg : (w.alloc o).grownBy w3 lv.ownBlock) (hat : lv.ownBlock = some g ∨ g = w.heap.size + 1) :
    DBuild B w3 kid (k + 1) (.slice (some ⟨g, 0, none⟩) (k + 1) cap) (la ++ [(kid k, v)]) (SS ++ [T]) := by
  have hlt := h.rows.lt
  have hTt := hd.there
  have hsz : (w.alloc o).heap.size = w.heap.size + 1 := by simp
  have keep : ∀ x, x < w.heap.size → lv.ownBlock ≠ some x → w3.heap[x]? = w.heap[x]? := fun x hx hne =>
    (hg.block x (by omega) (fun e => hne e.symm)).trans (Below.heap_alloc w o x hx)
  have hfl : (SS ++ [T]).flatten = SS.flatten ++ T := by simp
  have hd' : DOwn w (kid la.length) v T := by rw [h.num]; exact hd
  have a1 := h.rows.snoc hd' hT hTB hTS
  rw [h.num] at a1
  refine ⟨by rw [drows_append]; exact hown, by simp [h.num], ⟨a1.len, a1.ks, fun i hi => ?_, a1.nd, a1.ge⟩, ?_⟩
  · obtain ⟨u', T', k1, k2, k3⟩ := a1.each i hi
    refine ⟨u', T', k1, k2, k3.same _ (fun x hx => keep x (k3.there _ x hx) (fun e => ?_))⟩
    have hx' := mem_flat k2 hx
    rw [hfl, List.mem_append] at hx'
    exact hx'.elim (h.out x e).1 (fun hx => hTl x hx e)
  · intro x hx
    simp only [Value.ownBlock, Option.some.injEq] at hx
    subst hx
    rw [hfl, List.mem_append]
    rcases hat with hat | hat
    · exact ⟨fun hx => hx.elim (h.out g hat).1 (fun hx => hTl g hx hat), (h.out g hat).2⟩
    · refine ⟨fun hx => ?_, by omega⟩
      rcases hx with hx | hx
      · have := hlt g hx; omega
      · have := hTt g hx; omega
/-- The list as it stands. -/
theorem DBuild.xsown {B : Nat} {w : World} {kid : Nat → D} {k : Nat} {lv : Value} {la : List (D × Value)} {SS : List (List Nat)} (h : DBuild B w kid k lv la SS) : ∃ S, SOwn w k kid lv S ∧ S.Nodup ∧ ∀ x ∈ S, B ≤ x := by
  rcases h.own.2 with ⟨h1, h2⟩ | ⟨g, cap, cur, h1, hb, hg, hc, hm, hs, ht⟩
  · exact ⟨[], .inl ⟨h2, h1, rfl⟩, by simp, fun x hx => by simp at hx⟩
  · subst h1
    refine ⟨g :: SS.flatten, .inr ⟨g, cap, la, SS, rfl, h.own, h.num, by rw [h.rows.len]; exact h.num, h.rows.ks, rfl, fun i hi => h.rows.each i (by rw [h.num]; exact hi)⟩, List.nodup_cons.2 ⟨(h.out g rfl).1, h.rows.nd⟩, fun x hx => ?_⟩
    rcases List.mem_cons.1 hx with rfl | hx
    · exact (h.out x rfl).2
    · exact h.rows.ge x hx

/-- What the loop keeps: the argument's block C, the result's R, the datum's own O; the kids so far, all from block B on. -/
structure DLoop (w wr : World) (B C R O : Nat) (oA : Obj) (op a n : Int) (s : ByteArray) (kid : Nat → D) (k : Nat) (lv : Value) (la : List (D × Value)) (SS : List (List Nat)) : Prop where
  bel : Fr [] w wr
  size : B ≤ wr.heap.size
  ord : w.heap.size ≤ C ∧ w.heap.size ≤ R ∧ w.heap.size ≤ O ∧ C < B ∧ R < B ∧ O < B ∧ C ≠ O ∧ R ≠ O
  arg : wr.heap[C]? = some oA
  res : Five wr R 0 0 0 ⟨#[]⟩ (.slice none 0 0) 26
  out : Five wr O op a n s lv 26
  rows : DBuild B wr kid k lv la SS

theorem DLoop.next {w wr w1 w3 : World} {B C R O : Nat} {oA : Obj} {op a n : Int} {s : ByteArray} {kid : Nat → D} {k : Nat} {lv : Value} {la : List (D × Value)} {SS : List (List Nat)}
    (hL : DLoop w wr B C R O oA op a n s kid k lv la SS) {v' : Value} {T : List Nat} (hb : Fr [] wr w1) (hd : DOwn w1 (kid k) v' T) (hn : T.Nodup) (hT : ∀ x ∈ T, wr.heap.size ≤ x) {o : Obj} {g cap : Nat}
    (hown : w3.ownsRow 0 26 5 (.slice (some ⟨g, 0, none⟩) (k + 1) cap) (k + 1) (drows la ++ dcells (kid k, v'))) (hg : (w1.alloc o).grownBy w3 lv.ownBlock) (hat : lv.ownBlock = some g ∨ g = w1.heap.size + 1) :
    (w3.heap[O]? = wr.heap[O]?) ∧ DLoop w (w3.setCell ⟨O, 4, none⟩ (.slice (some ⟨g, 0, none⟩) (k + 1) cap)) B C R O oA op a n s kid (k + 1) (.slice (some ⟨g, 0, none⟩) (k + 1) cap) (la ++ [(kid k, v')]) (SS ++ [T]) := by
  obtain ⟨o1, o2, o3, o4, o5, o6, o7, o8⟩ := hL.ord
  have hs := hL.size
  have hbs := hb.size
  have hcs : ∀ x : Nat, x ∉ ([] : List Nat) := fun x => by simp
  have hws := hL.bel.size
  have hA1 : DBuild B w1 kid k lv la SS := hL.rows.same (fun x hx hx' => hb.block x hx' (hcs x))
  have hlt := hL.rows.rows.lt
  have hlv : ∀ x, lv.ownBlock = some x → B ≤ x ∧ x < wr.heap.size := fun x hx => ⟨(hL.rows.out x hx).2, (hL.rows.own.lt x hx).2⟩
  have hA3 := hA1.app (o := o) (g := g) (cap := cap) hd hn (fun x hx hx' => by have := hT x hx; have := hlt x hx'; omega) (fun x hx e => by have := hT x hx; have := (hlv x e).2; omega) (fun x hx => by have := hT x hx; omega) (by omega) hown hg hat
  have hs1 : (w1.alloc o).heap.size = w1.heap.size + 1 := by simp
  have low : ∀ x, x < B → w3.heap[x]? = wr.heap[x]? := fun x hx =>
    (hg.block x (by omega) (fun e => by have := (hlv x e.symm).1; omega)).trans ((Below.heap_alloc w1 o x (by omega)).trans (hb.block x (by omega) (hcs x)))
  have hset : ∀ x, x ≠ O → (w3.setCell ⟨O, 4, none⟩ (.slice (some ⟨g, 0, none⟩) (k + 1) cap)).heap[x]? = w3.heap[x]? := fun x hx => Below.heap_setCell w3 ⟨O, 4, none⟩ _ x hx
  have hgs := hg.size
  have hO3 := low O o6
  have e : (w3.setCell ⟨O, 4, none⟩ (.slice (some ⟨g, 0, none⟩) (k + 1) cap)).heap.size = w3.heap.size := by simp
  have hfr : Fr [] w w3 := ⟨hg.os.trans (hb.os.trans hL.bel.os), hg.tape.trans (hb.tape.trans hL.bel.tape), hg.output.trans (hb.output.trans hL.bel.output), by omega, fun x hx hc => (low x (by omega)).trans (hL.bel.block x hx hc)⟩
  refine ⟨hO3, hfr.setCell _ _ (by exact o3), by omega, hL.ord, (hset C o7).trans ((low C o4).trans hL.arg), (hset R o8).trans ((low R o5).trans hL.res), ?_, hA3.same (fun x hx _ => hset x (by omega))⟩
  have h1 : Five w3 O op a n s lv 26 := hO3.trans hL.out
  exact heap_setCell_same w3 O 4 _ _ _ h1

theorem DLoop.done {w wr : World} {B C R O : Nat} {oA : Obj} {op a n : Int} {s : ByteArray} {kid : Nat → D} {k : Nat} {lv : Value} {la : List (D × Value)} {SS : List (List Nat)}
    (hL : DLoop w wr B C R O oA op a n s kid k lv la SS) (hp : s.size ≤ maxLen ∧ (-9223372036854775808 ≤ n ∧ n ≤ 9223372036854775807)) :
    Fr [] w (put5 wr R op a n s lv) ∧ ∃ S, DOwn (put5 wr R op a n s lv) (.mk op a n s k kid) lv S ∧ S.Nodup ∧ ∀ x ∈ S, w.heap.size ≤ x := by
  obtain ⟨o1, o2, o3, o4, o5, o6, o7, o8⟩ := hL.ord
  have hoth := put5_other wr R op a n s lv
  obtain ⟨S, h1, h2, h3⟩ := hL.rows.xsown
  refine ⟨((((hL.bel.setCell _ _ (by exact o2)).setCell _ _ (by exact o2)).setCell _ _ (by exact o2)).setCell _ _ (by exact o2)).setCell _ _ (by exact o2), S, ⟨hp, h1.same (fun x hx => hoth x (by have := h3 x hx; omega))⟩, h2, fun x hx => by have := h3 x hx; omega⟩

theorem dat_start (w : World) (oA : Obj) (op a n : Int) (s : ByteArray) (kid : Nat → D) :
    DLoop w (((w.alloc oA).alloc (.cells #[.int .i64 0, .int .i64 0, .int .i64 0, .string ⟨#[]⟩, .slice none 0 0] 26)).alloc (.cells #[.int .i64 op, .int .i64 a, .int .i64 n, .string s, .slice none 0 0] 26)) (w.heap.size + 3) w.heap.size (w.heap.size + 1) (w.heap.size + 1 + 1) oA op a n s kid 0 (.slice none 0 0) [] [] := by
  obtain ⟨h1, h2, h3, h4, h5⟩ := threeX (Below.refl (((w.alloc oA).alloc (.cells #[.int .i64 0, .int .i64 0, .int .i64 0, .string ⟨#[]⟩, .slice none 0 0] 26)).alloc (.cells #[.int .i64 op, .int .i64 a, .int .i64 n, .string s, .slice none 0 0] 26)).heap.size _)
  exact ⟨Fr.below h5 _, h4, ⟨by omega, by omega, by omega, by omega, by omega, by omega, by omega, by omega⟩, h1, h2, h3, DBuild.nil _ _ _⟩
end Go.Proofs.YtgbfflpdpfgnbaaGreat

/- spec.DatOf. Condition: at most 2^20 of it. -/
namespace Go.Proofs.YtgbfflpdpfgnbaaGreat
open Go.ChangeShapes Go.WideShapes Go.ChangeAt Go.RowKit

def SpecDatAt (t : X) : Prop := ∀ (w : World) (sv v : Value), t.At 0 w sv v → t.weight ≤ 1048576 → Calls Tryz.prog 22 #[.agg #[.int .i64 t.op, .int .i64 t.at_, .int .i64 t.n, .string t.s, sv, v]] w fun e w' =>
  ∃ u S, e = .returned (.agg #[.int .i64 t.op, .int .i64 t.at_, .int .i64 t.n, .string t.s, u]) ∧ Below w.heap.size w w' ∧ DOwn w' (datX t) u S ∧ S.Nodup ∧ ∀ x ∈ S, w.heap.size ≤ x

theorem specDat_enter (vs : Array Value) (w : World) : (callFunc 22 vs).run Tryz.prog w = .ok (.enter 22 vs) w := by kernel_rfl
theorem dat_cells (d : X) (v : Value) : dcells (datX d, v) = [.int .i64 d.op, .int .i64 d.at_, .int .i64 d.n, .string d.s, v] := by cases d <;> rfl

set_option maxRecDepth 100000 in
set_option maxHeartbeats 4000000 in
theorem spec_dat_of (t : X) : SpecDatAt t := by
  induction t with
  | no => intro w sv v h; exact h.elim
  | mk op a n s set len kid ih =>
    intro w sv v hin hwt
    obtain ⟨i0, hi0, hz0, hz1, hz2⟩ := info_parts dat_info
    have hsl : XsAt 0 w len kid v := hin.xs
    have HPL : Hid (s.size ≤ maxLen ∧ -9223372036854775808 ≤ n ∧ n ≤ 9223372036854775807) := ⟨hin.size, hin.num⟩
    obtain ⟨p, cap, rfl, -, hat⟩ := hsl.at
    obtain ⟨ps, cps, hsv⟩ := hin.sets.shape
    simp only [X.set] at hsv
    subst hsv
    have hwe : (X.mk op a n s set len kid).weight = s.size + (set.length + (len + sumX (fun i => (kid i).weight) len)) := rfl
    have hlen : len ≤ 1048576 := by omega
    have IH : Hid (∀ i, i < len → ∀ (w : World) (sv v : Value), (kid i).At 0 w sv v → Calls Tryz.prog 22 #[.agg #[.int .i64 (kid i).op, .int .i64 (kid i).at_, .int .i64 (kid i).n, .string (kid i).s, sv, v]] w fun e w' =>
      ∃ u S, e = .returned (.agg #[.int .i64 (kid i).op, .int .i64 (kid i).at_, .int .i64 (kid i).n, .string (kid i).s, u]) ∧ Below w.heap.size w w' ∧ DOwn w' (datX (kid i)) u S ∧ S.Nodup ∧ ∀ x ∈ S, w.heap.size ≤ x) := fun i hi w sv v h => ih i w sv v h (by
        have h1 := sumX_at (fun i => (kid i).weight) i len hi
        omega)
    have HAT : Hid (∀ i, i < len → ∃ b o su u, p = some ⟨b, o, none⟩ ∧ Head6 w b (o + i * 6) (kid i) su u ∧ (kid i).At 0 w su u) := hat
    have HY : Hid (datX (X.mk op a n s set len kid) = .mk op a n s len (fun i => datX (kid i))) := rfl
    have HS0 := dat_start w (.cells #[.int .i64 op, .int .i64 a, .int .i64 n, .string s, .slice ps set.length cps, .slice p len cap] 32) op a n s (fun i => datX (kid i))
    obtain ⟨C, hC⟩ : ∃ C, C = w.heap.size := ⟨_, rfl⟩
    obtain ⟨R, hR⟩ : ∃ R, R = w.heap.size + 1 := ⟨_, rfl⟩
    obtain ⟨O, hO⟩ : ∃ O, O = w.heap.size + 1 + 1 := ⟨_, rfl⟩
    have HH0 : Hid (DLoop w (((w.alloc (.cells #[.int .i64 op, .int .i64 a, .int .i64 n, .string s, .slice ps set.length cps, .slice p len cap] 32)).alloc (.cells #[.int .i64 0, .int .i64 0, .int .i64 0, .string ⟨#[]⟩, .slice none 0 0] 26)).alloc (.cells #[.int .i64 op, .int .i64 a, .int .i64 n, .string s, .slice none 0 0] 26)) (w.heap.size + 3) C R O (.cells #[.int .i64 op, .int .i64 a, .int .i64 n, .string s, .slice ps set.length cps, .slice p len cap] 32) op a n s (fun i => datX (kid i)) 0 (.slice none 0 0) [] []) := by
      show DLoop _ _ _ _ _ _ _ _ _ _ _ _ _ _ _ _
      rw [hO, hR, hC]; exact HS0
    have hCO : C ≠ O := by omega
    have hRO : R ≠ O := by omega
    clear hin hsl ih hat hwe hwt HS0
    simp only [X.op, X.at_, X.n, X.s]
    rw [HY.out]
    go_enter Tryz.func22, Tryz.ntmps22
    go_wp2_with fail
    rw [← hO, ← hR, ← hC]
    clear hC hR hO
    go_loopw [4] (fun v4 wr => ∃ (k : Nat) (lv : Value) (la : List (D × Value)) (SS : List (List Nat)), v4 = .int .i64 k ∧ k ≤ len ∧ DLoop w wr (w.heap.size + 3) C R O (.cells #[.int .i64 op, .int .i64 a, .int .i64 n, .string s, .slice ps set.length cps, .slice p len cap] 32) op a n s (fun i => datX (kid i)) k lv la SS) (fun v4 _ => len - (intOf v4).toNat)
    case atStart => exact ⟨0, _, _, _, rfl, Nat.zero_le _, HH0.out⟩
    case round =>
      obtain ⟨k, lv, la, SS, rfl, hk, hL⟩ := hrel
      have HL : Hid (DLoop w wr (w.heap.size + 3) C R O (.cells #[.int .i64 op, .int .i64 a, .int .i64 n, .string s, .slice ps set.length cps, .slice p len cap] 32) op a n s (fun i => datX (kid i)) k lv la SS) := hL
      have hA : Six wr C op a n s (.slice ps set.length cps) (.slice p len cap) 32 := hL.arg
      have a4 := hA.cells.2.2.2.2.2
      obtain ⟨o0, o1, o2, o3, o4⟩ := hL.out.cells
      clear hL HH0
      by_cases hkl : (k : Int) < len
      · obtain ⟨b, o, ux, u, hp, hd, hinu⟩ := HAT.out k (by omega)
        subst hp
        obtain ⟨c0, c1, c2, c3, c4, c5⟩ := hd.below HL.out.bel.toBelow
        have HIN : Hid ((kid k).At 0 wr.drew ux u) := X.At.below (Below.refl _ wr).drew (X.At.below HL.out.bel.toBelow hinu)
        have HKL : Hid (k < len) := by show k < len; omega
        have HOWN : Hid (wr.ownsRow 0 26 5 lv k (drows la)) := HL.out.rows.own
        have hOl : O < wr.heap.size := HL.out.out.lt
        have hCl : C < wr.heap.size := hA.lt
        have hbl : b < wr.heap.size := World.block_lt_of_cell? wr _ c0
        clear hd hinu hA
        have hki0 : (0 : Int) ≤ (k : Int) := by omega
        have HCF : Hid (∀ (vs : Array Value) (w : World), (callFunc 22 vs).run Tryz.prog w = .ok (.enter 22 vs) w) := fun vs w => specDat_enter vs w
        go_wp2_with fail
        go_region_law
          (first
            | (refine step_call1 rfl 22 (.tmp 27) 32 rfl HCF.out (.agg #[.int .i64 (kid k).op, .int .i64 (kid k).at_, .int .i64 (kid k).n, .string (kid k).s, ux, u]) rfl _ (IH.out k HKL.out wr.drew ux u HIN.out) ?_; rintro e w1 ⟨v', T, rfl, hb1, hd1, hn1, hT1⟩; refine ⟨_, rfl, ?_⟩; have HC1 : Hid (Below wr.heap.size wr w1 ∧ DOwn w1 (datX (kid k)) v' T ∧ T.Nodup ∧ ∀ x ∈ T, wr.heap.size ≤ x) := ⟨⟨hb1.os, hb1.tape, hb1.output, hb1.size, hb1.block⟩, hd1, hn1, hT1⟩; obtain ⟨pv, cv, hv'⟩ := hd1.sown.sl.shape; subst hv'; have z4 : w1.cell? ⟨O, 4, none⟩ = some lv := (HC1.out.1.cell (by exact hOl)).trans o4; have z5 : ∀ ob, (w1.alloc ob).cell? ⟨O, 4, none⟩ = some lv := fun ob => ((newx w1 ob).cell (by exact Nat.lt_of_lt_of_le hOl HC1.out.1.size)).trans z4; have y4 : w1.cell? ⟨C, 5, none⟩ = some (.slice (some ⟨b, o, none⟩) len cap) := (HC1.out.1.cell (by exact hCl)).trans a4; have HO1 : Hid (w1.ownsRow 0 26 5 lv k (drows la)) := own_belowX HOWN.out HC1.out.1; clear hb1 hd1 hn1 hT1)
            | (refine step_append_lies _ (by rfl) _ _ _ (by rfl) 0 26 i0 _ 5 64 Tryz.underlying24 hi0 hz0 hz1 hz2 rfl (by omega) lv k (drows la) (by rfl) (HO1.out.alloc _) ⟨w1.heap.size, 0, none⟩ 1 1 [.int .i64 (kid k).op, .int .i64 (kid k).at_, .int .i64 (kid k).n, .string (kid k).s, .slice pv (datX (kid k)).len cv] (by rfl) (by rfl) (World.news_of_block (cs := #[.int .i64 (kid k).op, .int .i64 (kid k).at_, .int .i64 (kid k).n, .string (kid k).s, .slice pv (datX (kid k)).len cv]) (t := 26) (fr := (0, 0)) (heap_alloc_new w1 _)) (by simp [Value.oneCell']) (by omega) (by unfold maxLen; omega) (by omega) (Nat.zero_le _) (w1.heap.size + 1) (by simp) ?_; intro gg cap3 w3 hown3 hgrow hat hlt3; obtain ⟨hO3, hnx⟩ := HL.out.next (Fr.below HC1.out.1 []) HC1.out.2.1 HC1.out.2.2.1 HC1.out.2.2.2 (by rw [dat_cells]; exact hown3) hgrow hat; have HNX : Hid (DLoop w (w3.setCell ⟨O, 4, none⟩ (.slice (some ⟨gg, 0, none⟩) (k + 1) cap3)) (w.heap.size + 3) C R O (.cells #[.int .i64 op, .int .i64 a, .int .i64 n, .string s, .slice ps set.length cps, .slice (some ⟨b, o, none⟩) len cap] 32) op a n s (fun i => datX (kid i)) (k + 1) (.slice (some ⟨gg, 0, none⟩) (k + 1) cap3) (la ++ [(datX (kid k), .slice pv (datX (kid k)).len cv)]) (SS ++ [T])) := hnx; have x4 : w3.cell? ⟨O, 4, none⟩ = some lv := (World.cell?_of_block (a := ⟨O, 4, none⟩) hO3).trans o4; have xf : w3.frozen? ⟨O, 4, none⟩ = false := (World.frozen?_of_block (a := ⟨O, 4, none⟩) hO3).trans (HL.out.out.fr 4); clear hO3 hnx hown3 hgrow hat hlt3))
        all_goals
          go_wp2_with fail
          go_roundw
          case rel => exact ⟨k + 1, _, _, _, by go_num, by omega, HNX.out⟩
          case measure => simp [intOf]; omega
      · obtain rfl : k = len := by omega
        obtain ⟨r0, r1, r2, r3, r4⟩ := HL.out.res.cells
        have rf := HL.out.res.fr
        obtain ⟨hfr, S, hX, hSn, hSg⟩ := HL.out.done HPL.out
        obtain ⟨pv, cv, hlv⟩ := hX.sown.sl.shape
        simp only [D.len] at hlv
        subst hlv
        have HS : Hid (Fr [] w (put5 wr R op a n s (.slice pv k cv)) ∧ DOwn (put5 wr R op a n s (.slice pv k cv)) (.mk op a n s k (fun i => datX (kid i))) (.slice pv k cv) S ∧ S.Nodup ∧ ∀ x ∈ S, w.heap.size ≤ x) := ⟨hfr, hX, hSn, hSg⟩
        clear hfr hX hSn hSg HL HAT IH
        go_wp2_with fail
        refine bodyPost_ret (v := .agg #[.int .i64 op, .int .i64 a, .int .i64 n, .string s, .slice pv k cv]) (by rw [results_cellX (p := 2) (ty := 26) (by kernel_rfl)]; simp [go_sem, r0, r1, r2, r3, r4]) rfl ⟨_, rfl, HS.out.1.toBelow, S, HS.out.2.1, HS.out.2.2.1, HS.out.2.2.2⟩
end Go.Proofs.YtgbfflpdpfgnbaaGreat
