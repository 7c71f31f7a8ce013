/- laws.toDat and laws.toDatS: a datum laid anew, in memory of the call's own. Condition: at most 2^20 of it. -/
import Derived.Test.YtaflnjhknnnaoaaRows
import Derived.Test.YtaflnjhknnnaoaaZG26DatOwn
import Derived.WalkKit
import Derived.ProofKit
namespace Go.Proofs.Ytaflnjhknnnaoaa
open Go.ChangeShapes Go.WideShapes Go.ChangeAt Go.RowKit

theorem dat_info : (Try.prog.info? 58).map (fun i => (i.zero, i.size, i.bytes)) = some (some (.agg #[.int .i64 0, .int .i64 0, .int .i64 0, .string ⟨#[]⟩, .slice none 0 0]), 5, 64) := by kernel_rfl

end Go.Proofs.Ytaflnjhknnnaoaa

/- laws.toDat and laws.toDatS: a datum, laid anew, each row in a block of its own. Condition: at most 2^20 of it. -/
namespace Go.Proofs.Ytaflnjhknnnaoaa
open Go.ChangeShapes Go.WideShapes Go.ChangeAt Go.RowKit

theorem own_baseD {w : World} {base B e size n : Nat} {v : Value} {xs : List Value} (h : w.ownsRow base e size v n xs) (hB : ∀ g, v.ownBlock = some g → B ≤ g) : w.ownsRow B e size v n xs := by
  refine ⟨h.1, ?_⟩
  rcases h.2 with hn | ⟨g, cap, cur, rfl, hbg, rest⟩
  · exact .inl hn
  · exact .inr ⟨g, cap, cur, rfl, hB g rfl, rest⟩

/-- The rows so far: each is owned, in blocks from B on. -/
structure DAcc (B : Nat) (w : World) (kid : Nat → D) (l : List (D × Value)) (SS : List (List Nat)) : Prop where
  len : SS.length = l.length
  ks : Ks kid l
  each : ∀ i, i < l.length → ∃ u T, l[i]? = some (kid i, u) ∧ SS[i]? = some T ∧ DOwn w (kid i) u T
  nd : SS.flatten.Nodup
  ge : ∀ x ∈ SS.flatten, B ≤ x
theorem DAcc.nil (B : Nat) (w : World) (kid : Nat → D) : DAcc B w kid [] [] := ⟨rfl, Ks.nil _, fun i hi => by simp at hi, by simp, by simp⟩
theorem DAcc.lt {B : Nat} {w : World} {kid : Nat → D} {l : List (D × Value)} {SS : List (List Nat)} (h : DAcc B w kid l SS) : ∀ x ∈ SS.flatten, x < w.heap.size := by
  intro x hx
  obtain ⟨T, hT, hxT⟩ := List.mem_flatten.1 hx
  obtain ⟨i, hi, rfl⟩ := List.mem_iff_getElem.1 hT
  obtain ⟨u, T', k1, k2, k3⟩ := h.each i (by rw [← h.len]; exact hi)
  rw [List.getElem?_eq_getElem hi] at k2
  injection k2 with k2
  exact k3.there _ x (by rw [← k2]; exact hxT)
theorem DAcc.same {B : Nat} {w w' : World} {kid : Nat → D} {l : List (D × Value)} {SS : List (List Nat)} (h : DAcc B w kid l SS) (hs : ∀ x, B ≤ x → x < w.heap.size → w'.heap[x]? = w.heap[x]?) : DAcc B w' kid l SS :=
  ⟨h.len, h.ks, fun i hi => by
    obtain ⟨u, T, k1, k2, k3⟩ := h.each i hi
    exact ⟨u, T, k1, k2, k3.same _ (fun x hx => hs x (h.ge x (mem_flat k2 hx)) (h.lt x (mem_flat k2 hx)))⟩, h.nd, h.ge⟩
theorem DAcc.snoc {B : Nat} {w : World} {kid : Nat → D} {l : List (D × Value)} {SS : List (List Nat)} (h : DAcc B w kid l SS) {u : Value} {T : List Nat} (hv : DOwn w (kid l.length) u T) (hn : T.Nodup) (hge : ∀ x ∈ T, B ≤ x) (hd : ∀ x ∈ T, x ∉ SS.flatten) : DAcc B w kid (l ++ [(kid l.length, u)]) (SS ++ [T]) := by
  refine ⟨by simp [h.len], h.ks.snoc u, fun i hi => ?_, ?_, ?_⟩
  · rcases Nat.lt_or_ge i l.length with h1 | h1
    · obtain ⟨u', T', k1, k2, k3⟩ := h.each i h1
      exact ⟨u', T', by rw [List.getElem?_append_left h1]; exact k1, by rw [List.getElem?_append_left (by rw [h.len]; exact h1)]; exact k2, k3⟩
    · have hi' : i = l.length := by simp at hi; omega
      subst hi'
      exact ⟨u, T, by simp, by rw [← h.len]; simp, hv⟩
  · rw [List.flatten_append]
    simp only [List.flatten_cons, List.flatten_nil, List.append_nil]
    exact List.nodup_append.2 ⟨h.nd, hn, fun a ha b hb e => hd b hb (e ▸ ha)⟩
  · intro x hx
    rw [List.flatten_append] at hx
    simp only [List.flatten_cons, List.flatten_nil, List.append_nil] at hx
    rcases List.mem_append.1 hx with hx | hx
    · exact h.ge x hx
    · exact hge x hx

/-- A row goes on by one node that is owned. -/
theorem row_stepD {w wr w2 : World} {e n cap : Nat} {l : List (D × Value)} {junk : List Value} {kid : Nat → D} {v : Value} {SS : List (List Nat)} {T : List Nat}
    (hown : wr.ownsRow w.heap.size e 5 (.slice (some ⟨w.heap.size, 0, none⟩) n cap) n (drows l ++ junk)) (hj : 5 ≤ junk.length) (hacc : DAcc (w.heap.size + 1) wr kid l SS)
    (hbel : Below w.heap.size w wr) (hsz : w.heap.size < wr.heap.size) (hb : Below wr.heap.size wr w2) (hv : DOwn w2 (kid l.length) v T) (hn : T.Nodup) (hT : ∀ x ∈ T, wr.heap.size ≤ x) :
    (st5 w2 w.heap.size (l.length * 5) (kid l.length) v).ownsRow w.heap.size e 5 (.slice (some ⟨w.heap.size, 0, none⟩) n cap) n (drows (l ++ [(kid l.length, v)]) ++ junk.drop 5) ∧
    DAcc (w.heap.size + 1) (st5 w2 w.heap.size (l.length * 5) (kid l.length) v) kid (l ++ [(kid l.length, v)]) (SS ++ [T]) ∧ Below w.heap.size w (st5 w2 w.heap.size (l.length * 5) (kid l.length) v) ∧ w.heap.size < (st5 w2 w.heap.size (l.length * 5) (kid l.length) v).heap.size := by
  obtain ⟨q, g⟩ := stored5 (own_below5 hown hb) hj (kid l.length) v
  have hb2 : Below w.heap.size w w2 := hbel.trans (hb.mono (by omega))
  have hlt := hacc.lt
  have a2 : DAcc (w.heap.size + 1) w2 kid l SS := hacc.same (fun x _ hx => hb.block x hx)
  have a3 := a2.snoc hv hn (fun x hx => by have := hT x hx; omega) (fun x hx hx' => by have := hT x hx; have := hlt x hx'; omega)
  refine ⟨q, a3.same (fun x hx hx' => g.block x hx' (by intro e; injection e with e; omega)), hb2.trans ⟨g.os, g.tape, g.output, g.size, fun k hk => g.block k (by have := hb2.size; omega) (by intro e; injection e with e; omega)⟩, Nat.lt_of_lt_of_le hsz (Nat.le_trans hb.size g.size)⟩

/-- Rows that are done. -/
theorem DAcc.done {w : World} {base g cap n B : Nat} {kid : Nat → D} {l : List (D × Value)} {SS : List (List Nat)} (h : DAcc B w kid l SS) (hown : w.ownsRow base 58 5 (.slice (some ⟨g, 0, none⟩) n cap) n (drows l)) (hl : l.length = n) (hg : g < B) :
    SOwn w n kid (.slice (some ⟨g, 0, none⟩) n cap) (g :: SS.flatten) ∧ (g :: SS.flatten).Nodup ∧ ∀ x ∈ g :: SS.flatten, g ≤ x := by
  refine ⟨.inr ⟨g, cap, l, SS, rfl, own_baseD hown (fun _ _ => Nat.zero_le _), hl, by rw [h.len]; exact hl, h.ks, rfl, fun i hi => h.each i (by omega)⟩, List.nodup_cons.2 ⟨fun hx => by have := h.ge g hx; omega, h.nd⟩, fun x hx => ?_⟩
  rcases List.mem_cons.1 hx with rfl | hx
  · exact Nat.le_refl _
  · have := h.ge x hx; omega

end Go.Proofs.Ytaflnjhknnnaoaa
