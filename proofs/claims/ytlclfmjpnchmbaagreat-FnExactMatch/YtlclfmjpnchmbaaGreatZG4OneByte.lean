/- What is written, marked: plain facts, and one round of the marking. No conditions. -/
import Derived.Test.YtlclfmjpnchmbaaGreatZG2StxP
import Derived.Test.YtlclfmjpnchmbaaGreatZG3MarkB
import Derived.Test.YtlclfmjpnchmbaaGreatRows
import Derived.Lib.ItoaNum
import Derived.Lib.ItoaLen
import Derived.WalkKit
import Derived.ProofKit
import Derived.OwnWalk
import Derived.Below
import Derived.Laws.BytesArg
import Derived.Laws.IdiomStrings
namespace Go.Proofs.YtlclfmjpnchmbaaGreat
open Go.ChangeShapes Go.WideShapes Go.ChangeAt Go.RowKit

/-- How many marks it takes. -/
def X.marks : X → Nat | .no => 0 | .mk _ _ _ _ set len kid => 4 + (set.length + sumX (fun i => (kid i).marks) len)
theorem X.marks_eq {t : X} (h : t ≠ .no) : t.marks = 4 + (t.set.length + sumX (fun i => (t.kid i).marks) t.len) := by
  cases t with
  | no => exact absurd rfl h
  | mk op a n s set len kid => rfl
/-- A node marked from k on, its set and its kids behind it. -/
def markX : X → Nat → X
  | .no, _ => .no
  | .mk _ _ _ _ set len kid, k => .mk k ((k + 1 : Nat) : Int) ((k + 2 : Nat) : Int) (markB (k + 3)) (marksI (k + 4) set.length) len (fun i => markX (kid i) (k + 4 + set.length + sumX (fun j => (kid j).marks) i))
/-- Nodes marked one behind the other. -/
def markXK (kid : Nat → X) (k : Nat) : Nat → X := fun i => markX (kid i) (k + sumX (fun j => (kid j).marks) i)
theorem markX_kid {t : X} (h : t ≠ .no) (k : Nat) : (markX t k).kid = markXK t.kid (k + 4 + t.set.length) := by
  cases t with
  | no => exact absurd rfl h
  | mk op a n s set len kid => rfl
theorem markX_len (t : X) (k : Nat) : (markX t k).len = t.len := by cases t <;> rfl
theorem markX_set {t : X} (h : t ≠ .no) (k : Nat) : (markX t k).set = marksI (k + 4) t.set.length := by
  cases t with
  | no => exact absurd rfl h
  | mk op a n s set len kid => rfl
theorem markX_op (t : X) (c : Nat) (h : t ≠ .no) : (markX t c).op = c ∧ (markX t c).at_ = ((c + 1 : Nat) : Int) ∧ (markX t c).n = ((c + 2 : Nat) : Int) ∧ (markX t c).s = markB (c + 3) := by
  cases t with
  | no => exact absurd rfl h
  | mk op a n s set l kd => exact ⟨rfl, rfl, rfl, rfl⟩
theorem X.Small.parts {t : X} (h : t.Small) : t.set.length ≤ 4194304 ∧ ∀ i, i < t.len → (t.kid i).Small := by
  cases t with
  | no => exact ⟨Nat.zero_le _, fun i hi => absurd hi (Nat.not_lt_zero _)⟩
  | mk op a n s set len kid => exact h

/-- Marks are four a node and one a number. -/
theorem X.marks_le (t : X) : t.marks ≤ 4 * t.count + t.nums := by
  induction t with
  | no => simp [marks]
  | mk op a n s set len kid ih =>
    unfold marks count nums
    have h := sumX_le2 ih len
    rw [sumX_add, sumX_mul] at h
    omega

/-- What is kept: every block but those of S. -/
structure FrX (w w' : World) (S : List Nat) : Prop where
  os : w'.os = w.os
  tape : w'.tape = w.tape
  output : w'.output = w.output
  size : w.heap.size ≤ w'.heap.size
  block : ∀ g, g < w.heap.size → g ∉ S → w'.heap[g]? = w.heap[g]?
theorem FrX.refl (w : World) (S : List Nat) : FrX w w S := ⟨rfl, rfl, rfl, Nat.le_refl _, fun _ _ _ => rfl⟩
theorem FrX.trans {w w1 w2 : World} {S : List Nat} (h : FrX w w1 S) (h2 : FrX w1 w2 S) : FrX w w2 S :=
  ⟨h2.os.trans h.os, h2.tape.trans h.tape, h2.output.trans h.output, Nat.le_trans h.size h2.size, fun g a b => (h2.block g (Nat.lt_of_lt_of_le a h.size) b).trans (h.block g a b)⟩
theorem FrX.mono {w w' : World} {S S' : List Nat} (h : FrX w w' S) (hs : ∀ g ∈ S, g ∈ S') : FrX w w' S' := ⟨h.os, h.tape, h.output, h.size, fun g a b => h.block g a (fun c => b (hs g c))⟩
theorem FrX.grown {w w' : World} {r : Option Nat} {S : List Nat} (h : w.grownBy w' r) (hg : ∀ g ∈ r.toList, g ∈ S) : FrX w w' S := ⟨h.os, h.tape, h.output, h.size, fun k a b => h.block k a (fun e => b (hg k (by rw [← e]; simp)))⟩
theorem FrX.below {w w' : World} (h : Below w.heap.size w w') (S : List Nat) : FrX w w' S := ⟨h.os, h.tape, h.output, h.size, fun g a _ => h.block g a⟩

theorem markX_no {w : World} {len : Nat} {kid : Nat → X} {k : Nat} {v : Value} (hv : XsAt 0 w len (markXK kid k) v) : ∀ i, i < len → kid i ≠ .no := by
  obtain ⟨p, cap, rfl, hlen, hat⟩ := hv.at
  intro i hi e
  obtain ⟨b, o, su, u, _, _, hin⟩ := hat i hi
  have h : markXK kid k i = .no := by unfold markXK; rw [e]; rfl
  rw [h] at hin
  exact hin.elim

/-- The first i are marked. -/
def markXTo (kid : Nat → X) (k i : Nat) : Nat → X := fun j => if j < i then markXK kid k j else kid j
theorem markXTo_zero (kid : Nat → X) (k : Nat) : markXTo kid k 0 = kid := by funext j; simp [markXTo]
theorem markXTo_at (kid : Nat → X) (k i : Nat) : markXTo kid k i i = kid i := by simp [markXTo]

theorem flat_splitX {SS : List (List Nat)} : ∀ {i : Nat} {T : List Nat}, SS[i]? = some T → SS.flatten.Nodup → T.Nodup ∧ ∀ j U, j ≠ i → SS[j]? = some U → ∀ g ∈ U, g ∉ T := by
  induction SS with
  | nil => intro i T h; simp at h
  | cons A SS ih =>
    intro i T hT hn
    rw [List.flatten_cons, List.nodup_append] at hn
    obtain ⟨h1, h2, h3⟩ := hn
    cases i with
    | zero =>
      simp at hT
      subst hT
      refine ⟨h1, fun j U hj hU g hg hgA => ?_⟩
      cases j with
      | zero => exact hj rfl
      | succ j => simp at hU; exact h3 g hgA g (mem_flatX hU hg) rfl
    | succ i =>
      simp at hT
      obtain ⟨a, b⟩ := ih hT h2
      refine ⟨a, fun j U hj hU g hg hgT => ?_⟩
      cases j with
      | zero => simp at hU; subst hU; exact h3 g hg g (mem_flatX hT hgT) rfl
      | succ j => simp at hU; exact b j U (by omega) hU g hg hgT

/-- A row's cells at i set anew. -/
theorem xrows_set (l : List XR) (i : Nat) (d0 : X) (u : Value × Value) (h : l[i]? = some (d0, u)) (d : X) :
    ((((xrows l).set (i * 6) (.int .i64 d.op)).set (i * 6 + 1) (.int .i64 d.at_)).set (i * 6 + 2) (.int .i64 d.n)).set (i * 6 + 3) (.string d.s) = xrows (l.set i (d, u)) := by
  obtain ⟨hi, he⟩ := List.getElem?_eq_some_iff.1 h
  have e1 : l = l.take i ++ (d0, u) :: l.drop (i + 1) := by
    rw [← he, ← List.drop_eq_getElem_cons hi, List.take_append_drop]
  have e2 : l.set i (d, u) = l.take i ++ (d, u) :: l.drop (i + 1) := List.set_eq_take_append_cons_drop.trans (by rw [if_pos hi])
  have hl : (xrows (l.take i)).length = i * 6 := by rw [xrows_length, List.length_take]; congr 1; omega
  have a : ∀ q : XR, xrows (l.take i ++ q :: l.drop (i + 1)) = xrows (l.take i) ++ (xcells q ++ xrows (l.drop (i + 1))) := by
    intro q; rw [xrows_append]; rfl
  have s : ∀ (c : List Value) (j : Nat) (x : Value), (xrows (l.take i) ++ c).set (i * 6 + j) x = xrows (l.take i) ++ c.set j x := by
    intro c j x
    rw [List.set_append_right _ _ (by omega), hl]
    congr 2; omega
  rw [e2, a]
  conv => lhs; rw [e1, a]
  have s0 : (xrows (l.take i) ++ (xcells (d0, u) ++ xrows (l.drop (i + 1)))).set (i * 6) (.int .i64 d.op) = _ := s (xcells (d0, u) ++ xrows (l.drop (i + 1))) 0 (.int .i64 d.op)
  rw [s0, s, s, s]
  rfl

/-- One round: the row's cells are marked, then the kid's rows. -/
theorem mark_stepX {w w' : World} {len g cap k i : Nat} {kid : Nat → X} {l : List XR} {SS : List (List Nat)} {su u : Value} {T : List Nat}
    (hown : w.ownsRow 0 32 6 (.slice (some ⟨g, 0, none⟩) len cap) len (xrows (l.set i (markXK kid k i, su, u)))) (hl : l.length = len) (hS : SS.length = len) (hks : XKs (markXTo kid k i) l) (hn : (g :: SS.flatten).Nodup) (hi : i < len)
    (hrest : ∀ j, j < len → ∃ su u T, l[j]? = some (markXTo kid k i j, su, u) ∧ SS[j]? = some T ∧ (j ≠ i → XOwn w (markXTo kid k i j) su u T)) (hlu : l[i]? = some (markXTo kid k i i, su, u)) (hT : SS[i]? = some T)
    (hf : FrX w w' T) (hd : XOwn w' (markXK kid k i) su u T) (hlt : ∀ g ∈ SS.flatten, g < w.heap.size) : XsOwn w' len (markXTo kid k (i + 1)) (.slice (some ⟨g, 0, none⟩) len cap) (g :: SS.flatten) := by
  have hgn : g ∉ SS.flatten := (List.nodup_cons.1 hn).1
  obtain ⟨hTn, hdis⟩ := flat_splitX hT (List.nodup_cons.1 hn).2
  have hgT : g ∉ T := fun h => hgn (mem_flatX hT h)
  have hgl : g < w.heap.size := (hown.lt g rfl).2
  refine .inr ⟨g, cap, l.set i (markXK kid k i, su, u), SS, rfl, own_sameX hown (fun g' hg' => ?_), by simpa using hl, hS, ?_, rfl, fun j hj => ?_⟩
  · simp only [Value.ownBlock, Option.some.injEq] at hg'
    subst hg'
    exact hf.block g hgl hgT
  · intro j q hq
    rw [List.getElem?_set] at hq
    by_cases hji : i = j
    · subst hji
      rw [if_pos rfl, if_pos (by omega)] at hq
      injection hq with hq
      subst hq
      simp [markXTo]
    · rw [if_neg hji] at hq
      rw [hks j q hq]
      unfold markXTo
      by_cases h : j < i
      · rw [if_pos h, if_pos (by omega)]
      · rw [if_neg h, if_neg (by omega)]
  · by_cases hji : j = i
    · subst hji
      refine ⟨su, u, T, ?_, hT, ?_⟩
      · rw [List.getElem?_set, if_pos rfl, if_pos (by omega)]; simp [markXTo]
      · have : markXTo kid k (j + 1) j = markXK kid k j := by simp [markXTo]
        rw [this]; exact hd
    · obtain ⟨suj, uj, Tj, k1, k2, k3⟩ := hrest j hj
      have hm : markXTo kid k (i + 1) j = markXTo kid k i j := by
        unfold markXTo
        by_cases h : j < i
        · rw [if_pos h, if_pos (by omega)]
        · rw [if_neg h, if_neg (by omega)]
      refine ⟨suj, uj, Tj, ?_, k2, ?_⟩
      · rw [List.getElem?_set, if_neg (fun e => hji e.symm), hm]; exact k1
      · rw [hm]
        exact (k3 hji).same _ (fun g' hg' => hf.block g' (hlt g' (mem_flatX k2 hg')) (hdis j Tj hji k2 g' hg'))

theorem markX_own {w : World} {t : X} {c : Nat} {su u : Value} {T2 : List Nat} (h : t ≠ .no) (hc : c ≤ 99999999999990) (hl : t.set.length ≤ maxLen) (hset : Own w 0 su (marksI (c + 4) t.set.length)) (hs : XsOwn w t.len (markXK t.kid (c + 4 + t.set.length)) u T2) : XOwn w (markX t c) su u (su.ownBlock.toList ++ T2) := by
  cases t with
  | no => exact absurd rfl h
  | mk op a n s set l kd => exact XOwn.mk' ⟨markB_sizeX _ (by omega), by omega, by rw [marksI_len]; exact hl⟩ hset hs

/-- The set and the kids, one behind the other. -/
theorem mark_two {W w6 w7 : World} {t : X} {c : Nat} {su u : Value} {T T2 : List Nat} (hT : T = su.ownBlock.toList ++ T2) (hnd : T.Nodup) (h : t ≠ .no) (hc : c ≤ 99999999999990) (hl : t.set.length ≤ maxLen)
    (hset : Own w6 0 su (marksI (c + 4) t.set.length)) (hg : W.grownBy w6 su.ownBlock) (hs : XsOwn w7 t.len (markXK t.kid (c + 4 + t.set.length)) u T2) (hf : FrX w6 w7 T2) : XOwn w7 (markX t c) su u T ∧ FrX W w7 T := by
  subst hT
  obtain ⟨n1, n2, n3⟩ := List.nodup_append.1 hnd
  refine ⟨markX_own h hc hl (hset.sameX (fun g hg' => hf.block g (World.ownsRow.lt hset g hg').2 (fun hx => n3 g (mem_own hg') g hx rfl))) hs, (FrX.grown hg (fun g hx => List.mem_append_left _ hx)).trans (hf.mono (fun g hx => List.mem_append_right _ hx))⟩

end Go.Proofs.YtlclfmjpnchmbaaGreat

/- Plain facts on decimal digits: the digits of k are those of k / 10, then that of k % 10. No conditions. -/
namespace Go.Proofs.YtlclfmjpnchmbaaGreat

/-- The digits of k, none of 0. -/
def decD (k : Nat) : List UInt8 := if k = 0 then [] else Lib.decDigits k

theorem decD_zero : decD 0 = [] := by simp [decD]

theorem decD_pos (k : Nat) (h : 0 < k) : decD k = Lib.decDigits k := by
  unfold decD; rw [if_neg (by omega)]

theorem decD_step (k : Nat) (h : 0 < k) : decD k = decD (k / 10) ++ [UInt8.ofNat (48 + k % 10)] := by
  rw [decD_pos k h]
  by_cases hs : k < 10
  · rw [Lib.decDigits_one hs]
    have e : k / 10 = 0 := by omega
    have e2 : k % 10 = k := by omega
    rw [e, e2, decD_zero]; rfl
  · rw [Lib.decDigits, dif_neg hs, decD_pos (k / 10) (by omega)]

theorem acc_step (k n : Nat) (h : 0 < k) (l : List UInt8) (hl : decD k ++ l = Lib.decDigits n) :
    decD (k / 10) ++ ((48 + UInt8.ofNat (k % 10)) :: l) = Lib.decDigits n := by
  have e : UInt8.ofNat (48 + k % 10) = 48 + UInt8.ofNat (k % 10) := by rw [UInt8.ofNat_add]; rfl
  rw [← hl, decD_step k h, e]; simp

theorem acc_len (k n : Nat) (l : List UInt8) (hn : n < 18446744073709551616) (hl : decD k ++ l = Lib.decDigits n) : l.length ≤ 20 := by
  have h1 := congrArg List.length hl
  rw [List.length_append, Lib.decDigits_length] at h1
  have := Lib.nDigits_le20 n hn
  omega

theorem join_one (c : UInt8) (l : List UInt8) : ((⟨#[c]⟩ : ByteArray) ++ ⟨l.toArray⟩) = ⟨(c :: l).toArray⟩ := by
  apply ByteArray.ext
  simp [ByteArray.data_append]

end Go.Proofs.YtlclfmjpnchmbaaGreat

/- A text of one byte. No conditions. -/
namespace Go.Proofs.YtlclfmjpnchmbaaGreat
open Go.ChangeShapes Go.WideShapes Go.ChangeAt Go.RowKit

/-- A text of one byte, made of a slice that was just made. -/
theorem one_byte (W : World) (c : Int) (b : UInt8) (hb : (b.toNat : Int) = c) :
    Sem.run Tryz.prog (convert 71 9 (Value.slice (some ⟨W.heap.size, 0, none⟩) 1 1)) (W.alloc (.cells #[.int .u8 c] 5)) =
      .ok (.string ⟨#[b]⟩) (W.alloc (.cells #[.int .u8 c] 5)) := by
  have := run_convert_bytes_back (P := Tryz.prog) (W.alloc (.cells #[.int .u8 c] 5)) 71 9 5 ⟨W.heap.size, 0, none⟩ 1 [b] Tryz.underlying71 Tryz.underlying5 Tryz.underlying9 (fun j hj => by
    have hj0 : j = 0 := by simp at hj; omega
    subst hj0
    rw [show (⟨W.heap.size, 0, none⟩ : Addr).add 0 = ⟨W.heap.size, 0, none⟩ from rfl, World.cell?_alloc_mark]
    simp [hb])
  simpa using this

theorem digit_byte (k : Nat) : ((48 + UInt8.ofNat (k % 10)).toNat : Int) = 48 + (k : Int) % 10 := by
  have e : UInt8.ofNat (48 + k % 10) = 48 + UInt8.ofNat (k % 10) := by rw [UInt8.ofNat_add]; rfl
  rw [← e, UInt8.toNat_ofNat']; omega
end Go.Proofs.YtlclfmjpnchmbaaGreat
