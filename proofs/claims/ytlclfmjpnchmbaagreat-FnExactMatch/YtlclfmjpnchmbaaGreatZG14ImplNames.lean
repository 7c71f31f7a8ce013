/- The names of a pattern with how deep each stands, as plain lists; a list of parts that are left. No conditions. -/
import Derived.Test.YtlclfmjpnchmbaaGreatZG13ImplKids
import Derived.Test.YtlclfmjpnchmbaaGreatRows
import Derived.WalkKit
import Derived.ProofKit
import Derived.OwnWalk
import Derived.Laws.OwnMore
import Derived.Laws.ResultCell
import Derived.Sort.LoopGhostIn
namespace Go.Proofs.YtlclfmjpnchmbaaGreat
open Go.ChangeShapes Go.WideShapes Go.ChangeAt Go.RowKit

/-- Lists one behind the other. -/
def flatTo {α : Type} (f : Nat → List α) : Nat → List α
  | 0 => []
  | k + 1 => flatTo f k ++ f k
/-- The names in order, each as often as it stands there, with how deep. -/
def namesD : X → Int → List (ByteArray × Int)
  | .no, _ => []
  | .mk op _ _ s _ len kid, d => (if nameX op s = true then [(s, d)] else []) ++ flatTo (fun i => namesD (kid i) (kidDeep len kid d i)) len
theorem namesD_eq (t : X) (d : Int) : namesD t d = (if nameX t.op t.s = true then [(t.s, d)] else []) ++ flatTo (fun i => namesD (t.kid i) (kidDeep t.len t.kid d i)) t.len := by
  cases t <;> rfl
/-- Those of parts that are left, the last part first. -/
def listD (L : List DR) : List (ByteArray × Int) := L.reverse.flatMap (fun q => namesD q.t q.d)
theorem listD_append (L M : List DR) : listD (L ++ M) = listD M ++ listD L := by simp [listD]
theorem listD_one (q : DR) : listD [q] = namesD q.t q.d := by simp [listD]
theorem listD_kids_to (len : Nat) (kid : Nat → X) (U V : Nat → Value) (d : Int) (k : Nat) (hk : k ≤ len) : flatTo (fun i => namesD (kid i) (kidDeep len kid d i)) (len - k) ++ listD (kidRows len kid U V d k) = flatTo (fun i => namesD (kid i) (kidDeep len kid d i)) len := by
  induction k with
  | zero => simp [kidRows, listD]
  | succ k ih =>
    have h1 := ih (by omega)
    obtain ⟨j, hj⟩ : ∃ j, len - k = j + 1 := ⟨len - k - 1, by omega⟩
    have e1 : len - (k + 1) = j := by omega
    have e2 : len - 1 - k = j := by omega
    rw [hj] at h1
    rw [e1, kidRows, listD_append, listD_one, e2, ← List.append_assoc]
    exact h1
theorem listD_kids (len : Nat) (kid : Nat → X) (U V : Nat → Value) (d : Int) : listD (kidRows len kid U V d len) = flatTo (fun i => namesD (kid i) (kidDeep len kid d i)) len := by
  have := listD_kids_to len kid U V d len (Nat.le_refl _)
  rw [Nat.sub_self] at this
  simpa [flatTo] using this
/-- What is told when a part is taken and its kids are put. -/
theorem listD_turn (L : List DR) (q : DR) (U V : Nat → Value) : listD (L ++ [q]) = (if nameX q.t.op q.t.s = true then [(q.t.s, q.d)] else []) ++ listD (L ++ kidRows q.t.len q.t.kid U V q.d q.t.len) := by
  rw [listD_append, listD_append, listD_one, namesD_eq, listD_kids, List.append_assoc]
theorem X.count_pos (t : X) : 1 ≤ t.count := by cases t <;> simp [X.count]
/-- How much is left. -/
def totalD (L : List DR) : Nat := (L.map fun q => q.t.count).sum
theorem totalD_append (L M : List DR) : totalD (L ++ M) = totalD L + totalD M := by simp [totalD]
theorem totalD_one (q : DR) : totalD [q] = q.t.count := by simp [totalD]
theorem totalD_len (L : List DR) : L.length ≤ totalD L := by
  induction L with
  | nil => simp [totalD]
  | cons q L ih =>
    have h : totalD (q :: L) = q.t.count + totalD L := by simp [totalD]
    rw [h, List.length_cons]
    have := q.t.count_pos
    omega
theorem totalD_kids_to (len : Nat) (kid : Nat → X) (U V : Nat → Value) (d : Int) (k : Nat) (hk : k ≤ len) : sumX (fun i => (kid i).count) (len - k) + totalD (kidRows len kid U V d k) = sumX (fun i => (kid i).count) len := by
  induction k with
  | zero => simp [kidRows, totalD]
  | succ k ih =>
    have h1 := ih (by omega)
    obtain ⟨j, hj⟩ : ∃ j, len - k = j + 1 := ⟨len - k - 1, by omega⟩
    have e1 : len - (k + 1) = j := by omega
    have e2 : len - 1 - k = j := by omega
    rw [hj] at h1
    simp only [sumX] at h1
    rw [e1, kidRows, totalD_append, totalD_one, e2]
    simp only
    omega
theorem totalD_kids (len : Nat) (kid : Nat → X) (U V : Nat → Value) (d : Int) : totalD (kidRows len kid U V d len) = sumX (fun i => (kid i).count) len := by
  have := totalD_kids_to len kid U V d len (Nat.le_refl _)
  rw [Nat.sub_self] at this
  simpa [sumX] using this
theorem totalD_turn (L : List DR) (q : DR) (U V : Nat → Value) : totalD (L ++ [q]) = totalD (L ++ kidRows q.t.len q.t.kid U V q.d q.t.len) + 1 := by
  rw [totalD_append, totalD_append, totalD_one, totalD_kids, X.count_eq]
  omega
theorem kidRows_mem (len : Nat) (kid : Nat → X) (U V : Nat → Value) (d : Int) (k : Nat) (hk : k ≤ len) : ∀ q ∈ kidRows len kid U V d k, ∃ i, i < len ∧ q = ⟨kid i, U i, V i, kidDeep len kid d i⟩ := by
  induction k with
  | zero => intro q hq; simp [kidRows] at hq
  | succ k ih =>
    intro q hq
    rw [kidRows] at hq
    rcases List.mem_append.1 hq with h | h
    · exact ih (by omega) q h
    · simp only [List.mem_singleton] at h
      exact ⟨len - 1 - k, by omega, h⟩
/-- What is left lies in memory, no deeper than it may. -/
def GoodD (w : World) (C : Int) (L : List DR) : Prop := ∀ q ∈ L, q.t.At 0 w q.su q.u ∧ 0 ≤ q.d ∧ q.d + q.t.count ≤ C
theorem GoodD.turn {w : World} {C : Int} {L : List DR} {q : DR} {U V : Nat → Value} (h : GoodD w C (L ++ [q])) (hk : ∀ i, i < q.t.len → (q.t.kid i).At 0 w (U i) (V i)) : GoodD w C (L ++ kidRows q.t.len q.t.kid U V q.d q.t.len) := by
  intro x hx
  rcases List.mem_append.1 hx with hx | hx
  · exact h x (List.mem_append_left _ hx)
  · obtain ⟨i, hi, rfl⟩ := kidRows_mem _ _ _ _ _ _ (Nat.le_refl _) x hx
    obtain ⟨-, h1, h2⟩ := h q (by simp)
    have h3 := sumX_at (fun i => (q.t.kid i).count) i q.t.len hi
    have h4 := q.t.count_eq
    simp only at h3 ⊢
    refine ⟨hk i hi, ?_, ?_⟩
    · unfold kidDeep; split <;> omega
    · unfold kidDeep; split <;> omega
end Go.Proofs.YtlclfmjpnchmbaaGreat

/- Rows that are owned: the last elements left off; their room; a row that is new. No conditions. -/
namespace Go.Proofs.YtlclfmjpnchmbaaGreat
open Go.ChangeShapes Go.WideShapes Go.ChangeAt Go.RowKit

/-- A row of which the last elements are left off. -/
theorem own_cut {w : World} {base e size g n m cap : Nat} {xs ys : List Value} (h : w.ownsRow base e size (.slice (some ⟨g, 0, none⟩) m cap) m (xs ++ ys)) (hx : xs.length = n * size) (hm : n ≤ m) :
    w.ownsRow base e size (.slice (some ⟨g, 0, none⟩) n cap) n xs := by
  refine ⟨hx, ?_⟩
  rcases h.2 with ⟨h0, _⟩ | ⟨g', cap', cur, he, hbg, hgg, hc, hmx, hs, ht⟩
  · cases h0
  · injection he with h1 h2 h3
    injection h1 with h1
    injection h1 with h1
    subst h1 h3
    refine .inr ⟨_, _, cur, rfl, hbg, hgg, by omega, hmx, hs, ?_⟩
    have h9 := congrArg (List.take (n * size)) ht
    rw [List.take_take, Nat.min_eq_left (Nat.mul_le_mul_right _ hm), List.take_append_of_le_length (by omega)] at h9
    rw [h9, List.take_of_length_le (by omega)]

theorem own_room {w : World} {base e size g n cap : Nat} {xs : List Value} (h : w.ownsRow base e size (.slice (some ⟨g, 0, none⟩) n cap) n xs) : n ≤ cap ∧ cap ≤ maxLen ∧ base ≤ g ∧ g < w.heap.size := by
  rcases h.2 with ⟨h0, _⟩ | ⟨g', cap', cur, he, hbg, hgg, hc, hmx, hs, ht⟩
  · cases h0
  · injection he with h1 h2 h3
    injection h1 with h1
    injection h1 with h1
    subst h1 h3
    exact ⟨hc, hmx, hbg, (Array.getElem?_eq_some_iff.1 hgg).1⟩

/-- A row that is one block. -/
theorem own_new {w : World} {base e size cap g n : Nat} {cs : Array Value} {xs : List Value} (hcs : cs.toList = xs) (hg : w.heap.size = g) (hb : base ≤ g) (hl : xs.length = n * size) (hc : n = cap) (hm : cap ≤ maxLen) :
    (w.alloc (.cells cs e)).ownsRow base e size (.slice (some ⟨g, 0, none⟩) n cap) n xs := by
  subst hc hg hcs
  exact ⟨hl, .inr ⟨w.heap.size, n, cs, rfl, hb, heap_alloc_new w _, Nat.le_refl _, hm, by simpa using hl, by rw [← hl]; exact List.take_length⟩⟩
end Go.Proofs.YtlclfmjpnchmbaaGreat

/- impl.namesIn: the names of a pattern, one by one, to whatever loop body that leaves its blocks alone. Condition: at most 2^21 parts. -/
namespace Go.Proofs.YtlclfmjpnchmbaaGreat
open Go.ChangeShapes Go.WideShapes Go.ChangeAt Go.RowKit Go.Shelf
attribute [local go_sem] Oper.semAt_some

set_option maxRecDepth 100000 in
set_option maxHeartbeats 1000000 in
theorem names_seq (t : X) (p1 p2 : Option Addr) (n1 n2 c1 c2 : Nat) (w : World) : Calls Tryz.prog 53 #[.agg #[.int .i64 t.op, .int .i64 t.at_, .int .i64 t.n, .string t.s, .slice p1 n1 c1, .slice p2 n2 c2]] w fun e w' => e = .returned (.func (.func 67) #[] #[.pointer (some ⟨w.heap.size, 0, none⟩)]) ∧ w' = w.alloc (.cells #[.int .i64 t.op, .int .i64 t.at_, .int .i64 t.n, .string t.s, .slice p1 n1 c1, .slice p2 n2 c2] 32) := by
  go_enter Tryz.func53, Tryz.ntmps53
  go_wp2_with fail
  go_ret
  exact ⟨rfl, rfl⟩

/-- The blocks of which X is told lie as they lay. -/
def Keeps (X : Nat → Prop) (W W' : World) : Prop := W.heap.size ≤ W'.heap.size ∧ ∀ k, X k → k < W.heap.size → W'.heap[k]? = W.heap[k]?

/-- What holds between two rounds, when these names have come, the iterator's own blocks being those of X. -/
abbrev Inv (α : Type) : Type := List α → World → (Nat → Prop) → Prop
/-- It does not mind what the iterator does. -/
def Inv.Stable {α : Type} (J : Inv α) : Prop := ∀ pre A B X X', J pre A X → But X A B → (∀ k, X' k → X k ∨ (A.heap.size ≤ k ∧ k < B.heap.size)) → J pre B X'

set_option maxRecDepth 100000 in
set_option maxHeartbeats 4000000 in
theorem names_iter (l Bp : Nat) (t : X) (su u : Value) (w0 : World) (hin : t.At 0 w0 su u) (hc : t.count ≤ 2097152) (J : Inv (ByteArray × Int)) (Jx : List (ByteArray × Int) → World → Prop)
    (hJs : J.Stable) (hJb : ∀ pre A X, J pre A X → Below w0.heap.size w0 A)
    (hY : ∀ pre x W X, J pre W X → x.1.size ≤ maxLen → (pre ++ [x]) <+: namesD t 0 → YieldAt Fence.wide 0 Tryz.prog l #[.string x.1, .int .i64 x.2] W fun e W' => (e = .returned (.bool true) ∧ J (pre ++ [x]) W' X ∧ Keeps X W W') ∨ (e = .returned (.bool false) ∧ Jx (pre ++ [x]) W'))
    (W : World) (hBp : Six W Bp t.op t.at_ t.n t.s su u 32) (h0 : J [] W (fun _ => False)) :
    Calls Tryz.prog 67 #[.func (.yield l) #[] #[], .pointer (some ⟨Bp, 0, none⟩)] W fun e W' => (∃ v, e = .returned v) ∧ ((∃ X, J (namesD t 0) W' X) ∨ (∃ pre, pre <+: namesD t 0 ∧ Jx pre W')) := by
  have HJS : Hid J.Stable := hJs
  have HJB : Hid (∀ pre A X, J pre A X → Below w0.heap.size w0 A) := hJb
  have HY : Hid (∀ pre x W X, J pre W X → x.1.size ≤ maxLen → (pre ++ [x]) <+: namesD t 0 → YieldAt Fence.wide 0 Tryz.prog l #[.string x.1, .int .i64 x.2] W fun e W' => (e = .returned (.bool true) ∧ J (pre ++ [x]) W' X ∧ Keeps X W W') ∨ (e = .returned (.bool false) ∧ Jx (pre ++ [x]) W')) := hY
  have HH0 : Hid (J [] W (fun _ => False)) := h0
  have HIN : Hid (t.At 0 w0 su u) := hin
  obtain ⟨p2, c2, e2⟩ := hin.xs.shape
  obtain ⟨p1, c1, e1⟩ := hin.sets.shape
  clear hJs hJb hY h0 hin
  subst e1 e2
  obtain ⟨b0, b1, b2, b3, b4, b5⟩ := hBp.cells
  have HC : Hid (t.count ≤ 2097152) := hc
  obtain ⟨n0, hn0⟩ : ∃ n0, n0 = t.count := ⟨_, rfl⟩
  have HN0 : Hid (n0 = t.count) := hn0
  clear hn0 hc hBp
  refine callsIn_wide (n := 0).1 ?_
  refine callsIn_of_wp Tryz.func67 rfl trivial ?_ rfl
  simp only [Tryz.ntmps67, List.size_toArray, List.length_cons, List.length_nil, Nat.reduceAdd, Nat.reduceSub, Array.replicate_succ, Array.replicate_zero, List.push_toArray, List.append_toArray, List.nil_append, List.cons_append]
  gi_wp2
  clear b0 b1 b2 b3 b4 b5
  gi_loopg [3] n0 (fun k lv wr => ∃ (pre : List (ByteArray × Int)) (L : List DR) (pv : Option Addr) (cap : Nat) (X : Nat → Prop), totalD L = k ∧ k ≤ 2097152 ∧ lv = .slice pv L.length cap ∧ OwnD wr w0.heap.size (.slice pv L.length cap) L ∧ GoodD w0 2097152 L ∧ J pre wr X ∧ (∀ g, (Value.slice pv L.length cap).ownBlock = some g → X g) ∧ pre ++ listD L = namesD t 0)
  case atStart =>
    have hsz := (HJB.out _ _ _ HH0.out).size
    refine ⟨[], [⟨t, .slice p1 t.set.length c1, .slice p2 t.len c2, 0⟩], some ⟨W.heap.size, 0, none⟩, 1, fun k => k = W.heap.size, ?_, ?_, rfl, ?_, ?_, ?_, fun g hg => (by simpa [Value.ownBlock] using hg.symm), ?_⟩
    · rw [totalD_one, HN0.out]
    · rw [HN0.out]; exact HC.out
    · exact own_new rfl rfl hsz rfl rfl (by unfold maxLen; omega)
    · intro q hq
      simp only [List.mem_singleton] at hq
      subst hq
      have := HC.out
      exact ⟨HIN.out, Int.le_refl _, by simp only; omega⟩
    · refine HJS.out _ _ _ _ _ HH0.out ((But.refl _ W).alloc _) (fun k hk => .inr (by rw [hk]; exact ⟨Nat.le_refl _, by simp⟩))
    · rw [listD_one]; rfl
  case round =>
    obtain ⟨pre, L, pv, cap, X, hk, hkb, rfl, hown, hgood, hj, hXg, hpre⟩ := hrel
    have HK : Hid (totalD L = gk) := hk
    have HO : Hid (OwnD wr w0.heap.size (.slice pv L.length cap) L) := hown
    have HG : Hid (GoodD w0 2097152 L) := hgood
    have HJ : Hid (J pre wr X ∧ (∀ g, (Value.slice pv L.length cap).ownBlock = some g → X g)) := ⟨hj, hXg⟩
    have HP : Hid (pre ++ listD L = namesD t 0) := hpre
    clear hk hown hgood hj hXg hpre HH0 HN0 HIN HC
    rcases List.eq_nil_or_concat L with hnil | ⟨L', q, hL⟩
    · subst hnil
      gi_wp2
      go_end0
      refine ⟨⟨_, rfl⟩, .inl ⟨X, ?_⟩⟩
      have h1 := HP.out
      rw [show listD ([] : List DR) = [] from rfl, List.append_nil] at h1
      rw [← h1]
      exact HJ.out.1
    · rw [List.concat_eq_append] at hL
      subst hL
      obtain ⟨g, hgv⟩ : ∃ g, pv = some ⟨g, 0, none⟩ := by
        rcases HO.out.2 with ⟨-, hn⟩ | ⟨g, c, cur, hv, -⟩
        · simp at hn
        · injection hv with hv
          exact ⟨g, hv⟩
      subst hgv
      have HXG : Hid (X g) := HJ.out.2 g rfl
      obtain ⟨a, sa, ua, d⟩ := q
      obtain ⟨hq1, hq2, hq3⟩ := HG.out ⟨a, sa, ua, d⟩ (by simp)
      simp only at hq1 hq2 hq3
      obtain ⟨pu, cu, eu⟩ := hq1.xs.shape
      obtain ⟨ps, cs, es⟩ := hq1.sets.shape
      have HQ : Hid (a.At 0 w0 sa ua ∧ 0 ≤ d ∧ d ≤ 2097152) := ⟨hq1, hq2, by omega⟩
      have HQS : Hid (a.s.size ≤ maxLen) := hq1.size
      clear hq1 hq2 hq3
      subst eu es
      have hcell : ∀ j, j < 7 → wr.cell? ⟨g, L'.length * 7 + j, none⟩ = (qcells ⟨a, .slice ps a.set.length cs, .slice pu a.len cu, d⟩)[j]? := by
        intro j hj
        have h1 := HO.out.cellAt (L'.length * 7 + j) (by simp; omega)
        rw [h1, qrows_append, List.getElem?_append_right (by rw [qrows_length]; omega), qrows_length]
        simp [qrows]
      have l0 := hcell 0 (by omega); have l1 := hcell 1 (by omega); have l2 := hcell 2 (by omega); have l3 := hcell 3 (by omega); have l4 := hcell 4 (by omega)
      have l5 := hcell 5 (by omega); have l6 := hcell 6 (by omega)
      simp only [qcells, Nat.add_zero, List.getElem?_cons_zero, List.getElem?_cons_succ] at l0 l1 l2 l3 l4 l5 l6
      clear hcell
      obtain ⟨hr1, hr2, hr3, hr4⟩ := own_room HO.out
      have hlen : (L' ++ [(⟨a, .slice ps a.set.length cs, .slice pu a.len cu, d⟩ : DR)]).length = L'.length + 1 := by simp
      have hrl : L'.length < 2097152 := by have := totalD_len (L' ++ [(⟨a, .slice ps a.set.length cs, .slice pu a.len cu, d⟩ : DR)]); rw [HK.out] at this; omega
      rw [hlen] at hr1 ⊢
      unfold maxLen at hr2
      have hO1 := own_cut (n := L'.length) (xs := qrows L') (ys := qrows [⟨a, .slice ps a.set.length cs, .slice pu a.len cu, d⟩]) (by rw [← qrows_append]; exact HO.out) (by rw [qrows_length]) (by simp)
      have HO1 : Hid (OwnD wr w0.heap.size (.slice (some ⟨g, 0, none⟩) L'.length cap) L') := hO1
      have HR4 : Hid (w0.heap.size ≤ g ∧ g < wr.heap.size) := ⟨hr3, hr4⟩
      clear hlen hO1 HO hr3 hr4
      gi_wp2
      refine ⟨trivial, rfl, (callsIn_wide.2 (gets_one a _ _ _)).mono ?_⟩
      rintro e w1 ⟨rfl, hb1⟩
      clear l0 l1 l2 l3 l4 l5 l6
      obtain ⟨PB, hPB⟩ : ∃ x, x = wr.heap.size := ⟨_, rfl⟩
      have hnb := newx wr (.cells #[.int .i64 a.op, .int .i64 a.at_, .int .i64 a.n, .string a.s, .slice ps a.set.length cs, .slice pu a.len cu, .int .i64 d] 97)
      have hb2 : Below wr.heap.size wr w1 := hnb.trans (hb1.mono hnb.size)
      have S1 : Hid (J pre w1 (fun k => X k ∨ k = PB) ∧ X g ∧ g < PB ∧ PB < w1.heap.size ∧ OwnD w1 w0.heap.size (.slice (some ⟨g, 0, none⟩) L'.length cap) L' ∧ Seven w1 PB ⟨a, .slice ps a.set.length cs, .slice pu a.len cu, d⟩ 97) := by
        have h7 : Seven w1 PB ⟨a, .slice ps a.set.length cs, .slice pu a.len cu, d⟩ 97 := by
          rw [hPB]
          exact (hb1.block _ (by simp)).trans (heap_alloc_new wr _)
        refine ⟨HJS.out _ _ _ _ _ HJ.out.1 (But.of_all hb2) (fun k hk => ?_), HXG.out, by rw [hPB]; exact HR4.out.2, h7.lt, HO1.out.below hb2, h7⟩
        rcases hk with h | h
        · exact .inl h
        · exact .inr (by rw [h]; exact ⟨by rw [hPB]; exact Nat.le_refl _, h7.lt⟩)
      have HT : Hid (∀ U V, listD (L' ++ [⟨a, .slice ps a.set.length cs, .slice pu a.len cu, d⟩]) = (if nameX a.op a.s = true then [(a.s, d)] else []) ++ listD (L' ++ kidRows a.len a.kid U V d a.len)) := fun U V => listD_turn L' ⟨a, .slice ps a.set.length cs, .slice pu a.len cu, d⟩ U V
      rw [← hPB]
      have HSZ : Hid (w0.heap.size ≤ PB) := by show _ ≤ _; have := HR4.out; omega
      clear hb1 hb2 hnb HJ HO1 HR4 hPB
      obtain ⟨x0, x1, x2, x3, x4, x5, x6⟩ := S1.out.2.2.2.2.2.cells
      simp only at x0 x1 x2 x3 x4 x5 x6
      cases hnm : nameX a.op a.s
      case' false =>
        obtain ⟨pre2, hpre2⟩ : ∃ x, x = pre := ⟨_, rfl⟩
        obtain ⟨w2, hw2⟩ : ∃ x, x = w1 := ⟨_, rfl⟩
        have S2 : Hid (J pre2 w2 (fun k => X k ∨ k = PB) ∧ X g ∧ g < PB ∧ PB < w2.heap.size ∧ OwnD w2 w0.heap.size (.slice (some ⟨g, 0, none⟩) L'.length cap) L' ∧ Seven w2 PB ⟨a, .slice ps a.set.length cs, .slice pu a.len cu, d⟩ 97) := by
          rw [hpre2, hw2]; exact S1.out
        have HP2 : Hid (∀ U V, pre2 ++ listD (L' ++ kidRows a.len a.kid U V d a.len) = namesD t 0) := fun U V => by
          have h1 := HP.out
          rw [HT.out U V, hnm] at h1
          rw [hpre2]
          simpa using h1
        rw [← hw2]
        clear hpre2 hw2 S1 HT HP hnm x0 x1 x2 x3 x4 x5 x6
        gi_wp2
        refine ⟨fun _ h => (by cases h), ?_⟩
        obtain ⟨x0, x1, x2, x3, x4, x5, x6⟩ := S2.out.2.2.2.2.2.cells
        simp only at x0 x1 x2 x3 x4 x5 x6
        gi_wp2
      case' true =>
        have HPX : Hid ((pre ++ [(a.s, d)]) <+: namesD t 0) := by
          have h1 := HP.out
          rw [HT.out (fun _ => .bool false) (fun _ => .bool false), hnm, if_pos rfl, ← List.append_assoc] at h1
          exact ⟨_, h1⟩
        obtain ⟨fn, tmps, assign, body, hy, hR⟩ := HY.out pre (a.s, d) w1 _ S1.out.1 HQS.out HPX.out
        simp only at hy
        gi_wp2
        refine ⟨rfl, hR.mono ?_⟩
        clear hR hy
        rintro e w2 (⟨rfl, hj2, hk2⟩ | ⟨rfl, hx2⟩)
        case' inr =>
          gi_wp2
          refine bodyPost_ret (results_none rfl _ _ _) rfl ?_
          exact ⟨⟨_, rfl⟩, .inr ⟨pre ++ [(a.s, d)], HPX.out, hx2⟩⟩
        case' inl =>
          obtain ⟨pre2, hpre2⟩ : ∃ x, x = pre ++ [(a.s, d)] := ⟨_, rfl⟩
          have S2 : Hid (J pre2 w2 (fun k => X k ∨ k = PB) ∧ X g ∧ g < PB ∧ PB < w2.heap.size ∧ OwnD w2 w0.heap.size (.slice (some ⟨g, 0, none⟩) L'.length cap) L' ∧ Seven w2 PB ⟨a, .slice ps a.set.length cs, .slice pu a.len cu, d⟩ 97) := by
            obtain ⟨s1, s2, s3, s4, s5, s6⟩ := S1.out
            refine ⟨by rw [hpre2]; exact hj2, s2, s3, Nat.lt_of_lt_of_le s4 hk2.1, ?_, (hk2.2 PB (.inr rfl) s4).trans s6⟩
            refine ⟨s5.1, ?_⟩
            rcases s5.2 with hn | ⟨g1, cap1, cur, hv, hbg, hgg, rest⟩
            · exact .inl hn
            · refine .inr ⟨g1, cap1, cur, hv, hbg, (hk2.2 g1 (.inl ?_) (Array.getElem?_eq_some_iff.1 hgg).1).trans hgg, rest⟩
              injection hv with hv
              injection hv with hv
              injection hv with hv
              rw [← hv]
              exact s2
          have HP2 : Hid (∀ U V, pre2 ++ listD (L' ++ kidRows a.len a.kid U V d a.len) = namesD t 0) := fun U V => by
            have h1 := HP.out
            rw [HT.out U V, hnm, if_pos rfl, ← List.append_assoc] at h1
            rw [hpre2]
            exact h1
          clear hpre2 S1 HT HP hnm x0 x1 x2 x3 x4 x5 x6 hj2 hk2
          obtain ⟨x0, x1, x2, x3, x4, x5, x6⟩ := S2.out.2.2.2.2.2.cells
          simp only at x0 x1 x2 x3 x4 x5 x6
          gi_wp2
      all_goals
        refine ⟨trivial, rfl, (callsIn_wide.2 (with_kids w0 w2 ⟨a, .slice ps a.set.length cs, .slice pu a.len cu, d⟩ _ L' HQ.out.1 (HJB.out _ _ _ S2.out.1) S2.out.2.2.2.2.1 ?_ ?_)).mono ?_⟩
        · have h1 := totalD_turn L' ⟨a, .slice ps a.set.length cs, .slice pu a.len cu, d⟩ (fun _ => .bool false) (fun _ => .bool false)
          have h2 := totalD_len (L' ++ kidRows a.len a.kid (fun _ => .bool false) (fun _ => .bool false) d a.len)
          rw [HK.out] at h1
          rw [List.length_append, kidRows_len] at h2
          simp only at h1 ⊢
          omega
        · have := HQ.out
          simp only
          omega
        rintro e w3 ⟨v', U, V, rfl, hbut, hown3, hwh, hat⟩
        simp only at hown3 hat
        obtain ⟨p', c', hv'⟩ := own_slice hown3
        subst hv'
        have HF : Hid (But (fun k => (Value.slice (some ⟨g, 0, none⟩) L'.length cap).ownBlock = some k) w2 w3 ∧ OwnD w3 w0.heap.size (.slice p' (L' ++ kidRows a.len a.kid U V d a.len).length c') (L' ++ kidRows a.len a.kid U V d a.len) ∧ ((Value.slice p' (L' ++ kidRows a.len a.kid U V d a.len).length c').ownBlock = (Value.slice (some ⟨g, 0, none⟩) L'.length cap).ownBlock ∨ ∀ g1, (Value.slice p' (L' ++ kidRows a.len a.kid U V d a.len).length c').ownBlock = some g1 → w2.heap.size ≤ g1) ∧ ∀ i, i < a.len → (a.kid i).At 0 w0 (U i) (V i)) := ⟨hbut, hown3, hwh, hat⟩
        obtain ⟨n1, hn1⟩ : ∃ n1, n1 = (L' ++ kidRows a.len a.kid U V d a.len).length := ⟨_, rfl⟩
        have HN1 : Hid (n1 = (L' ++ kidRows a.len a.kid U V d a.len).length) := hn1
        rw [← hn1] at HF ⊢
        clear hbut hown3 hwh hat hn1
        gi_wp2
        gi_roundg (totalD (L' ++ kidRows a.len a.kid U V d a.len))
        case rel =>
          obtain ⟨f1, f2, f3, f4⟩ := HF.out
          have h1 := totalD_turn L' ⟨a, .slice ps a.set.length cs, .slice pu a.len cu, d⟩ U V
          rw [HK.out] at h1
          simp only at h1
          refine ⟨pre2, _, p', c', fun k => (X k ∨ k = PB) ∨ (Value.slice p' n1 c').ownBlock = some k, rfl, by omega, by rw [← HN1.out], by rw [← HN1.out]; exact f2, GoodD.turn HG.out f4, ?_, fun g1 hg1 => .inr (by rw [HN1.out]; exact hg1), HP2.out U V⟩
          refine HJS.out _ _ _ _ _ S2.out.1 (f1.mono (fun k hk hx => .inl ?_)) (fun k hk => ?_)
          · have : g = k := by simpa [Value.ownBlock] using hx
            rw [← this]
            exact S2.out.2.1
          · rcases hk with h | h
            · exact .inl h
            · rcases f3 with f3 | f3
              · rw [f3] at h
                have : g = k := by simpa [Value.ownBlock] using h
                exact .inl (.inl (by rw [← this]; exact S2.out.2.1))
              · exact .inr ⟨f3 k h, (World.ownsRow.lt f2 k h).2⟩
        case measure =>
          have h1 := totalD_turn L' ⟨a, .slice ps a.set.length cs, .slice pu a.len cu, d⟩ U V
          rw [HK.out] at h1
          simp only at h1
          omega
end Go.Proofs.YtlclfmjpnchmbaaGreat
