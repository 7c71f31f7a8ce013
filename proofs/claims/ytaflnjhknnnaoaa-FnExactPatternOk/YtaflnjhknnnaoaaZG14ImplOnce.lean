/- impl.namesIn: the names of a pattern, one by one, to whatever loop body that leaves its blocks alone. Condition: at most 2^21 parts. -/
import Derived.Test.YtaflnjhknnnaoaaZG13OwnCut
import Derived.Sort.LoopGhostIn
import Derived.Maps.OwnIn
import Derived.StringKeys
namespace Go.Proofs.Ytaflnjhknnnaoaa
open Go.ChangeShapes Go.WideShapes Go.ChangeAt Go.RowKit Go.Shelf
attribute [local go_sem] Oper.semAt_some

set_option maxRecDepth 100000 in
set_option maxHeartbeats 1000000 in
theorem names_seq (t : X) (p1 p2 : Option Addr) (n1 n2 c1 c2 : Nat) (w : World) : Calls Try.prog 41 #[.agg #[.int .i64 t.op, .int .i64 t.at_, .int .i64 t.n, .string t.s, .slice p1 n1 c1, .slice p2 n2 c2]] w fun e w' => e = .returned (.func (.func 51) #[] #[.pointer (some ⟨w.heap.size, 0, none⟩)]) ∧ w' = w.alloc (.cells #[.int .i64 t.op, .int .i64 t.at_, .int .i64 t.n, .string t.s, .slice p1 n1 c1, .slice p2 n2 c2] 35) := by
  go_enter Try.func41, Try.ntmps41
  go_wp2_with fail
  go_ret
  exact ⟨rfl, rfl⟩

/-- The blocks of which X is told lie as they lay. -/
def Keeps (X : Nat → Prop) (W W' : World) : Prop := W.heap.size ≤ W'.heap.size ∧ ∀ k, X k → k < W.heap.size → W'.heap[k]? = W.heap[k]?

/-- What holds between two rounds, when these names have come, the iterator's own blocks being those of X. -/
abbrev Inv (α : Type) : Type := List α → World → (Nat → Prop) → Prop
/-- It does not mind what the iterator does. -/
def Inv.Stable {α : Type} (J : Inv α) : Prop := ∀ pre A B X X', J pre A X → But X A B → (∀ k, X' k → X k ∨ A.heap.size ≤ k) → J pre B X'

set_option maxRecDepth 100000 in
set_option maxHeartbeats 4000000 in
theorem names_iter (l Bp : Nat) (t : X) (su u : Value) (w0 : World) (hin : t.At 0 w0 su u) (hc : t.count ≤ 2097152) (J : Inv (ByteArray × Int)) (Jx : List (ByteArray × Int) → World → Prop)
    (hJs : J.Stable) (hJb : ∀ pre A X, J pre A X → Below w0.heap.size w0 A)
    (hY : ∀ pre x W X, J pre W X → x.1.size ≤ maxLen → (pre ++ [x]) <+: namesD t 0 → YieldAt Fence.wide 0 Try.prog l #[.string x.1, .int .i64 x.2] W fun e W' => (e = .returned (.bool true) ∧ J (pre ++ [x]) W' X ∧ Keeps X W W') ∨ (e = .returned (.bool false) ∧ Jx (pre ++ [x]) W'))
    (W : World) (hBp : Six W Bp t.op t.at_ t.n t.s su u 35) (h0 : J [] W (fun _ => False)) :
    Calls Try.prog 51 #[.func (.yield l) #[] #[], .pointer (some ⟨Bp, 0, none⟩)] W fun e W' => (∃ v, e = .returned v) ∧ ((∃ X, J (namesD t 0) W' X) ∨ (∃ pre, pre <+: namesD t 0 ∧ Jx pre W')) := by
  have HJS : Hid J.Stable := hJs
  have HJB : Hid (∀ pre A X, J pre A X → Below w0.heap.size w0 A) := hJb
  have HY : Hid (∀ pre x W X, J pre W X → x.1.size ≤ maxLen → (pre ++ [x]) <+: namesD t 0 → YieldAt Fence.wide 0 Try.prog l #[.string x.1, .int .i64 x.2] W fun e W' => (e = .returned (.bool true) ∧ J (pre ++ [x]) W' X ∧ Keeps X W W') ∨ (e = .returned (.bool false) ∧ Jx (pre ++ [x]) W')) := hY
  have HH0 : Hid (J [] W (fun _ => False)) := h0
  have HIN : Hid (t.At 0 w0 su u) := hin
  obtain ⟨p2, c2, e2⟩ := hin.xs.shape
  obtain ⟨p1, c1, e1⟩ := hin.sets.shape
  clear hJs hJb hY h0 hin
  subst e1 e2
  obtain ⟨b0, b1, b2, b3, b4, b5⟩ := hBp.cells
  have HC : Hid (t.count ≤ 2097152) := hc
  obtain ⟨n0, hn0⟩ : ∃ n0, n0 = t.count := ⟨_, rfl⟩
  have HN0 : Hid (n0 = t.count) := hn0
  clear hn0 hc hBp
  refine callsIn_wide (n := 0).1 ?_
  refine callsIn_of_wp Try.func51 rfl trivial ?_ rfl
  simp only [Try.ntmps51, List.size_toArray, List.length_cons, List.length_nil, Nat.reduceAdd, Nat.reduceSub, Array.replicate_succ, Array.replicate_zero, List.push_toArray, List.append_toArray, List.nil_append, List.cons_append]
  gi_wp2
  clear b0 b1 b2 b3 b4 b5
  gi_loopg [3] n0 (fun k lv wr => ∃ (pre : List (ByteArray × Int)) (L : List DR) (pv : Option Addr) (cap : Nat) (X : Nat → Prop), totalD L = k ∧ k ≤ 2097152 ∧ lv = .slice pv L.length cap ∧ OwnD wr w0.heap.size (.slice pv L.length cap) L ∧ GoodD w0 2097152 L ∧ J pre wr X ∧ (∀ g, (Value.slice pv L.length cap).ownBlock = some g → X g) ∧ pre ++ listD L = namesD t 0)
  case atStart =>
    have hsz := (HJB.out _ _ _ HH0.out).size
    refine ⟨[], [⟨t, .slice p1 t.set.length c1, .slice p2 t.len c2, 0⟩], some ⟨W.heap.size, 0, none⟩, 1, fun k => k = W.heap.size, ?_, ?_, rfl, ?_, ?_, ?_, fun g hg => (by simpa [Value.ownBlock] using hg.symm), ?_⟩
    · rw [totalD_one, HN0.out]
    · rw [HN0.out]; exact HC.out
    · exact own_new rfl rfl hsz rfl rfl (by unfold maxLen; omega)
    · intro q hq
      simp only [List.mem_singleton] at hq
      subst hq
      have := HC.out
      exact ⟨HIN.out, Int.le_refl _, by simp only; omega⟩
    · refine HJS.out _ _ _ _ _ HH0.out ((But.refl _ W).alloc _) (fun k hk => .inr (by rw [hk]; exact Nat.le_refl _))
    · rw [listD_one]; rfl
  case round =>
    obtain ⟨pre, L, pv, cap, X, hk, hkb, rfl, hown, hgood, hj, hXg, hpre⟩ := hrel
    have HK : Hid (totalD L = gk) := hk
    have HO : Hid (OwnD wr w0.heap.size (.slice pv L.length cap) L) := hown
    have HG : Hid (GoodD w0 2097152 L) := hgood
    have HJ : Hid (J pre wr X ∧ (∀ g, (Value.slice pv L.length cap).ownBlock = some g → X g)) := ⟨hj, hXg⟩
    have HP : Hid (pre ++ listD L = namesD t 0) := hpre
    clear hk hown hgood hj hXg hpre HH0 HN0 HIN HC
    rcases List.eq_nil_or_concat L with hnil | ⟨L', q, hL⟩
    · subst hnil
      gi_wp2
      go_end0
      refine ⟨⟨_, rfl⟩, .inl ⟨X, ?_⟩⟩
      have h1 := HP.out
      rw [show listD ([] : List DR) = [] from rfl, List.append_nil] at h1
      rw [← h1]
      exact HJ.out.1
    · rw [List.concat_eq_append] at hL
      subst hL
      obtain ⟨g, hgv⟩ : ∃ g, pv = some ⟨g, 0, none⟩ := by
        rcases HO.out.2 with ⟨-, hn⟩ | ⟨g, c, cur, hv, -⟩
        · simp at hn
        · injection hv with hv
          exact ⟨g, hv⟩
      subst hgv
      have HXG : Hid (X g) := HJ.out.2 g rfl
      obtain ⟨a, sa, ua, d⟩ := q
      obtain ⟨hq1, hq2, hq3⟩ := HG.out ⟨a, sa, ua, d⟩ (by simp)
      simp only at hq1 hq2 hq3
      obtain ⟨pu, cu, eu⟩ := hq1.xs.shape
      obtain ⟨ps, cs, es⟩ := hq1.sets.shape
      have HQ : Hid (a.At 0 w0 sa ua ∧ 0 ≤ d ∧ d ≤ 2097152) := ⟨hq1, hq2, by omega⟩
      have HQS : Hid (a.s.size ≤ maxLen) := hq1.size
      clear hq1 hq2 hq3
      subst eu es
      have hcell : ∀ j, j < 7 → wr.cell? ⟨g, L'.length * 7 + j, none⟩ = (qcells ⟨a, .slice ps a.set.length cs, .slice pu a.len cu, d⟩)[j]? := by
        intro j hj
        have h1 := HO.out.cellAt (L'.length * 7 + j) (by simp; omega)
        rw [h1, qrows_append, List.getElem?_append_right (by rw [qrows_length]; omega), qrows_length]
        simp [qrows]
      have l0 := hcell 0 (by omega); have l1 := hcell 1 (by omega); have l2 := hcell 2 (by omega); have l3 := hcell 3 (by omega); have l4 := hcell 4 (by omega)
      have l5 := hcell 5 (by omega); have l6 := hcell 6 (by omega)
      simp only [qcells, Nat.add_zero, List.getElem?_cons_zero, List.getElem?_cons_succ] at l0 l1 l2 l3 l4 l5 l6
      clear hcell
      obtain ⟨hr1, hr2, hr3, hr4⟩ := own_room HO.out
      have hlen : (L' ++ [(⟨a, .slice ps a.set.length cs, .slice pu a.len cu, d⟩ : DR)]).length = L'.length + 1 := by simp
      have hrl : L'.length < 2097152 := by have := totalD_len (L' ++ [(⟨a, .slice ps a.set.length cs, .slice pu a.len cu, d⟩ : DR)]); rw [HK.out] at this; omega
      rw [hlen] at hr1 ⊢
      unfold maxLen at hr2
      have hO1 := own_cut (n := L'.length) (xs := qrows L') (ys := qrows [⟨a, .slice ps a.set.length cs, .slice pu a.len cu, d⟩]) (by rw [← qrows_append]; exact HO.out) (by rw [qrows_length]) (by simp)
      have HO1 : Hid (OwnD wr w0.heap.size (.slice (some ⟨g, 0, none⟩) L'.length cap) L') := hO1
      have HR4 : Hid (w0.heap.size ≤ g ∧ g < wr.heap.size) := ⟨hr3, hr4⟩
      clear hlen hO1 HO hr3 hr4
      gi_wp2
      refine ⟨trivial, rfl, (callsIn_wide.2 (gets_one a _ _ _)).mono ?_⟩
      rintro e w1 ⟨rfl, hb1⟩
      clear l0 l1 l2 l3 l4 l5 l6
      obtain ⟨PB, hPB⟩ : ∃ x, x = wr.heap.size := ⟨_, rfl⟩
      have hnb := newx wr (.cells #[.int .i64 a.op, .int .i64 a.at_, .int .i64 a.n, .string a.s, .slice ps a.set.length cs, .slice pu a.len cu, .int .i64 d] 82)
      have hb2 : Below wr.heap.size wr w1 := hnb.trans (hb1.mono hnb.size)
      have S1 : Hid (J pre w1 (fun k => X k ∨ k = PB) ∧ X g ∧ g < PB ∧ PB < w1.heap.size ∧ OwnD w1 w0.heap.size (.slice (some ⟨g, 0, none⟩) L'.length cap) L' ∧ Seven w1 PB ⟨a, .slice ps a.set.length cs, .slice pu a.len cu, d⟩ 82) := by
        have h7 : Seven w1 PB ⟨a, .slice ps a.set.length cs, .slice pu a.len cu, d⟩ 82 := by
          rw [hPB]
          exact (hb1.block _ (by simp)).trans (heap_alloc_new wr _)
        refine ⟨HJS.out _ _ _ _ _ HJ.out.1 (But.of_all hb2) (fun k hk => ?_), HXG.out, by rw [hPB]; exact HR4.out.2, h7.lt, HO1.out.below hb2, h7⟩
        rcases hk with h | h
        · exact .inl h
        · exact .inr (by rw [h, hPB]; exact Nat.le_refl _)
      have HT : Hid (∀ U V, listD (L' ++ [⟨a, .slice ps a.set.length cs, .slice pu a.len cu, d⟩]) = (if nameX a.op a.s = true then [(a.s, d)] else []) ++ listD (L' ++ kidRows a.len a.kid U V d a.len)) := fun U V => listD_turn L' ⟨a, .slice ps a.set.length cs, .slice pu a.len cu, d⟩ U V
      rw [← hPB]
      have HSZ : Hid (w0.heap.size ≤ PB) := by show _ ≤ _; have := HR4.out; omega
      clear hb1 hb2 hnb HJ HO1 HR4 hPB
      obtain ⟨x0, x1, x2, x3, x4, x5, x6⟩ := S1.out.2.2.2.2.2.cells
      simp only at x0 x1 x2 x3 x4 x5 x6
      cases hnm : nameX a.op a.s
      case' false =>
        obtain ⟨pre2, hpre2⟩ : ∃ x, x = pre := ⟨_, rfl⟩
        obtain ⟨w2, hw2⟩ : ∃ x, x = w1 := ⟨_, rfl⟩
        have S2 : Hid (J pre2 w2 (fun k => X k ∨ k = PB) ∧ X g ∧ g < PB ∧ PB < w2.heap.size ∧ OwnD w2 w0.heap.size (.slice (some ⟨g, 0, none⟩) L'.length cap) L' ∧ Seven w2 PB ⟨a, .slice ps a.set.length cs, .slice pu a.len cu, d⟩ 82) := by
          rw [hpre2, hw2]; exact S1.out
        have HP2 : Hid (∀ U V, pre2 ++ listD (L' ++ kidRows a.len a.kid U V d a.len) = namesD t 0) := fun U V => by
          have h1 := HP.out
          rw [HT.out U V, hnm] at h1
          rw [hpre2]
          simpa using h1
        rw [← hw2]
        clear hpre2 hw2 S1 HT HP hnm x0 x1 x2 x3 x4 x5 x6
        gi_wp2
        refine ⟨fun _ h => (by cases h), ?_⟩
        obtain ⟨x0, x1, x2, x3, x4, x5, x6⟩ := S2.out.2.2.2.2.2.cells
        simp only at x0 x1 x2 x3 x4 x5 x6
        gi_wp2
      case' true =>
        have HPX : Hid ((pre ++ [(a.s, d)]) <+: namesD t 0) := by
          have h1 := HP.out
          rw [HT.out (fun _ => .bool false) (fun _ => .bool false), hnm, if_pos rfl, ← List.append_assoc] at h1
          exact ⟨_, h1⟩
        obtain ⟨fn, tmps, assign, body, hy, hR⟩ := HY.out pre (a.s, d) w1 _ S1.out.1 HQS.out HPX.out
        simp only at hy
        gi_wp2
        refine ⟨rfl, hR.mono ?_⟩
        clear hR hy
        rintro e w2 (⟨rfl, hj2, hk2⟩ | ⟨rfl, hx2⟩)
        case' inr =>
          gi_wp2
          refine bodyPost_ret (results_none rfl _ _ _) rfl ?_
          exact ⟨⟨_, rfl⟩, .inr ⟨pre ++ [(a.s, d)], HPX.out, hx2⟩⟩
        case' inl =>
          obtain ⟨pre2, hpre2⟩ : ∃ x, x = pre ++ [(a.s, d)] := ⟨_, rfl⟩
          have S2 : Hid (J pre2 w2 (fun k => X k ∨ k = PB) ∧ X g ∧ g < PB ∧ PB < w2.heap.size ∧ OwnD w2 w0.heap.size (.slice (some ⟨g, 0, none⟩) L'.length cap) L' ∧ Seven w2 PB ⟨a, .slice ps a.set.length cs, .slice pu a.len cu, d⟩ 82) := by
            obtain ⟨s1, s2, s3, s4, s5, s6⟩ := S1.out
            refine ⟨by rw [hpre2]; exact hj2, s2, s3, Nat.lt_of_lt_of_le s4 hk2.1, ?_, (hk2.2 PB (.inr rfl) s4).trans s6⟩
            refine ⟨s5.1, ?_⟩
            rcases s5.2 with hn | ⟨g1, cap1, cur, hv, hbg, hgg, rest⟩
            · exact .inl hn
            · refine .inr ⟨g1, cap1, cur, hv, hbg, (hk2.2 g1 (.inl ?_) (Array.getElem?_eq_some_iff.1 hgg).1).trans hgg, rest⟩
              injection hv with hv
              injection hv with hv
              injection hv with hv
              rw [← hv]
              exact s2
          have HP2 : Hid (∀ U V, pre2 ++ listD (L' ++ kidRows a.len a.kid U V d a.len) = namesD t 0) := fun U V => by
            have h1 := HP.out
            rw [HT.out U V, hnm, if_pos rfl, ← List.append_assoc] at h1
            rw [hpre2]
            exact h1
          clear hpre2 S1 HT HP hnm x0 x1 x2 x3 x4 x5 x6 hj2 hk2
          obtain ⟨x0, x1, x2, x3, x4, x5, x6⟩ := S2.out.2.2.2.2.2.cells
          simp only at x0 x1 x2 x3 x4 x5 x6
          gi_wp2
      all_goals
        refine ⟨trivial, rfl, (callsIn_wide.2 (with_kids w0 w2 ⟨a, .slice ps a.set.length cs, .slice pu a.len cu, d⟩ _ L' HQ.out.1 (HJB.out _ _ _ S2.out.1) S2.out.2.2.2.2.1 ?_ ?_)).mono ?_⟩
        · have h1 := totalD_turn L' ⟨a, .slice ps a.set.length cs, .slice pu a.len cu, d⟩ (fun _ => .bool false) (fun _ => .bool false)
          have h2 := totalD_len (L' ++ kidRows a.len a.kid (fun _ => .bool false) (fun _ => .bool false) d a.len)
          rw [HK.out] at h1
          rw [List.length_append, kidRows_len] at h2
          simp only at h1 ⊢
          omega
        · have := HQ.out
          simp only
          omega
        rintro e w3 ⟨v', U, V, rfl, hbut, hown3, hwh, hat⟩
        simp only at hown3 hat
        obtain ⟨p', c', hv'⟩ := own_slice hown3
        subst hv'
        have HF : Hid (But (fun k => (Value.slice (some ⟨g, 0, none⟩) L'.length cap).ownBlock = some k) w2 w3 ∧ OwnD w3 w0.heap.size (.slice p' (L' ++ kidRows a.len a.kid U V d a.len).length c') (L' ++ kidRows a.len a.kid U V d a.len) ∧ ((Value.slice p' (L' ++ kidRows a.len a.kid U V d a.len).length c').ownBlock = (Value.slice (some ⟨g, 0, none⟩) L'.length cap).ownBlock ∨ ∀ g1, (Value.slice p' (L' ++ kidRows a.len a.kid U V d a.len).length c').ownBlock = some g1 → w2.heap.size ≤ g1) ∧ ∀ i, i < a.len → (a.kid i).At 0 w0 (U i) (V i)) := ⟨hbut, hown3, hwh, hat⟩
        obtain ⟨n1, hn1⟩ : ∃ n1, n1 = (L' ++ kidRows a.len a.kid U V d a.len).length := ⟨_, rfl⟩
        have HN1 : Hid (n1 = (L' ++ kidRows a.len a.kid U V d a.len).length) := hn1
        rw [← hn1] at HF ⊢
        clear hbut hown3 hwh hat hn1
        gi_wp2
        gi_roundg (totalD (L' ++ kidRows a.len a.kid U V d a.len))
        case rel =>
          obtain ⟨f1, f2, f3, f4⟩ := HF.out
          have h1 := totalD_turn L' ⟨a, .slice ps a.set.length cs, .slice pu a.len cu, d⟩ U V
          rw [HK.out] at h1
          simp only at h1
          refine ⟨pre2, _, p', c', fun k => (X k ∨ k = PB) ∨ (Value.slice p' n1 c').ownBlock = some k, rfl, by omega, by rw [← HN1.out], by rw [← HN1.out]; exact f2, GoodD.turn HG.out f4, ?_, fun g1 hg1 => .inr (by rw [HN1.out]; exact hg1), HP2.out U V⟩
          refine HJS.out _ _ _ _ _ S2.out.1 (f1.mono (fun k hk hx => .inl ?_)) (fun k hk => ?_)
          · have : g = k := by simpa [Value.ownBlock] using hx
            rw [← this]
            exact S2.out.2.1
          · rcases hk with h | h
            · exact .inl h
            · rcases f3 with f3 | f3
              · rw [f3] at h
                have : g = k := by simpa [Value.ownBlock] using h
                exact .inl (.inl (by rw [← this]; exact S2.out.2.1))
              · exact .inr (f3 k h)
        case measure =>
          have h1 := totalD_turn L' ⟨a, .slice ps a.set.length cs, .slice pu a.len cu, d⟩ U V
          rw [HK.out] at h1
          simp only at h1
          omega
end Go.Proofs.Ytaflnjhknnnaoaa

/- impl.namesOnce: whether no name stands twice. Condition: at most 2^21 parts. -/
namespace Go.Proofs.Ytaflnjhknnnaoaa
open Go.ChangeShapes Go.WideShapes Go.ChangeAt Go.RowKit Go.Shelf
attribute [local go_sem] Oper.semAt_some

/-- The bytes of the names. -/
def keysD (l : List (ByteArray × Int)) : List (List UInt8) := l.map fun x => x.1.data.toList
theorem keysD_snoc (l : List (ByteArray × Int)) (x : ByteArray × Int) : keysD (l ++ [x]) = keysD l ++ [x.1.data.toList] := by simp [keysD]
/-- The map tells which names have come. -/
def SeenD (D : DataW Unit) (l : List (ByteArray × Int)) : Prop := Maps.IsMap D ∧ ∀ s : List UInt8, D.atKey (.string s) (.lit (.int .i64 0)) = .lit (.int .i64 (if s ∈ keysD l then 1 else 0))
theorem SeenD.nil : SeenD (.map []) [] := ⟨⟨[], rfl⟩, fun _ => rfl⟩
theorem SeenD.put {D : DataW Unit} {l : List (ByteArray × Int)} (h : SeenD D l) (x : ByteArray × Int) : SeenD (D.put (.string x.1.data.toList) (.lit (.int .i64 1))) (l ++ [x]) := by
  obtain ⟨⟨es, rfl⟩, h2⟩ := h
  refine ⟨⟨_, rfl⟩, fun s => ?_⟩
  rw [keysD_snoc]
  by_cases e : s = x.1.data.toList
  · subst e
    rw [Maps.atKey_put_same ⟨es, rfl⟩ (by unfold WideAt.IsKeyLit; trivial)]
    simp
  · rw [Maps.atKey_put_other (by intro h; injection h with h; exact e h), h2]
    simp [e]

/-- Five new blocks. -/
theorem five_new (w : World) (o1 o2 o3 o4 o5 : Obj) : ∃ W, ((((w.alloc o1).alloc o2).alloc o3).alloc o4).alloc o5 = W ∧ W.heap[w.heap.size]? = some o1 ∧ W.heap[w.heap.size + 1]? = some o2 ∧ W.heap[w.heap.size + 1 + 1]? = some o3 ∧ W.heap[w.heap.size + 1 + 1 + 1]? = some o4 ∧ W.heap[w.heap.size + 1 + 1 + 1 + 1]? = some o5 ∧ W.heap.size = w.heap.size + 5 ∧ Below w.heap.size w W := by
  have a : ∀ (w : World) (o : Obj) (k : Nat), (w.alloc o).heap[k]? = if k = w.heap.size then some o else w.heap[k]? := fun w o k => Array.getElem?_push
  refine ⟨_, rfl, ?_, ?_, ?_, ?_, ?_, by simp, ((((Below.refl _ w).alloc (Nat.le_refl _) _).alloc (by simp) _).alloc (by simp; omega) _ |>.alloc (by simp; omega) _).alloc (by simp; omega) _⟩
  all_goals
    simp only [a, World.size_alloc]
    repeat rw [if_neg (by omega)]
    simp

theorem namesD_len (t : X) : ∀ d, (namesD t d).length ≤ t.count := by
  induction t with
  | no => intro d; simp [namesD]
  | mk op a n s set len kid ih =>
    intro d
    have h : ∀ k, (flatTo (fun i => namesD (kid i) (kidDeep len kid d i)) k).length ≤ sumX (fun i => (kid i).count) k := by
      intro k
      induction k with
      | zero => simp [flatTo, sumX]
      | succ k ihk =>
        simp only [flatTo, sumX, List.length_append]
        have := ih k (kidDeep len kid d k)
        omega
    have h1 := h len
    have hc : (X.mk op a n s set len kid).count = 1 + sumX (fun i => (kid i).count) len := rfl
    rw [hc, namesD, List.length_append]
    split <;> simp <;> omega

set_option maxRecDepth 100000 in
set_option maxHeartbeats 4000000 in
theorem names_once (t : X) (su u : Value) (w : World) (hin : t.At 0 w su u) (hc : t.count ≤ 2097152) :
    Calls Try.prog 31 #[.agg #[.int .i64 t.op, .int .i64 t.at_, .int .i64 t.n, .string t.s, su, u]] w fun e w' => e = .returned (.bool (decide (keysD (namesD t 0)).Nodup)) ∧ Below w.heap.size w w' := by
  obtain ⟨p2, c2, e2⟩ := hin.xs.shape
  obtain ⟨p1, c1, e1⟩ := hin.sets.shape
  have HIN : Hid (t.At 0 w su u) := hin
  have HC : Hid (t.count ≤ 2097152) := hc
  clear hin hc
  subst e1 e2
  have hmm := @run_makeMap Try.prog
  refine callsIn_wide (n := 0).1 ?_
  refine callsIn_of_wp_marks Try.func31 rfl trivial ?_ rfl
  simp only [Try.ntmps31, List.size_toArray, List.length_cons, List.length_nil, Nat.reduceAdd, Nat.reduceSub, Array.replicate_succ, Array.replicate_zero, List.push_toArray, List.append_toArray, List.nil_append, List.cons_append]
  gi_wp2
  refine ⟨trivial, rfl, (callsIn_wide.2 (names_seq t _ _ _ _ _ _ _)).mono ?_⟩
  rintro e w1 ⟨rfl, rfl⟩
  gi_wp2
  clear hmm
  obtain ⟨W2, hW2, a0, a1, a2, a3, a4, asz, ab⟩ := five_new w (.cells #[.int .i64 t.op, .int .i64 t.at_, .int .i64 t.n, .string t.s, .slice p1 t.set.length c1, .slice p2 t.len c2] 35) (.cells #[.bool false] 4) (.map #[] 0) (.cells #[.map (some (w.heap.size + 1 + 1))] 64) (.cells #[.int .i64 t.op, .int .i64 t.at_, .int .i64 t.n, .string t.s, .slice p1 t.set.length c1, .slice p2 t.len c2] 35)
  rw [hW2]
  obtain ⟨A, hA⟩ : ∃ x, x = w.heap.size := ⟨_, rfl⟩
  have HA : Hid (A = w.heap.size) := hA
  rw [← hA] at a1 a2 a3 a4 asz ⊢
  have hmap : W2.ownsMap Try.prog 9 (plainElem (H := Unit) Try.prog 3) (A + 1 + 1) 0 (.map []) := by
    have h1 := World.ownsMap_made ((w.alloc (.cells #[.int .i64 t.op, .int .i64 t.at_, .int .i64 t.n, .string t.s, .slice p1 t.set.length c1, .slice p2 t.len c2] 35)).alloc (.cells #[.bool false] 4)) Try.prog 9 (plainElem (H := Unit) Try.prog 3)
    have h2 := (h1.alloc (.cells #[.map (some (w.heap.size + 1 + 1))] 64)).alloc (.cells #[.int .i64 t.op, .int .i64 t.at_, .int .i64 t.n, .string t.s, .slice p1 t.set.length c1, .slice p2 t.len c2] 35)
    rw [hW2] at h2
    simp only [World.size_alloc] at h2
    rw [hA]
    exact h2
  clear hW2 a0 a2
  refine wpIn_rf (gf := 51) (lb := #[.pointer (some ⟨A + 1 + 1 + 1 + 1, 0, none⟩)]) rfl (enters_of Try.func51 (by kernel_rfl) rfl) ?_
  intro fn rec hrec
  obtain ⟨M, hM⟩ : ∃ x, x = W2.heap.size := ⟨_, rfl⟩
  rw [← hM] at hrec asz ⊢
  obtain ⟨W3, hW3⟩ : ∃ W3, (W2.alloc (.deferred (some []))).alloc (.loop (rec .ready none)) = W3 := ⟨_, rfl⟩
  have b3 : Below W2.heap.size W2 W3 := by rw [← hW3]; exact (newx _ _).trans ((newx _ _).mono (by simp))
  have d3 : W3.heap[M]? = some (.deferred (some [])) := by rw [← hW3, hM, Below.heap_alloc _ _ _ (by simp)]; exact heap_alloc_new _ _
  have l3 : W3.heap[M + 1]? = some (.loop (rec .ready none)) := by rw [← hW3, hM]; have := heap_alloc_new (W2.alloc (.deferred (some []))) (.loop (rec .ready none)); rwa [World.size_alloc] at this
  have s3 : W3.heap.size = M + 2 := by rw [← hW3, hM]; simp
  rw [hW3]
  have e1 := (b3.block (A + 1) (by omega)).trans a1
  have e3 := (b3.block (A + 1 + 1 + 1) (by omega)).trans a3
  have e4 := (b3.block (A + 1 + 1 + 1 + 1) (by omega)).trans a4
  have emap : W3.ownsMap Try.prog 9 (plainElem (H := Unit) Try.prog 3) (A + 1 + 1) 0 (.map []) := by rw [← hW3]; exact (hmap.alloc _).alloc _
  have hb0 : Below w.heap.size w W3 := ab.trans (b3.mono (by omega))
  obtain ⟨Facts, hFd⟩ : ∃ F : List (ByteArray × Int) → World → Prop, F = fun pre W => W.heap[A + 1]? = some (.cells #[.bool false] 4) ∧ W.heap[A + 1 + 1 + 1]? = some (.cells #[.map (some (A + 1 + 1))] 64) ∧ (∃ D, W.ownsMap Try.prog 9 (plainElem (H := Unit) Try.prog 3) (A + 1 + 1) pre.length D ∧ SeenD D pre) ∧ (keysD pre).Nodup ∧ W.heap[M]? = some (.deferred (some [])) ∧ Below w.heap.size w W := ⟨_, rfl⟩
  obtain ⟨J, hJd⟩ : ∃ J : Inv (ByteArray × Int), J = fun pre W X => Facts pre W ∧ W.heap[M + 1]? = some (.loop (rec .ready none)) ∧ (∀ k, X k → M + 2 ≤ k) ∧ M + 2 ≤ W.heap.size := ⟨_, rfl⟩
  obtain ⟨Jx, hJxd⟩ : ∃ Jx : List (ByteArray × Int) → World → Prop, Jx = fun pre W => W.heap[A + 1]? = some (.cells #[.bool false] 4) ∧ ¬ (keysD pre).Nodup ∧ W.heap[M]? = some (.deferred (some [])) ∧ Below w.heap.size w W ∧ W.heap[M + 1]? = some (.loop (rec .done (some .ret))) := ⟨_, rfl⟩
  refine (names_iter (M + 1) (A + 1 + 1 + 1 + 1) t _ _ w HIN.out HC.out J Jx ?hJs ?hJb ?hY W3 e4 ?h0).mono ?_
  case hJs =>
    intro pre B B' X X' hj hbut hx
    rw [hJd, hFd] at hj ⊢
    obtain ⟨⟨f1, f2, ⟨D, f3, f4⟩, f5, f6, f7⟩, f8, f9, f10⟩ := hj
    have ne : ∀ k, k < M + 2 → ¬ X k := fun k hk hX => by have := f9 k hX; omega
    refine ⟨⟨hbut.at f1 (ne _ (by omega)), hbut.at f2 (ne _ (by omega)), ⟨D, ?_, f4⟩, f5, hbut.at f6 (ne _ (by omega)), f7.trans (hbut.below f7.size (fun k hk => by have := f9 k hk; omega))⟩, hbut.at f8 (ne _ (by omega)), fun k hk => ?_, Nat.le_trans f10 hbut.size⟩
    · have hlt := f3.lt
      obtain ⟨es, ck, hb, rest⟩ := f3
      exact ⟨es, ck, hbut.at hb (ne _ (by omega)), rest⟩
    · rcases hx k hk with h | h
      · exact f9 k h
      · omega
  case hJb =>
    intro pre B X hj
    rw [hJd, hFd] at hj
    exact hj.1.2.2.2.2.2
  case h0 =>
    rw [hJd, hFd]
    exact ⟨⟨e1, e3, ⟨_, emap, SeenD.nil⟩, List.nodup_nil, d3, hb0⟩, l3, fun _ h => h.elim, by omega⟩
  case hY =>
    intro pre x W X hj hsz hpf
    rw [hJd, hFd] at hj
    rw [hJd, hJxd, hFd]
    obtain ⟨⟨f1, f2, ⟨D, f3, f4⟩, f5, f6, f7⟩, f8, f9, f10⟩ := hj
    have hlen : pre.length + 1 ≤ 2097152 := by
      have h1 := hpf.length_le
      have h2 := namesD_len t 0
      have h3 := HC.out
      rw [List.length_append] at h1
      simp at h1
      omega
    have hmp : (W.putObj (M + 1) (.loop (rec .busy none))).ownsMap Try.prog 9 (plainElem (H := Unit) Try.prog 3) (A + 1 + 1) pre.length D := f3.kept (grownBy_putObj' W (M + 1) _) (by intro e; injection e with e; omega)
    obtain ⟨Wb, hWb⟩ : ∃ Wb, W.putObj (M + 1) (.loop (rec .busy none)) = Wb := ⟨_, rfl⟩
    rw [hWb] at hmp
    have HWB : Hid (Wb.heap[A + 1]? = some (.cells #[.bool false] 4) ∧ Wb.heap[A + 1 + 1 + 1]? = some (.cells #[.map (some (A + 1 + 1))] 64) ∧ Wb.heap[M]? = some (.deferred (some [])) ∧ Below w.heap.size w Wb ∧ Wb.heap[M + 1]? = some (.loop (rec .busy none)) ∧ Wb.heap.size = W.heap.size ∧ But (fun k => k = M + 1) W Wb) := by
      rw [← hWb]
      refine ⟨(World.putObj_heap_other (by omega)).trans f1, (World.putObj_heap_other (by omega)).trans f2, (World.putObj_heap_other (by omega)).trans f6, ?_, World.putObj_heap_same (Array.getElem?_eq_some_iff.1 f8).1, by simp, (But.refl (fun k => k = M + 1) W).putObj (.inr rfl) _⟩
      exact f7.trans (((But.refl (fun k => k = M + 1) W).putObj (.inr rfl) _).below f7.size (fun k hk => by rw [hk]; omega))
    have HM2 : Hid (M = A + 5 ∧ (∀ k, X k → M + 2 ≤ k) ∧ M + 2 ≤ W.heap.size ∧ A = w.heap.size) := ⟨by omega, f9, f10, HA.out⟩
    have HND : Hid ((keysD pre).Nodup) := f5
    have HSD : Hid (SeenD D pre) := f4
    refine yieldAt_of hrec f8 rfl ?_
    have HF8 : Hid (W.heap[M + 1]? = some (.loop (rec .ready none))) := f8
    have hkey := WideMaps.keyOf_string_mk (P := Try.prog) Try.underlying9 hsz
    have hat0 := f4.2 x.1.data.toList
    clear hrec hM hW3 b3 d3 l3 s3 e1 e3 e4 emap hb0 hFd hJd hJxd f1 f2 f3 f4 f5 f6 f7 f8 f9 f10 a1 a3 a4 asz ab hA HA hmap hpf HIN Facts J Jx
    gi_wp2
    refine ⟨HF8.out, ?_⟩
    rw [hWb]
    clear hWb
    have x1 : Wb.cell? ⟨A + 1, 0, none⟩ = some (.bool false) := cell_of_row Wb _ 0 _ _ _ HWB.out.1
    have x1f : Wb.frozen? ⟨A + 1, 0, none⟩ = false := frozen_of_row Wb _ 0 _ _ HWB.out.1
    have x3 : Wb.cell? ⟨A + 1 + 1 + 1, 0, none⟩ = some (.map (some (A + 1 + 1))) := cell_of_row Wb _ 0 _ _ _ HWB.out.2.1
    have HMP : Hid (Wb.ownsMap Try.prog 9 (plainElem (H := Unit) Try.prog 3) (A + 1 + 1) pre.length D) := hmp
    have HAT0 : Hid (D.atKey (.string x.1.data.toList) (.lit (.int .i64 0)) = .lit (.int .i64 (if x.1.data.toList ∈ keysD pre then 1 else 0))) := hat0
    have HKEY : Hid (keyOf Try.prog 9 (.string x.1) = some (.string x.1.data.toList)) := hkey
    have tok0 : True := trivial
    clear hmp hat0 hkey
    by_cases hmem : x.1.data.toList ∈ keysD pre
    · gi_wp2_with (first
        | (gi_at_lookup; have _t := tok0; refine wpListIn_lookup_own_int _ rfl (.tmp 10) (.tmp 11) 64 rfl 9 3 .i64 (Maps.string_keyed Try.underlying9) Try.underlying64 Try.underlying3 (Try.zeroValue3 _) (A + 1 + 1) pre.length D rfl HMP.out _ _ rfl HKEY.out ?_; intro c hat _; have hc : c = 1 := (by have h := hat.symm.trans HAT0.out; simpa [hmem] using h); clear hat; subst hc; clear tok0 _t; have tok1 : True := trivial)
        | (gi_at_mapUpdate; have _t := tok1; refine wpListIn_mapUpdate_own _ rfl (.tmp 10) (.tmp 11) (.tmp 13) 64 rfl 9 3 (Maps.string_keyed Try.underlying9) Try.underlying64 _ (A + 1 + 1) pre.length D rfl HMP.out (by unfold maxLen; omega) _ _ _ rfl rfl HKEY.out _ [] (plainElem_int (a := 2) Try.underlying3 (by decide)) ?_; intro w1 hown1 hgrow1; clear tok1 _t; have tok2 : True := trivial; have HO1 : Hid (w1.ownsMap Try.prog 9 (plainElem (H := Unit) Try.prog 3) (A + 1 + 1) (pre.length + 1) (D.put (.string x.1.data.toList) (.lit (.int .i64 2)))) := hown1; have HG1 : Hid (Wb.grownBy w1 (some (A + 1 + 1))) := hgrow1; clear hown1 hgrow1; have y1 : w1.heap[A + 1]? = some (.cells #[.bool false] 4) := (HG1.out.block (A + 1) (Array.getElem?_eq_some_iff.1 HWB.out.1).1 (by intro e; injection e with e; omega)).trans HWB.out.1; have y3 : w1.heap[A + 1 + 1 + 1]? = some (.cells #[.map (some (A + 1 + 1))] 64) := (HG1.out.block (A + 1 + 1 + 1) (Array.getElem?_eq_some_iff.1 HWB.out.2.1).1 (by intro e; injection e with e; omega)).trans HWB.out.2.1; have z1 := cell_of_row w1 _ 0 _ _ _ y1; have z1f := frozen_of_row w1 _ 0 _ _ y1; have z3 := cell_of_row w1 _ 0 _ _ _ y3)
        | (gi_at_lookup; have _t := tok2; refine wpListIn_lookup_own_int _ rfl (.tmp 14) (.tmp 15) 64 rfl 9 3 .i64 (Maps.string_keyed Try.underlying9) Try.underlying64 Try.underlying3 (Try.zeroValue3 _) (A + 1 + 1) (pre.length + 1) _ rfl HO1.out _ _ rfl HKEY.out ?_; intro c hat _; have hc : c = 2 := (by rw [Maps.atKey_put_same HSD.out.1 (by unfold WideAt.IsKeyLit; trivial)] at hat; simpa using hat.symm); clear hat; subst hc; clear tok2 _t))
      obtain ⟨g1, g2, g3, g4, g5, g6, g7⟩ := HWB.out
      obtain ⟨m1, m2, m3, m4⟩ := HM2.out
      have hl5 : w1.heap[M + 1]? = some (.loop (rec .busy none)) := (HG1.out.block (M + 1) (Array.getElem?_eq_some_iff.1 g5).1 (by intro e; injection e with e; omega)).trans g5
      have hd5 : w1.heap[M]? = some (.deferred (some [])) := (HG1.out.block M (Array.getElem?_eq_some_iff.1 g3).1 (by intro e; injection e with e; omega)).trans g3
      have hbw : But (fun k => k = A + 1 ∨ k = A + 1 + 1 ∨ k = M + 1) Wb ((w1.setCell ⟨A + 1, 0, none⟩ (.bool false)).putObj (M + 1) (.loop (rec .done (some .ret)))) :=
        (((But.refl _ Wb).grown HG1.out (fun k hk => by injection hk with hk; exact .inr (.inr (.inl hk.symm)))).setCell (.inr (.inl rfl)) _).putObj (.inr (.inr (.inr rfl))) _
      refine ⟨(Below.heap_setCell _ _ _ _ (by simp; omega)).trans hl5, .inr ⟨rfl, ?_, ?_, ?_, ?_, ?_⟩⟩
      · rw [World.putObj_heap_other (by omega)]
        exact heap_setCell_same w1 (A + 1) 0 _ _ _ y1
      · rw [keysD_snoc, List.nodup_append]
        intro h
        exact h.2.2 _ hmem _ (by simp) rfl
      · rw [World.putObj_heap_other (by omega)]
        exact (Below.heap_setCell _ _ _ _ (by simp; omega)).trans hd5
      · exact g4.trans (hbw.below g4.size (fun k hk => by omega))
      · exact World.putObj_heap_same (by have := (Array.getElem?_eq_some_iff.1 hl5).1; simpa [World.setCell] using this)
    · gi_wp2_with (first
        | (gi_at_lookup; have _t := tok0; refine wpListIn_lookup_own_int _ rfl (.tmp 10) (.tmp 11) 64 rfl 9 3 .i64 (Maps.string_keyed Try.underlying9) Try.underlying64 Try.underlying3 (Try.zeroValue3 _) (A + 1 + 1) pre.length D rfl HMP.out _ _ rfl HKEY.out ?_; intro c hat _; have hc : c = 0 := (by have h := hat.symm.trans HAT0.out; simpa [hmem] using h); clear hat; subst hc; clear tok0 _t; have tok1 : True := trivial)
        | (gi_at_mapUpdate; have _t := tok1; refine wpListIn_mapUpdate_own _ rfl (.tmp 10) (.tmp 11) (.tmp 13) 64 rfl 9 3 (Maps.string_keyed Try.underlying9) Try.underlying64 _ (A + 1 + 1) pre.length D rfl HMP.out (by unfold maxLen; omega) _ _ _ rfl rfl HKEY.out _ [] (plainElem_int (a := 1) Try.underlying3 (by decide)) ?_; intro w1 hown1 hgrow1; clear tok1 _t; have tok2 : True := trivial; have HO1 : Hid (w1.ownsMap Try.prog 9 (plainElem (H := Unit) Try.prog 3) (A + 1 + 1) (pre.length + 1) (D.put (.string x.1.data.toList) (.lit (.int .i64 1)))) := hown1; have HG1 : Hid (Wb.grownBy w1 (some (A + 1 + 1))) := hgrow1; clear hown1 hgrow1; have y1 : w1.heap[A + 1]? = some (.cells #[.bool false] 4) := (HG1.out.block (A + 1) (Array.getElem?_eq_some_iff.1 HWB.out.1).1 (by intro e; injection e with e; omega)).trans HWB.out.1; have y3 : w1.heap[A + 1 + 1 + 1]? = some (.cells #[.map (some (A + 1 + 1))] 64) := (HG1.out.block (A + 1 + 1 + 1) (Array.getElem?_eq_some_iff.1 HWB.out.2.1).1 (by intro e; injection e with e; omega)).trans HWB.out.2.1; have z1 := cell_of_row w1 _ 0 _ _ _ y1; have z1f := frozen_of_row w1 _ 0 _ _ y1; have z3 := cell_of_row w1 _ 0 _ _ _ y3)
        | (gi_at_lookup; have _t := tok2; refine wpListIn_lookup_own_int _ rfl (.tmp 14) (.tmp 15) 64 rfl 9 3 .i64 (Maps.string_keyed Try.underlying9) Try.underlying64 Try.underlying3 (Try.zeroValue3 _) (A + 1 + 1) (pre.length + 1) _ rfl HO1.out _ _ rfl HKEY.out ?_; intro c hat _; have hc : c = 1 := (by rw [Maps.atKey_put_same HSD.out.1 (by unfold WideAt.IsKeyLit; trivial)] at hat; simpa using hat.symm); clear hat; subst hc; clear tok2 _t))
      obtain ⟨g1, g2, g3, g4, g5, g6, g7⟩ := HWB.out
      obtain ⟨m1, m2, m3, m4⟩ := HM2.out
      have hl5 : w1.heap[M + 1]? = some (.loop (rec .busy none)) := (HG1.out.block (M + 1) (Array.getElem?_eq_some_iff.1 g5).1 (by intro e; injection e with e; omega)).trans g5
      have hd5 : w1.heap[M]? = some (.deferred (some [])) := (HG1.out.block M (Array.getElem?_eq_some_iff.1 g3).1 (by intro e; injection e with e; omega)).trans g3
      have hbw : But (fun k => k = A + 1 + 1 ∨ k = M + 1) Wb (w1.putObj (M + 1) (.loop (rec .ready none))) :=
        ((But.refl _ Wb).grown HG1.out (fun k hk => by injection hk with hk; exact .inr (.inl hk.symm))).putObj (.inr (.inr rfl)) _
      have hbW : But (fun k => k = A + 1 + 1 ∨ k = M + 1) W (w1.putObj (M + 1) (.loop (rec .ready none))) := (g7.mono (fun k _ hk => .inr hk)).trans hbw
      refine ⟨hl5, .inl ⟨rfl, ⟨⟨?_, ?_, ⟨_, ?_, SeenD.put HSD.out x⟩, ?_, ?_, ?_⟩, ?_, m2, Nat.le_trans m3 hbW.size⟩, hbW.size, fun k hX hk => hbW.block k hk (fun h => by have := m2 k hX; omega)⟩⟩
      · exact (World.putObj_heap_other (by omega)).trans y1
      · exact (World.putObj_heap_other (by omega)).trans y3
      · have h1 := HO1.out.kept (grownBy_putObj' w1 (M + 1) (.loop (rec .ready none))) (by intro e; injection e with e; omega)
        rw [List.length_append]
        exact h1
      · rw [keysD_snoc, List.nodup_append]
        exact ⟨HND.out, by simp, fun a ha b hb e => hmem (by simp only [List.mem_singleton] at hb; rw [← hb, ← e]; exact ha)⟩
      · exact (World.putObj_heap_other (by omega)).trans hd5
      · exact g4.trans (hbw.below g4.size (fun k hk => by omega))
      · exact World.putObj_heap_same (Array.getElem?_eq_some_iff.1 hl5).1
  rintro e W4 ⟨he, (⟨X, hj4⟩ | ⟨pre, hpf, hx4⟩)⟩
  · rw [hJd, hFd] at hj4
    obtain ⟨⟨f1, f2, f3, f5, f6, f7⟩, f8, f9, f10⟩ := hj4
    refine ⟨he, .inl ⟨f8, ?_⟩⟩
    obtain ⟨W5, hW5⟩ : ∃ W5, W4.putObj (M + 1) (.loop (rec .exhausted none)) = W5 := ⟨_, rfl⟩
    rw [hW5]
    have HK : Hid (W5.heap[M]? = some (.deferred (some [])) ∧ W5.heap[A + 1]? = some (.cells #[.bool false] 4) ∧ Below w.heap.size w W5 ∧ M = A + 5 ∧ A = w.heap.size ∧ (keysD (namesD t 0)).Nodup) := by
      rw [← hW5]
      exact ⟨(World.putObj_heap_other (by omega)).trans f6, (World.putObj_heap_other (by omega)).trans f1, f7.trans (((But.refl (fun k => k = M + 1) W4).putObj (.inr rfl) _).below f7.size (fun k hk => by omega)), by omega, HA.out, f5⟩
    have x1 := cell_of_row W5 _ 0 _ _ _ HK.out.2.1
    have x1f := frozen_of_row W5 _ 0 _ _ HK.out.2.1
    clear hrec hM hW3 b3 d3 l3 s3 e1 e3 e4 emap hb0 hFd hJd hJxd f1 f2 f3 f5 f6 f7 f8 f9 f10 a1 a3 a4 asz ab hA HA hmap HIN Facts J Jx hW5 he
    gi_wp2
    obtain ⟨k1, k2, k3, k4, k5, k6⟩ := HK.out
    have hbx : (W5.setCell ⟨A + 1, 0, none⟩ (.bool true)).heap[A + 1]? = some (.cells #[.bool true] 4) := heap_setCell_same W5 (A + 1) 0 _ _ _ k2
    have hdf : (W5.setCell ⟨A + 1, 0, none⟩ (.bool true)).heap[M]? = some (.deferred (some [])) := (Below.heap_setCell _ _ _ _ (by simp; omega)).trans k1
    refine ⟨by simp, .inl ⟨_, _, rfl, run_takeDeferred hdf, ?_⟩⟩
    have hbx2 : ((W5.setCell ⟨A + 1, 0, none⟩ (.bool true)).putObj M (.deferred none)).cell? ⟨A + 1, 0, none⟩ = some (.bool true) := cell_of_row _ _ 0 _ 4 _ ((World.putObj_heap_other (by omega)).trans hbx)
    refine ⟨.bool true, by rw [results_cellX (p := 2) (ty := 4) (by kernel_rfl)]; simp [go_sem, hbx2], ?_, ?_⟩
    · rw [decide_eq_true k6]
    · exact (k3.setCell (p := ⟨A + 1, 0, none⟩) (by simp; omega) _).trans (((But.refl (fun k => k = M) _).putObj (.inr rfl) _).below (by have := k3.size; simpa [World.setCell] using this) (fun k hk => by omega))
  · rw [hJxd] at hx4
    obtain ⟨f1, f2, f3, f4, f5⟩ := hx4
    refine ⟨he, .inr ⟨.ret, f5, ?_⟩⟩
    obtain ⟨W5, hW5⟩ : ∃ W5, W4.putObj (M + 1) (.loop (rec .exhausted (some .ret))) = W5 := ⟨_, rfl⟩
    rw [hW5]
    have HK : Hid (W5.heap[M]? = some (.deferred (some [])) ∧ W5.heap[A + 1]? = some (.cells #[.bool false] 4) ∧ Below w.heap.size w W5 ∧ M = A + 5 ∧ A = w.heap.size ∧ ¬ (keysD (namesD t 0)).Nodup) := by
      rw [← hW5]
      refine ⟨(World.putObj_heap_other (by omega)).trans f3, (World.putObj_heap_other (by omega)).trans f1, f4.trans (((But.refl (fun k => k = M + 1) W4).putObj (.inr rfl) _).below f4.size (fun k hk => by omega)), by omega, HA.out, fun h => f2 ?_⟩
      obtain ⟨r, hr⟩ := hpf
      rw [← hr] at h
      simp only [keysD, List.map_append] at h ⊢
      exact (List.nodup_append.1 h).1
    have x1 := cell_of_row W5 _ 0 _ _ _ HK.out.2.1
    clear hrec hM hW3 b3 d3 l3 s3 e1 e3 e4 emap hb0 hFd hJd hJxd f1 f2 f3 f4 f5 a1 a3 a4 asz ab hA HA hmap HIN Facts J Jx hW5 he
    gi_wp2
    obtain ⟨k1, k2, k3, k4, k5, k6⟩ := HK.out
    refine ⟨by simp, .inl ⟨_, _, rfl, run_takeDeferred k1, ?_⟩⟩
    have hbx2 : (W5.putObj M (.deferred none)).cell? ⟨A + 1, 0, none⟩ = some (.bool false) := cell_of_row _ _ 0 _ 4 _ ((World.putObj_heap_other (by omega)).trans k2)
    refine ⟨.bool false, by rw [results_cellX (p := 2) (ty := 4) (by kernel_rfl)]; simp [go_sem, hbx2], ?_, ?_⟩
    · rw [decide_eq_false k6]
    · exact k3.trans (((But.refl (fun k => k = M) _).putObj (.inr rfl) _).below k3.size (fun k hk => by omega))
end Go.Proofs.Ytaflnjhknnnaoaa
