/- What a mixed node weighs; its loop beside a cursor that turns. No conditions. -/
import Derived.Test.YtgbfflpdpfgnbaaGreatZG3SpecStart
import Derived.Test.YtgbfflpdpfgnbaaGreatZG7Cur
import Derived.Test.YtgbfflpdpfgnbaaGreatZG6StxP
namespace Go.Proofs.YtgbfflpdpfgnbaaGreat
open Go.ChangeShapes Go.WideShapes Go.ChangeAt Go.RowKit

theorem X.weight_sets {m : Nat} (t : X) : t.SetsLe m → t.weight ≤ (m + 1) * (datX t).weight + m := by
  induction t with
  | no => intro _; exact Nat.zero_le _
  | mk op a n s set len kid ih =>
    intro h
    have e1 : (datX (.mk op a n s set len kid)).weight = s.size + (len + sumTo (fun i => (datX (kid i)).weight) len) := rfl
    have e2 : (X.mk op a n s set len kid).weight = s.size + (set.length + (len + sumX (fun i => (kid i).weight) len)) := rfl
    have hs : ∀ k, k ≤ len → sumX (fun i => (kid i).weight) k ≤ (m + 1) * sumTo (fun i => (datX (kid i)).weight) k + m * k := by
      intro k
      induction k with
      | zero => intro _; exact Nat.zero_le _
      | succ k ihk =>
        intro hk
        have h1 := ihk (by omega)
        have h2 := ih k (h.2 k (by omega))
        have a1 : sumX (fun i => (kid i).weight) (k + 1) = sumX (fun i => (kid i).weight) k + (kid k).weight := rfl
        have a2 : sumTo (fun i => (datX (kid i)).weight) (k + 1) = sumTo (fun i => (datX (kid i)).weight) k + (datX (kid k)).weight := rfl
        rw [a1, a2, Nat.mul_add, Nat.mul_succ]
        omega
    have h3 := hs len (Nat.le_refl _)
    have h4 := h.1
    rw [e1, e2, Nat.mul_add, Nat.mul_add]
    have h5 : (m + 1) * len = m * len + len := Nat.succ_mul _ _
    have h6 : s.size ≤ (m + 1) * s.size := Nat.le_mul_of_pos_left _ (by omega)
    omega

theorem Fr.ext {c : Nat} {w w' : World} (h : Ext c w w') : Fr [c] w w' := ⟨h.os, h.tape, h.output, h.size, fun g hg hc => h.block g hg (fun e => hc (by simp [e]))⟩
theorem Fr.toExt {c : Nat} {w w' : World} (h : Fr [c] w w') : Ext c w w' := ⟨h.os, h.tape, h.output, h.size, fun g hg hc => h.block g hg (by simp [hc])⟩
theorem X.At.ext {B c : Nat} {w w' : World} (he : Ext c w w') (hc : c < B) {t : X} {sv v : Value} (h : t.At B w sv v) : t.At B w' sv v :=
  X.At.kept (Nat.le_refl _) (fun a u ha hu => (World.cell?_of_block (he.block a.block (World.block_lt_of_cell? w a hu) (by omega))).trans hu) h

theorem XLoop.beside {c : Nat} {w wr : World} {B C R O : Nat} {oA : Obj} {op a n : Int} {s : ByteArray} {set : List Int} {sv : Value} {kid : Nat → X} {k : Nat} {lv : Value} {la : List XR} {SS : List (List Nat)}
    (h : XLoop [] w wr B C R O oA op a n s set sv kid k lv la SS) (hc : c < w.heap.size) : XLoop [c] w wr B C R O oA op a n s set sv kid k lv la SS :=
  ⟨⟨h.bel.os, h.bel.tape, h.bel.output, h.bel.size, fun g hg _ => h.bel.block g hg (by simp)⟩, h.size, ⟨by simpa using hc, h.ord.2⟩, h.arg, h.res, h.out, h.sets, h.rows⟩
/-- The kids yet to come may be others. -/
theorem XLoop.kids {cs : List Nat} {w wr : World} {B C R O : Nat} {oA : Obj} {op a n : Int} {s : ByteArray} {set : List Int} {sv : Value} {kid kid' : Nat → X} {k : Nat} {lv : Value} {la : List XR} {SS : List (List Nat)}
    (h : XLoop cs w wr B C R O oA op a n s set sv kid k lv la SS) (e : ∀ i, i < k → kid' i = kid i) : XLoop cs w wr B C R O oA op a n s set sv kid' k lv la SS := by
  have hn := h.rows.num
  refine ⟨h.bel, h.size, h.ord, h.arg, h.res, h.out, h.sets, h.rows.own, hn, ⟨h.rows.rows.len, fun i q hq => ?_, fun i hi => ?_, h.rows.rows.nd, h.rows.rows.ge⟩, h.rows.out⟩
  · have hi : i < la.length := by
      rcases Nat.lt_or_ge i la.length with hi | hi
      · exact hi
      · rw [List.getElem?_eq_none hi] at hq; cases hq
    rw [e i (by omega)]
    exact h.rows.rows.ks i q hq
  · rw [e i (by omega)]
    exact h.rows.rows.each i hi
/-- The cursor turns, and new memory is made. -/
theorem XLoop.fr {cs : List Nat} {w wr w2 : World} {B C R O : Nat} {oA : Obj} {op a n : Int} {s : ByteArray} {set : List Int} {sv : Value} {kid : Nat → X} {k : Nat} {lv : Value} {la : List XR} {SS : List (List Nat)}
    (h : XLoop cs w wr B C R O oA op a n s set sv kid k lv la SS) (hb : Fr cs wr w2) : XLoop cs w w2 B C R O oA op a n s set sv kid k lv la SS := by
  obtain ⟨o0, o1, o2, o3, o4, o5, o6, o7, o8⟩ := h.ord
  have hs := h.size
  have hbs := hb.size
  have hcs : ∀ x, w.heap.size ≤ x → x ∉ cs := fun x hx hc => by have := o0 x hc; omega
  have low : ∀ x, w.heap.size ≤ x → x < wr.heap.size → w2.heap[x]? = wr.heap[x]? := fun x hx hx' => hb.block x hx' (hcs x hx)
  exact ⟨h.bel.trans hb, by omega, h.ord, (low C o1 (by omega)).trans h.arg, (low R o2 (by omega)).trans h.res, (low O o3 (by omega)).trans h.out,
    ⟨h.sets.1.sameX (fun x hx => low x (h.sets.2 x hx).1 (by have := (h.sets.2 x hx).2.1; omega)), h.sets.2⟩, h.rows.same (fun x hx hx' => low x (by omega) hx')⟩
/-- The set is made anew, the cursor turns. -/
theorem XLoop.turnC {cs : List Nat} {w W w2 : World} {B C R O : Nat} {oA : Obj} {op a n : Int} {s : ByteArray} {kid : Nat → X} {sv sv' : Value} {xs ys : List Int} (h : XLoop cs w W B C R O oA op a n s xs sv kid 0 (.slice none 0 0) [] []) (hb : Fr cs W w2) (hs : Own w2 W.heap.size sv' ys) :
    Six w2 O op a n s sv (.slice none 0 0) 32 ∧ XLoop cs w (w2.setCell ⟨O, 4, none⟩ sv') w2.heap.size C R O oA op a n s ys sv' kid 0 (.slice none 0 0) [] [] := by
  have h2 := h.fr hb
  obtain ⟨o0, o1, o2, o3, o4, o5, o6, o7, o8⟩ := h.ord
  have hbs := hb.size
  have hsz := h.size
  have hset : ∀ x, x ≠ O → (w2.setCell ⟨O, 4, none⟩ sv').heap[x]? = w2.heap[x]? := fun x hx => Below.heap_setCell w2 ⟨O, 4, none⟩ _ x hx
  refine ⟨h2.out, h2.bel.setCell _ _ (by exact o3), by simp, ⟨o0, o1, o2, o3, by omega, by omega, by omega, o7, o8⟩, (hset C o7).trans h2.arg, (hset R o8).trans h2.res, h2.out.set4 sv', ⟨(hs.mono (Nat.zero_le _)).sameX (fun x hx => hset x ?_), fun g hg => ?_⟩, XBuild.nil _ _ _⟩
  · have := (World.ownsRow.lt hs x hx).1; omega
  · have := World.ownsRow.lt hs g hg
    have := h.bel.size
    omega
theorem XsB.atB {R : World → Value → List Int → Prop} {B : Nat} {w : World} {len : Nat} {kid : Nat → X} {v : Value} (h : XsB R B w len kid v) : ∃ p cap, v = .slice p len cap ∧ len ≤ maxLen ∧
    ∀ i, i < len → ∃ b o sv u, p = some ⟨b, o, none⟩ ∧ B ≤ b ∧ Head6 w b (o + i * 6) (kid i) sv u ∧ (kid i).InB R B w sv u := by
  rcases h with ⟨rfl, p, cap, rfl⟩ | ⟨b, o, cap, U, V, rfl, hB, h1, h2, h3⟩
  · exact ⟨p, cap, rfl, Nat.zero_le _, fun i hi => by omega⟩
  · exact ⟨_, cap, rfl, Nat.le_trans h1 h2, fun i hi => ⟨b, o, U i, V i, rfl, hB, h3 i hi⟩⟩
theorem Head6.ext {c : Nat} {w w' : World} (he : Ext c w w') {b p : Nat} {t : X} {sv v : Value} (hb : c < b) (h : Head6 w b p t sv v) : Head6 w' b p t sv v :=
  h.kept (fun a u ha hu => (World.cell?_of_block (he.block a.block (World.block_lt_of_cell? w a hu) (by omega))).trans hu)
/-- The node is the same but for its sets. -/
theorem datX_head {d d' : X} (h : datX d' = datX d) : d'.op = d.op ∧ d'.at_ = d.at_ ∧ d'.n = d.n ∧ d'.s = d.s := by
  have e0 : ∀ t, (datX t).op = t.op := fun t => by cases t <;> rfl
  have e1 : ∀ t, (datX t).at_ = t.at_ := fun t => by cases t <;> rfl
  have e2 : ∀ t, (datX t).n = t.n := fun t => by cases t <;> rfl
  have e3 : ∀ t, (datX t).s = t.s := fun t => by cases t <;> rfl
  exact ⟨by rw [← e0 d', h, e0 d], by rw [← e1 d', h, e1 d], by rw [← e2 d', h, e2 d], by rw [← e3 d', h, e3 d]⟩
theorem mix_cells {d d' : X} (h : datX d' = datX d) (su v : Value) : xcells (d', su, v) = [.int .i64 d.op, .int .i64 d.at_, .int .i64 d.n, .string d.s, su, v] := by
  obtain ⟨h0, h1, h2, h3⟩ := datX_head h
  simp only [xcells, h0, h1, h2, h3]
/-- One more kid, at place k. -/
def kidPut (kid : Nat → X) (k : Nat) (t : X) : Nat → X := fun i => if i = k then t else kid i
theorem kidPut_at (kid : Nat → X) (k : Nat) (t : X) : kidPut kid k t k = t := if_pos rfl
theorem kidPut_lt (kid : Nat → X) (k : Nat) (t : X) (i : Nat) (h : i < k) : kidPut kid k t i = kid i := if_neg (by omega)
/-- The kids are the drawn ones but for their sets. -/
def KidsLike (kid kid' : Nat → X) (k : Nat) : Prop := (∀ i, datX (kid' i) = datX (kid i)) ∧ ∀ i, i < k → (kid' i).SetsLe 8
theorem KidsLike.nil (kid : Nat → X) : KidsLike kid kid 0 := ⟨fun _ => rfl, fun i hi => by omega⟩
theorem KidsLike.put {kid kid' : Nat → X} {k : Nat} {t : X} (h : KidsLike kid kid' k) (ht : datX t = datX (kid k)) (hs : t.SetsLe 8) : KidsLike kid (kidPut kid' k t) (k + 1) := by
  refine ⟨fun i => ?_, fun i hi => ?_⟩
  · by_cases e : i = k
    · subst e; rw [kidPut_at]; exact ht
    · unfold kidPut; rw [if_neg e]; exact h.1 i
  · by_cases e : i = k
    · subst e; rw [kidPut_at]; exact hs
    · rw [kidPut_lt _ _ _ _ (by omega)]; exact h.2 i (by omega)
theorem KidsLike.mk {kid kid' : Nat → X} {k : Nat} (h : KidsLike kid kid' k) (op a n : Int) (s : ByteArray) (set : List Int) {Y : List Int} (hY : Y.length ≤ 8) : datX (.mk op a n s Y k kid') = datX (.mk op a n s set k kid) ∧ (X.mk op a n s Y k kid').SetsLe 8 := by
  refine ⟨?_, hY, h.2⟩
  show D.mk op a n s k (fun i => datX (kid' i)) = D.mk op a n s k (fun i => datX (kid i))
  rw [show (fun i => datX (kid' i)) = (fun i => datX (kid i)) from funext h.1]
theorem XLoop.nextAny {cs : List Nat} {w wr w1 w3 : World} {B C R O : Nat} {oA : Obj} {op a n : Int} {s : ByteArray} {set : List Int} {sv : Value} {kid : Nat → X} {k : Nat} {lv : Value} {la : List XR} {SS : List (List Nat)}
    (hL : XLoop cs w wr B C R O oA op a n s set sv kid k lv la SS) {t' : X} {su v' : Value} {T : List Nat} (hb : Fr cs wr w1) (hd : XOwn w1 t' su v' T) (hn : T.Nodup) (hT : ∀ x ∈ T, wr.heap.size ≤ x) {o : Obj} {g cap : Nat}
    (hown : w3.ownsRow 0 32 6 (.slice (some ⟨g, 0, none⟩) (k + 1) cap) (k + 1) (xrows la ++ xcells (t', su, v'))) (hg : (w1.alloc o).grownBy w3 lv.ownBlock) (hat : lv.ownBlock = some g ∨ g = w1.heap.size + 1) :
    (w3.heap[O]? = wr.heap[O]?) ∧ XLoop cs w (w3.setCell ⟨O, 5, none⟩ (.slice (some ⟨g, 0, none⟩) (k + 1) cap)) B C R O oA op a n s set sv (kidPut kid k t') (k + 1) (.slice (some ⟨g, 0, none⟩) (k + 1) cap) (la ++ [(t', su, v')]) (SS ++ [T]) ∧ ∀ x, x < w.heap.size → (w3.setCell ⟨O, 5, none⟩ (.slice (some ⟨g, 0, none⟩) (k + 1) cap)).heap[x]? = w1.heap[x]? := by
  have hk : kidPut kid k t' k = t' := kidPut_at kid k t'
  have h := (hL.kids (kid' := kidPut kid k t') (fun i hi => kidPut_lt _ _ _ _ hi)).next (su := su) (v' := v') (T := T) hb (by rw [hk]; exact hd) hn hT (o := o) (g := g) (cap := cap) (by rw [hk]; exact hown) hg hat
  rw [hk] at h
  refine ⟨h.1, h.2, fun x hx => ?_⟩
  obtain ⟨o0, o1, o2, o3, o4, o5, o6, o7, o8⟩ := hL.ord
  have h1 := hL.bel.size
  have h2 := hb.size
  exact (Below.heap_setCell w3 ⟨O, 5, none⟩ _ x (by show x ≠ O; omega)).trans ((hg.block x (by simp; omega) (fun e => by have := (hL.rows.out x e.symm).2; omega)).trans (Below.heap_alloc w1 o x (by omega)))
end Go.Proofs.YtgbfflpdpfgnbaaGreat

/- Drawing a number below n, one of a list of ints or of texts, and the making of a cursor. Conditions: as the theorems say: the cursor lies in its block, the list's cells are there. -/
namespace Go.Proofs.YtgbfflpdpfgnbaaGreat
open Go.ChangeShapes Go.WideShapes Go.ChangeAt Go.RowKit

set_option maxHeartbeats 1000000 in
theorem l1Below_any (c : Nat) (a : Option Addr) (len cap : Nat) (n : Int) (hn : n ≤ 9223372036854775807) (w : World) (hc : CurAt c a len cap w) :
    Calls Tryz.prog 33 #[.pointer (some ⟨c, 0, none⟩), .int .i64 n] w fun e w' => (∃ x : Int, 0 ≤ x ∧ (n ≤ 0 → x = 0) ∧ (0 < n → x < n) ∧ e = .returned (.int .i64 x)) ∧ Ext c w w' ∧ CurAt c a len cap w' := by
  by_cases h0 : n ≤ 0
  · go_enter Tryz.func33, Tryz.ntmps33
    go_wp2
    go_ret
    exact ⟨⟨0, by omega, fun _ => rfl, fun h => by omega, rfl⟩, Ext.refl _ _, hc⟩
  by_cases h1 : n ≤ 256
  · go_enter Tryz.func33, Tryz.ntmps33
    go_wp2_with fail
    refine (l1Byte_any c a len cap _ hc).mono ?_
    rintro e w1 ⟨⟨x, x0, x1, rfl⟩, hx, hcur⟩
    have hz : ¬ n = 0 := by omega
    have hz2 : (n == 0) = false := by simp; omega
    go_wp2
    go_ret
    exact ⟨⟨_, Int.emod_nonneg _ (by omega), fun h => by omega, fun h => Int.emod_lt_of_pos _ h, rfl⟩, hx, hcur⟩
  · go_enter Tryz.func33, Tryz.ntmps33
    go_wp2_with fail
    refine (l1Byte_any c a len cap _ hc).mono ?_
    rintro e w1 ⟨⟨x, x0, x1, rfl⟩, hx, hcur⟩
    go_wp2_with fail
    refine (l1Byte_any c a len cap _ hcur).mono ?_
    rintro e w2 ⟨⟨y, y0, y1, rfl⟩, hy, hcur2⟩
    go_wp2_with fail
    refine (l1Byte_any c a len cap _ hcur2).mono ?_
    rintro e w3 ⟨⟨z, z0, z1, rfl⟩, hz, hcur3⟩
    go_wp2_with fail
    refine (l1Byte_any c a len cap _ hcur3).mono ?_
    rintro e w4 ⟨⟨u, u0, u1, rfl⟩, hu, hcur4⟩
    have hz2 : (n == 0) = false := by simp; omega
    go_wp2
    go_ret
    exact ⟨⟨_, Int.emod_nonneg _ (by omega), fun h => by omega, fun h => Int.emod_lt_of_pos _ h, rfl⟩, ((hx.trans hy).trans hz).trans hu, hcur4⟩

theorem getD_mem {α : Type} {l : List α} {k : Nat} (h : k < l.length) (d : α) : l.getD k d ∈ l := by
  rw [List.getD_eq_getElem?_getD, List.getElem?_eq_getElem h, Option.getD_some]
  exact List.getElem_mem _

/-- The cells of a list of ints, from its first on. -/
def IntsAt (b : Nat) (zs : List Int) (w : World) : Prop := ∀ j, j < zs.length → w.cell? ⟨b, j, none⟩ = some (.int .i64 (zs.getD j 0))
def TextsAt (b : Nat) (ss : List ByteArray) (w : World) : Prop := ∀ j, j < ss.length → w.cell? ⟨b, j, none⟩ = some (.string (ss.getD j ⟨#[]⟩))

set_option maxHeartbeats 1000000 in
theorem l1PickInt_any (c : Nat) (a : Option Addr) (len cap : Nat) (b : Nat) (zs : List Int) (w : World) (hc : CurAt c a len cap w) (hbc : b ≠ c) (m : Nat) (hm : zs.length = m) (h1 : 0 < m) (h2 : m ≤ 256) (hz : IntsAt b zs w) :
    Calls Tryz.prog 54 #[.pointer (some ⟨c, 0, none⟩), .slice (some ⟨b, 0, none⟩) m m] w fun e w' => (∃ z ∈ zs, e = .returned (.int .i64 z)) ∧ Ext c w w' ∧ CurAt c a len cap w' := by
  have HL : Hid (zs.length = m) := hm
  clear hm
  go_enter Tryz.func54, Tryz.ntmps54
  go_wp2_with fail
  refine (l1Below_any c a len cap (m : Int) (by omega) _ hc).mono ?_
  rintro e w1 ⟨⟨x, x0, _, x1, rfl⟩, hx, hcur⟩
  have hxm := x1 (by omega)
  have hcell : w1.cell? ⟨b, x.toNat, none⟩ = some (.int .i64 (zs.getD x.toNat 0)) := by
    have := hz x.toNat (by rw [HL.out]; omega)
    rw [cell_same (hx.block b (cell_lt this) hbc)]
    exact this
  clear x1
  go_wp2
  go_ret
  refine ⟨⟨zs.getD x.toNat 0, ?_, rfl⟩, hx, hcur⟩
  have hlt : x.toNat < zs.length := by rw [HL.out]; omega
  exact getD_mem hlt _

set_option maxHeartbeats 1000000 in
theorem l1Pick_any (c : Nat) (a : Option Addr) (len cap : Nat) (b : Nat) (ss : List ByteArray) (w : World) (hc : CurAt c a len cap w) (hbc : b ≠ c) (m : Nat) (hm : ss.length = m) (h1 : 0 < m) (h2 : m ≤ 256) (hz : TextsAt b ss w) :
    Calls Tryz.prog 75 #[.pointer (some ⟨c, 0, none⟩), .slice (some ⟨b, 0, none⟩) m m] w fun e w' => (∃ s ∈ ss, e = .returned (.string s)) ∧ Ext c w w' ∧ CurAt c a len cap w' := by
  have HL : Hid (ss.length = m) := hm
  clear hm
  go_enter Tryz.func75, Tryz.ntmps75
  go_wp2_with fail
  refine (l1Below_any c a len cap (m : Int) (by omega) _ hc).mono ?_
  rintro e w1 ⟨⟨x, x0, _, x1, rfl⟩, hx, hcur⟩
  have hxm := x1 (by omega)
  have hcell : w1.cell? ⟨b, x.toNat, none⟩ = some (.string (ss.getD x.toNat ⟨#[]⟩)) := by
    have := hz x.toNat (by rw [HL.out]; omega)
    rw [cell_same (hx.block b (cell_lt this) hbc)]
    exact this
  clear x1
  go_wp2
  go_ret
  refine ⟨⟨ss.getD x.toNat ⟨#[]⟩, ?_, rfl⟩, hx, hcur⟩
  have hlt : x.toNat < ss.length := by rw [HL.out]; omega
  exact getD_mem hlt _

set_option maxHeartbeats 1000000 in
/-- spec.l1New: a cursor in a new block. -/
theorem l1New_any (a : Option Addr) (len cap : Nat) (w : World) (hc : CodeOk a len w.heap.size w) :
    Calls Tryz.prog 24 #[.slice a len cap] w fun e w' => e = .returned (.pointer (some ⟨w.heap.size, 0, none⟩)) ∧ Below w.heap.size w w' ∧ CurAt w.heap.size a len cap w' ∧ w'.heap.size = w.heap.size + 1 := by
  have HC : Hid (CodeOk a len w.heap.size w) := hc
  obtain ⟨hl, hk⟩ := hc
  go_enter Tryz.func24, Tryz.ntmps24
  go_wp2
  go_loop [3, 4] (fun h i => ∃ (k : Nat) (x : Int), k ≤ len ∧ i = .int .i64 k ∧ h = .int .i64 x) (fun _ i => len - (intOf i).toNat)
  case atStart => exact ⟨0, _, Nat.zero_le _, rfl, rfl⟩
  case round =>
    obtain ⟨k, x, hkl, rfl, rfl⟩ := hrel
    by_cases hlt : (k : Int) < len
    · by_cases h4 : (k : Int) < 4000
      · rcases hk with h | ⟨b, off, rfl, hb, hz⟩
        · omega
        obtain ⟨z, z0, z1, hcz⟩ := hz k (by omega)
        clear hz
        go_wp2
        exact ⟨⟨k + 1, _, by omega, by go_num, rfl⟩, by simp [intOf]; omega⟩
      · have h5 : decide ((k : Int) < 4000) = false := by simpa using h4
        go_wp2
        go_ret
        have hB := (Below.refl w.heap.size w).alloc (Nat.le_refl _) (.cells #[.slice a len cap, .int .i64 0, .int .i64 x] 76)
        exact ⟨rfl, hB, ⟨HC.out.keep fun k hk _ => hB.block k hk, 0, x, by omega, (MapKept.heap_alloc w _).1⟩, by simp⟩
    · go_wp2
      go_ret
      have hB := (Below.refl w.heap.size w).alloc (Nat.le_refl _) (.cells #[.slice a len cap, .int .i64 0, .int .i64 x] 76)
      exact ⟨rfl, hB, ⟨HC.out.keep fun k hk _ => hB.block k hk, 0, x, by omega, (MapKept.heap_alloc w _).1⟩, by simp⟩
end Go.Proofs.YtgbfflpdpfgnbaaGreat

/- What the draws of chapter 4 answer: some short list of ints in memory of the call's own, and some int. Condition: the code's bytes can be read. -/
namespace Go.Proofs.YtgbfflpdpfgnbaaGreat
open Go.ChangeShapes Go.WideShapes Go.ChangeAt Go.RowKit

theorem CurAt.alloc' {c : Nat} {a : Option Addr} {len cap : Nat} {w : World} (h : CurAt c a len cap w) (o : Obj) : CurAt c a len cap (w.alloc o) :=
  h.keep (d := w.heap.size) ((Ext.refl _ w).alloc o) h.lt
theorem CurAt.below' {c : Nat} {a : Option Addr} {len cap : Nat} {w w' : World} (h : CurAt c a len cap w) (hb : Below w.heap.size w w') : CurAt c a len cap w' :=
  h.keep (d := w.heap.size) (Ext.of_below hb (Nat.le_refl _)) h.lt

theorem CurAt.keepB {c : Nat} {a : Option Addr} {len cap : Nat} {w w' : World} (h : CurAt c a len cap w) (hb : ∀ k, k ≤ c → w'.heap[k]? = w.heap[k]?) : CurAt c a len cap w' := by
  obtain ⟨hc, i, hh, h0, hk⟩ := h
  exact ⟨hc.keep fun k hk _ => hb k (by omega), i, hh, h0, by rw [hb c (Nat.le_refl _)]; exact hk⟩

theorem Own.ext {w w' : World} {base c : Nat} {v : Value} {xs : List Int} (h : Own w base v xs) (he : Ext c w w') (hc : c < base) : Own w' base v xs := by
  refine ⟨h.1, ?_⟩
  have hlt := h.lt
  rcases h.2 with hn | ⟨g, cap, cur, rfl, hbg, hgg, rest⟩
  · exact .inl hn
  · have hg := hlt g rfl
    exact .inr ⟨g, cap, cur, rfl, hbg, (he.block g hg.2 (by omega)).trans hgg, rest⟩

theorem Ext.trans' {c : Nat} {w w1 w2 : World} (h : Ext c w w1) (g : Below w.heap.size w1 w2) : Ext c w w2 :=
  ⟨g.os.trans h.os, g.tape.trans h.tape, g.output.trans h.output, Nat.le_trans h.size g.size, fun k hk hc => (g.block k hk).trans (h.block k hk hc)⟩

theorem intsAt_lit (w : World) (zs : List Int) (cs : Array Value) (t : TypeId) (h : cs = (zs.map (Value.int .i64)).toArray) : IntsAt w.heap.size zs (w.alloc (.cells cs t)) := by
  rw [h]
  intro j hj
  rw [World.cell?_alloc_mark]
  simp [List.getElem?_map, List.getElem?_eq_getElem hj, List.getD_eq_getElem?_getD]

set_option maxHeartbeats 1000000 in
theorem l1Once_int (c : Nat) (a : Option Addr) (len cap : Nat) (n : Int) (hn : n ≤ 9223372036854775807) (w : World) (hc : CurAt c a len cap w) :
    Calls Tryz.prog 34 #[.pointer (some ⟨c, 0, none⟩), .int .i64 n] w fun e w' => (∃ b : Bool, e = .returned (.bool b)) ∧ Ext c w w' ∧ CurAt c a len cap w' := by
  go_enter Tryz.func34, Tryz.ntmps34
  go_wp2_with fail
  refine (l1Below_any c a len cap n hn _ hc).mono ?_
  rintro e w1 ⟨⟨x, x0, _, x1, rfl⟩, hx, hcur⟩
  clear x1
  go_wp2
  go_ret
  exact ⟨⟨_, rfl⟩, hx, hcur⟩

set_option maxRecDepth 100000 in
set_option maxHeartbeats 2000000 in
theorem drawSet_any (c : Nat) (a : Option Addr) (len cap : Nat) (w : World) (hc : CurAt c a len cap w) :
    Calls Tryz.prog 26 #[.pointer (some ⟨c, 0, none⟩)] w fun e w' => ∃ (u : Value) (xs : List Int), e = .returned u ∧ xs.length ≤ 8 ∧ Own w' w.heap.size u xs ∧ Ext c w w' ∧ CurAt c a len cap w' := by
  have HCW : Hid (c < w.heap.size) := hc.lt
  have H0 : Hid (Own (w.alloc (.cells #[] 3)) w.heap.size (.slice (some ⟨w.heap.size, 0, none⟩) 0 0) [] ∧ Ext c w (w.alloc (.cells #[] 3)) ∧ CurAt c a len cap (w.alloc (.cells #[] 3))) := ⟨own_lit w w.heap.size (Nat.le_refl _), (Ext.refl _ w).alloc _, hc.alloc' _⟩
  clear hc
  obtain ⟨i0, hi, hz0, hz1, hz2⟩ := info_parts int_info
  go_enter Tryz.func26, Tryz.ntmps26
  go_wp2_with fail
  go_loopw [3, 4] (fun r i wr => ∃ (k : Nat) (r0 : Value) (xs : List Int), r0 = r ∧ i = .int .i64 k ∧ k ≤ 4 ∧ xs.length ≤ k ∧ Own wr w.heap.size r0 xs ∧ Ext c w wr ∧ CurAt c a len cap wr) (fun _ i _ => 5 - (intOf i).toNat)
  case atStart => exact ⟨0, _, [], rfl, rfl, by omega, by simp, H0.out⟩
  case round =>
    obtain ⟨k, r0, xs, rfl, rfl, hk, hxl, hown, hext, hcur⟩ := hrel
    have HW : Hid (Own wr w.heap.size r0 xs ∧ Ext c w wr) := ⟨hown, hext⟩
    clear hown hext H0
    go_wp2_with fail
    refine (l1Below_any c a len cap 5 (by omega) _ hcur).mono ?_
    rintro e w1 ⟨⟨x, x0, _, x1, rfl⟩, hx, hcur1⟩
    have hx5 := x1 (by omega)
    have HW1 : Hid (Own w1 w.heap.size r0 xs ∧ Ext c w w1) := ⟨HW.out.1.ext hx HCW.out, HW.out.2.trans hx⟩
    clear hcur hx x1 HW
    by_cases hlt : (k : Int) < x
    · go_wp2_with fail
      refine (l1Below_any c a len cap 6 (by omega) _ hcur1).mono ?_
      rintro e w2 ⟨⟨y, y0, _, y1, rfl⟩, hy, hcur2⟩
      have HW2 : Hid (Own w2 w.heap.size r0 xs ∧ Ext c w w2 ∧ w.heap.size ≤ w2.heap.size) := ⟨HW1.out.1.ext hy HCW.out, HW1.out.2.trans hy, (HW1.out.2.trans hy).size⟩
      clear hcur1 hy y1 HW1
      go_wp2_with fail
      refine (spec_with xs y r0 w2 HW2.out.1.rd (by omega)).mono ?_
      rintro e w3 ⟨u, rfl, hb3, ho3⟩
      have HW3 : Hid (Own w3 w.heap.size u (withL xs y) ∧ Ext c w w3 ∧ CurAt c a len cap w3) := ⟨ho3.mono HW2.out.2.2, HW2.out.2.1.trans (Ext.of_below hb3 (Nat.le_refl _)), hcur2.below' hb3⟩
      have hwl := with_len xs y
      clear hb3 ho3 hcur2 HW2
      go_wp2
      go_roundw
      case rel => exact ⟨k + 1, _, _, rfl, by go_num, by omega, by omega, HW3.out⟩
      case measure => simp [intOf]; omega
    · go_wp2_with fail
      refine (l1Once_int c a len cap 10 (by omega) _ hcur1).mono ?_
      rintro e w2 ⟨⟨bb, rfl⟩, hy, hcur2⟩
      have HW2 : Hid (Own w2 w.heap.size r0 xs ∧ Ext c w w2 ∧ w.heap.size ≤ w2.heap.size) := ⟨HW1.out.1.ext hy HCW.out, HW1.out.2.trans hy, (HW1.out.2.trans hy).size⟩
      clear hcur1 hy HW1
      cases bb
      · go_wp2
        go_ret
        exact ⟨_, xs, rfl, by omega, HW2.out.1, HW2.out.2.1, hcur2⟩
      · go_wp2_with fail
        refine (l1PickInt_any c a len cap w2.heap.size [-1, 0, 3, 9223372036854775807] _ (hcur2.alloc' _) (by have := HCW.out; have := HW2.out.2.2; omega) 4 rfl (by omega) (by omega) (intsAt_lit w2 _ _ _ rfl)).mono ?_
        rintro e w3 ⟨⟨z, _, rfl⟩, hz, hcur3⟩
        have HW3 : Hid (Own w3 w.heap.size r0 xs ∧ Ext c w w3 ∧ w.heap.size ≤ w3.heap.size) := by
          have hx := (Ext.refl c w2).alloc (.cells #[.int .i64 (-1), .int .i64 0, .int .i64 3, .int .i64 9223372036854775807] 3)
          exact ⟨(HW2.out.1.ext hx HCW.out).ext hz HCW.out, (HW2.out.2.1.trans hx).trans hz, ((HW2.out.2.1.trans hx).trans hz).size⟩
        clear hz hcur2 HW2
        go_wp2_with (at_builtin; refine wpList_append_any _ rfl (.tmp 18) (.tmp 22) 27 rfl w.heap.size 3 i0 (.int .i64 0) 1 8 Tryz.underlying27 hi hz0 hz1 hz2 rfl (by decide) r0 xs.length (xs.map (Value.int .i64)) rfl (World.ownsRow.alloc HW3.out.1 _) (some ⟨w3.heap.size, 0, none⟩) 1 1 [.int .i64 z] rfl rfl (by simp) (one_new w3 _ _) (by simp [Value.oneCell']) (by unfold maxLen; omega) (by omega) (by have := HW3.out.2.2; simp; omega) ?_; intro v' w4 hown4 hg4)
        have R := own_push (w := w3) HW3.out.1 (Below.refl w.heap.size w3) HW3.out.2.2 hown4.out hg4.out
        have HR : Hid (Own w4 w.heap.size v' (xs ++ [z]) ∧ Ext c w w4 ∧ CurAt c a len cap w4) := by
          have hs := HW3.out.2.2
          have hcw := HCW.out
          refine ⟨R.1, HW3.out.2.1.trans' R.2 , hcur3.keepB fun k hk => R.2.block k (by omega)⟩
        clear R hown4 hg4
        go_ret
        exact ⟨_, xs ++ [z], rfl, by simp; omega, HR.out⟩

end Go.Proofs.YtgbfflpdpfgnbaaGreat
