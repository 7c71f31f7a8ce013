/- The walk of laws.FnValues: it returns true. Conditions: the code's bytes can be read; the library's table of powers of ten lies as its text lays it. -/
import Derived.Test.YtbofjjjjjcolgaaDoorCodeRow
import Derived.Test.YtbofjjjjjcolgaaDoorDrawVal3
import Derived.Test.YtbofjjjjjcolgaaDoorSpecValText
import Derived.Test.YtbofjjjjjcolgaaDoorValPieces
import Derived.Test.YtbofjjjjjcolgaaDoorSpecValOk
import Derived.Test.YtbofjjjjjcolgaaDoorImplValOk
import Derived.Test.YtbofjjjjjcolgaaDoorLater
namespace Go.Proofs.YtbofjjjjjcolgaaDoor.fnValues
open Go.ChangeShapes Go.WideShapes Go.ChangeAt Go.RowKit

/-- What the law needs of the world. -/
structure Ground (a : Option Addr) (len : Nat) (w : World) : Prop where
  code : CodeOk a len w.heap.size w
  tab : PowTab w
theorem Ground.below {a : Option Addr} {len : Nat} {w w' : World} (h : Ground a len w) (hb : Below w.heap.size w w') : Ground a len w' :=
  ⟨(show CodeOk a len w'.heap.size w' from by
      have := h.code.keep (w' := w') fun k hk _ => hb.block k hk
      obtain ⟨h1, h2 | ⟨b, off, e, hlt, hz⟩⟩ := this
      · exact ⟨h1, .inl h2⟩
      · exact ⟨h1, .inr ⟨b, off, e, Nat.lt_of_lt_of_le hlt hb.size, hz⟩⟩), h.tab.below hb⟩

theorem itoa_some (n : Int) : Lib.itoa n ≠ [] := by
  unfold Lib.itoa
  split
  · simp
  · intro h
    have := congrArg List.length h
    rw [Lib.decDigits_length] at this
    have h2 := Lib.nDigits_pos n.toNat
    simp at this
    omega
theorem text_some (t : Vt) : t.text ≠ [] := by
  by_cases h1 : t.op = 1
  · rw [t.text_num h1]; exact itoa_some _
  by_cases h2 : t.op = 2
  · rw [t.text_nil h2]; simp
  by_cases h3 : t.op = 3
  · rw [t.text_pair h3]; unfold pairTx; simp
  · rw [t.text_else h1 h2 h3]; simp

set_option maxRecDepth 100000 in
set_option maxHeartbeats 8000000 in
theorem walk (a : Option Addr) (len cap : Nat) (w : World) (hl : len ≤ 1048576) (hg : Ground a len w) :
    Calls Tryd.prog 3 #[.slice a len cap] w fun e w' => e = .returned (.bool true) ∧ Below w.heap.size w w' := by
  have hb0 : ¬ (1048576 : Int) < len := by omega
  go_enter Tryd.func3, Tryd.ntmps3
  go_wp2_with (go_at_call 4; go_in)
  refine (drawValueText_any a len cap _ hg.code).mono ?_
  rintro e w1 ⟨⟨t, v, rfl, hin1, hw1⟩, b1⟩
  obtain ⟨pt, ct, et⟩ := hin1.sl.shape
  subst et
  have g1 := hg.below b1
  have H1 : Hid (t.InP 0 w1 (.slice pt t.len ct)) := hin1.mono (Nat.zero_le _)
  have G1 : Hid (Ground a len w1 ∧ Below w.heap.size w w1) := ⟨g1, b1⟩
  clear hin1 hg g1 b1
  go_wp2_with fail
  refine (drawValueOk_any a len cap _ G1.out.1.code).mono ?_
  rintro e w2 ⟨⟨s, u, rfl, hin2, hw2⟩, b2⟩
  obtain ⟨ps, cs, es⟩ := hin2.sl.shape
  subst es
  obtain ⟨W, hW⟩ : ∃ W, W = (w2.alloc (.cells #[.int .i64 t.op, .int .i64 t.n, .slice pt t.len ct] 26)).alloc (.cells #[.int .i64 s.op, .int .i64 s.n, .slice ps s.len cs] 26) := ⟨_, rfl⟩
  obtain ⟨A, hA⟩ : ∃ A, A = w2.heap.size := ⟨_, rfl⟩
  have hbW : Below w2.heap.size w2 W := by rw [hW]; exact (newb w2 _).trans ((newb _ _).mono (by simp))
  have hA1 : W.heap[A]? = some (.cells #[.int .i64 t.op, .int .i64 t.n, .slice pt t.len ct] 26 (0, 0)) := by
    rw [hW, hA, Below.heap_alloc _ _ _ (by simp)]; exact heap_alloc_new w2 _
  have hA2 : W.heap[A + 1]? = some (.cells #[.int .i64 s.op, .int .i64 s.n, .slice ps s.len cs] 26 (0, 0)) := by
    have := heap_alloc_new (w2.alloc (.cells #[.int .i64 t.op, .int .i64 t.n, .slice pt t.len ct] 26)) (.cells #[.int .i64 s.op, .int .i64 s.n, .slice ps s.len cs] 26)
    rw [World.size_alloc] at this
    rw [hW, hA]; exact this
  have HG : Hid (∀ x : Later W, Below w.heap.size w x.w ∧ PowTab x.w ∧ t.InP 0 x.w (.slice pt t.len ct) ∧ s.InP 0 x.w (.slice ps s.len cs)) := by
    intro x
    have h1 : Below w1.heap.size w1 x.w := (b2.trans (hbW.mono b2.size)).trans (x.le.mono (Nat.le_trans b2.size hbW.size))
    have h2 : Below w2.heap.size w2 x.w := hbW.trans (x.le.mono hbW.size)
    exact ⟨G1.out.2.trans (h1.mono G1.out.2.size), G1.out.1.tab.below h1, H1.out.below h1, (hin2.mono (Nat.zero_le _)).below h2⟩
  have z0 := fun x : Later W => x.cell (cell_of_row W _ 0 _ _ _ hA1)
  have z1 := fun x : Later W => x.cell (cell_of_row W _ 1 _ _ _ hA1)
  have z2 := fun x : Later W => x.cell (cell_of_row W _ 2 _ _ _ hA1)
  have y0 := fun x : Later W => x.cell (cell_of_row W _ 0 _ _ _ hA2)
  have y1 := fun x : Later W => x.cell (cell_of_row W _ 1 _ _ _ hA2)
  have y2 := fun x : Later W => x.cell (cell_of_row W _ 2 _ _ _ hA2)
  have htw : t.weight ≤ 1048576 := by omega
  have hsw : s.weight ≤ 1048576 := by omega
  have hsc : s.count ≤ 1099511627776 := by have := s.count_weight; omega
  have HI : Hid (∀ x : Later W, Calls Tryd.prog 7 #[.agg #[.int .i64 t.op, .int .i64 t.n, .slice pt t.len ct]] x.w fun e w' => e = .returned (.string ⟨t.text.toArray⟩) ∧ Below x.w.heap.size x.w w') := fun x => impl_vtext t x.w _ (HG.out x).2.2.1.inB htw (HG.out x).2.1
  have HS : Hid (∀ x : Later W, Calls Tryd.prog 8 #[.agg #[.int .i64 t.op, .int .i64 t.n, .slice pt t.len ct]] x.w fun e w' => e = .returned (.string ⟨t.text.toArray⟩) ∧ Below x.w.heap.size x.w w') := fun x => spec_vtext t x.w _ (HG.out x).2.2.1.inB htw
  have HJ : Hid (∀ x : Later W, Calls Tryd.prog 9 #[.agg #[.int .i64 s.op, .int .i64 s.n, .slice ps s.len cs]] x.w fun e w' => e = .returned (.bool (valueB s)) ∧ Below x.w.heap.size x.w w') := fun x => impl_value_ok s x.w _ (HG.out x).2.2.2 hsw
  have HT : Hid (∀ x : Later W, Calls Tryd.prog 10 #[.agg #[.int .i64 s.op, .int .i64 s.n, .slice ps s.len cs]] x.w fun e w' => e = .returned (.bool (valueB s)) ∧ Below x.w.heap.size x.w w') := fun x => spec_value_ok s x.w _ (HG.out x).2.2.2.inB hsc
  have hne : ((⟨t.text.toArray⟩ : ByteArray).toList == ([] : List UInt8)) = false := by
    have := text_some t
    simpa [ByteArray.toList_eq] using this
  generalize (⟨t.text.toArray⟩ : ByteArray) = T at *
  generalize valueB s = B at *
  have WE := hid_ofDV hW
  have AE := hid_ofDV hA
  clear hW hA hbW hA1 hA2 b2 hin2 G1 H1 hw1 hw2
  go_upto_region 4 with fail
  rw [← WE.out, ← AE.out]
  have hone := Later.one W
  refine wp_region_later (by kernel_rfl) (by kernel_rfl) ?_
  repeat (go_big_quiet_step (first
    | (go_at_call 7; refine calls_later (HI.out _))
    | (go_at_call 8; refine calls_later (HS.out _))
    | (go_at_call 9; refine calls_later (HJ.out _))
    | (go_at_call 10; refine calls_later (HT.out _))))
  refine wpQuiet_nil ?_
  rintro _ ⟨x, rfl⟩
  go_wp2
  go_ret
  exact ⟨rfl, (HG.out x).1⟩
end Go.Proofs.YtbofjjjjjcolgaaDoor.fnValues
