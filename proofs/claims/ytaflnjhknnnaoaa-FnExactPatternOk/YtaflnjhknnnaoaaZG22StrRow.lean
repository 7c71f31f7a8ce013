/- impl.StxOk. Condition: at most 2^20 of it. -/
import Derived.Test.YtaflnjhknnnaoaaZG21StxLook
import Derived.Test.YtaflnjhknnnaoaaZG0Ints
import Derived.Test.YtaflnjhknnnaoaaZG8StxOwn
import Derived.Laws.EntriesVeiled
namespace Go.Proofs.Ytaflnjhknnnaoaa
open Go.ChangeShapes Go.WideShapes Go.ChangeAt Go.RowKit

set_option maxRecDepth 100000 in
set_option maxHeartbeats 4000000 in
theorem impl_stx_ok (t : X) (w : World) (sv v : Value) (hin : t.At 0 w sv v) (hwt : t.weight ≤ 1048576) :
    Calls Try.prog 29 #[.agg #[.int .i64 t.op, .int .i64 t.at_, .int .i64 t.n, .string t.s, sv, v]] w fun e w' => e = .returned (.bool (stxOkB t)) ∧ Below w.heap.size w w' := by
  obtain ⟨p, cap, hv⟩ := hin.xs.shape
  obtain ⟨ps, cps, hsv⟩ := hin.sets.shape
  subst hv hsv
  have HR : Hid (stxOkB t = (lookX 20 1500 1 (fun _ => t)).isSome) := stxOk_look t
  have hW := threeX (Below.refl (((w.alloc (.cells #[.int .i64 t.op, .int .i64 t.at_, .int .i64 t.n, .string t.s, .slice ps t.set.length cps, .slice p t.len cap] 35)).alloc (.cells #[.int .i64 1500, .func (.func 37) #[] #[], .func (.func 38) #[] #[]] 62)).alloc (.cells #[.int .i64 t.op, .int .i64 t.at_, .int .i64 t.n, .string t.s, .slice ps t.set.length cps, .slice p t.len cap] 35)).heap.size _)
  obtain ⟨-, h2, h3, h4, h5⟩ := hW
  have HC : Hid (Calls Try.prog 39 #[.pointer (some ⟨w.heap.size + 1, 0, none⟩), .slice (some ⟨w.heap.size + 1 + 1, 0, none⟩) 1 1, .int .i64 20] (((w.alloc (.cells #[.int .i64 t.op, .int .i64 t.at_, .int .i64 t.n, .string t.s, .slice ps t.set.length cps, .slice p t.len cap] 35)).alloc (.cells #[.int .i64 1500, .func (.func 37) #[] #[], .func (.func 38) #[] #[]] 62)).alloc (.cells #[.int .i64 t.op, .int .i64 t.at_, .int .i64 t.n, .string t.s, .slice ps t.set.length cps, .slice p t.len cap] 35)) fun e w' => e = .returned (.bool (lookX 20 1500 1 (fun _ => t)).isSome) ∧ Below w.heap.size w w') := by
    have hsrc : SrcL w (w.heap.size + 1 + 1) (some (.cells #[.int .i64 t.op, .int .i64 t.at_, .int .i64 t.n, .string t.s, .slice ps t.set.length cps, .slice p t.len cap] 35)) 1 (fun _ => t) (.slice (some ⟨w.heap.size + 1 + 1, 0, none⟩) 1 1) := by
      refine ⟨_, 1, rfl, by unfold maxLen; omega, fun W hW i hi => ⟨w.heap.size + 1 + 1, 0, .slice ps t.set.length cps, .slice p t.len cap, rfl, ?_, hin⟩⟩
      obtain rfl : i = 0 := by omega
      have h6 : Six W (w.heap.size + 1 + 1) t.op t.at_ t.n t.s (.slice ps t.set.length cps) (.slice p t.len cap) 35 := hW.top.1
      obtain ⟨q0, q1, q2, q3, q4, q5⟩ := h6.cells
      exact ⟨q0, q1, q2, q3, q4, q5⟩
    have hkw : kidsWeightX 1 (fun _ => t) ≤ 1048577 := by unfold kidsWeightX; simp only [sumX]; omega
    refine (list_okX w (w.heap.size + 1 + 1) _ rfl (w.heap.size + 1) (by omega) (by omega) 20 1500 1 (fun _ => t) _ _ hsrc ⟨h5, h3, fun _ => by omega⟩ h2 (by omega) (by omega) hkw).mono ?_
    rintro e w' ⟨he, hf, -⟩
    refine ⟨he, ⟨hf.os.trans h5.os, hf.tape.trans h5.tape, hf.output.trans h5.output, Nat.le_trans h5.size hf.size, fun x hx => (hf.block x (by omega) (by simp; omega)).trans (h5.block x hx)⟩⟩
  clear hin hwt h2 h3 h4 h5
  go_enter Try.func29, Try.ntmps29
  go_wp2_with fail
  refine HC.out.mono ?_
  rintro e w1 ⟨rfl, hb1⟩
  have HB : Hid (Below w.heap.size w w1) := hb1
  clear hb1
  rw [← HR.out]
  go_wp2_with fail
  go_ret
  exact ⟨rfl, HB.out⟩
end Go.Proofs.Ytaflnjhknnnaoaa

/- How slices of texts lie: to be read (RdS), and owned (OwnS). No conditions. -/
namespace Go.Proofs.Ytaflnjhknnnaoaa
open Go.ChangeShapes Go.WideShapes Go.ChangeAt Go.RowKit

/-- The slice v lies in w and holds xs. -/
def RdS (w : World) (v : Value) (xs : List ByteArray) : Prop :=
  ∃ a cap, v = .slice a xs.length cap ∧ ∀ j, j < xs.length → ∃ b off, a = some ⟨b, off, none⟩ ∧ w.cell? ⟨b, off + j, none⟩ = some (.string (xs.getD j ⟨#[]⟩))
theorem RdS.below {w w' : World} {v : Value} {xs : List ByteArray} (h : RdS w v xs) (hb : Below w.heap.size w w') : RdS w' v xs := by
  obtain ⟨a, cap, rfl, hc⟩ := h
  refine ⟨a, cap, rfl, fun j hj => ?_⟩
  obtain ⟨b, off, e, h⟩ := hc j hj
  exact ⟨b, off, e, (hb.cell (World.block_lt_of_cell? w _ h)).trans h⟩
/-- The slice v is a row of its own, from block base on, and holds xs. -/
def OwnS (w : World) (base : Nat) (v : Value) (xs : List ByteArray) : Prop := w.ownsRow base 9 1 v xs.length (xs.map Value.string)
theorem OwnS.rd {w : World} {base : Nat} {v : Value} {xs : List ByteArray} (h : OwnS w base v xs) : RdS w v xs := by
  have h' := h
  rcases h.2 with ⟨rfl, hn⟩ | ⟨g, cap, cur, rfl, hbg, hg, hnc, _⟩
  · have : xs = [] := List.eq_nil_of_length_eq_zero hn
    subst this
    exact ⟨none, 0, rfl, fun j hj => by simp at hj⟩
  · refine ⟨_, cap, rfl, fun j hj => ⟨g, 0, rfl, ?_⟩⟩
    rw [Nat.zero_add, World.ownsRow.cellAt h' j (by omega)]
    simp [List.getElem?_eq_getElem hj]
theorem OwnS.below {w w' : World} {base : Nat} {v : Value} {xs : List ByteArray} (h : OwnS w base v xs) (hb : Below w.heap.size w w') : OwnS w' base v xs :=
  World.ownsRow.kept (row := none) h ⟨hb.os, hb.tape, hb.output, hb.size, fun k hk _ => hb.block k hk⟩ (by
    cases hv : v.ownBlock with
    | none => exact .inl rfl
    | some k => exact .inr (by simp))
theorem OwnS.mono {w : World} {base base' : Nat} {v : Value} {xs : List ByteArray} (h : OwnS w base v xs) (hb : base' ≤ base) : OwnS w base' v xs := by
  refine ⟨h.1, ?_⟩
  rcases h.2 with h | ⟨g, cap, cur, rfl, hbg, rest⟩
  · exact .inl h
  · exact .inr ⟨g, cap, cur, rfl, Nat.le_trans hb hbg, rest⟩
theorem own_belowV {w w' : World} {base e size n : Nat} {v : Value} {xs : List Value} (h : w.ownsRow base e size v n xs) (hb : Below w.heap.size w w') : w'.ownsRow base e size v n xs := by
  refine ⟨h.1, ?_⟩
  rcases h.2 with hn | ⟨g, cap, cur, rfl, hbg, hgg, rest⟩
  · exact .inl hn
  · exact .inr ⟨g, cap, cur, rfl, hbg, (hb.block g (Array.getElem?_eq_some_iff.1 hgg).1).trans hgg, rest⟩
theorem string_info : (Try.prog.info? 9).map (fun i => (i.zero, i.size, i.bytes)) = some (some (.string ⟨#[]⟩), 1, 16) := by kernel_rfl
theorem strs_cells (xs : List ByteArray) : ∀ v ∈ xs.map Value.string, v.oneCell' = true := by
  intro v hv
  obtain ⟨x, _, rfl⟩ := List.mem_map.1 hv
  rfl
theorem own_pushS {B : Nat} {w wr w1 : World} {r0 v' : Value} {L : List ByteArray} {x : ByteArray} {t : TypeId} (h : OwnS wr B r0 L) (hb : Below B w wr) (hB : B ≤ wr.heap.size)
    (h1 : w1.ownsRow B 9 1 v' (L.length + 1) (L.map Value.string ++ [.string x])) (hg : (wr.alloc (.cells #[.string x] t)).grownBy w1 r0.ownBlock) : OwnS w1 B v' (L ++ [x]) ∧ Below B w w1 := by
  refine ⟨?_, ?_⟩
  · unfold OwnS
    rw [List.length_append, List.length_singleton, List.map_append]
    exact h1
  · exact (hb.alloc hB _).grown hg (by simp; omega) (fun k hk => (h.lt k hk).1)
end Go.Proofs.Ytaflnjhknnnaoaa
