/- A range over a function, in plain words: the loop's record, one round, the whole statement. No conditions. -/
import Derived.Test.YtlclfmjpnchmbaaGreatRows
import Derived.Test.YtlclfmjpnchmbaaGreatZG0Stx
import Derived.Test.YtlclfmjpnchmbaaGreatZG1StxOwn
import Derived.RangeFuncNested
import Derived.RangeFuncBound
import Derived.RangeFuncCalls
import Derived.RangeFuncLeaves
import Derived.Shelf.Abstract
import Derived.Shelf.RegionOpen
import Derived.WalkKit
import Derived.OwnWalkIn
import Derived.TacticsInMore
import Derived.LoopNIn
import Derived.LoopIn
namespace Go.Proofs.YtlclfmjpnchmbaaGreat
open Go.RowKit Go.Shelf

/-- The record of a loop. -/
def recOf (fn : FuncId) (tmps : Array Value) (ps : Array Tmp) (assign body : Code) (d : Nat) (st : LoopState) (pe : Option Code) : Loop := { state := st, pending := pe, fn, tmps, params := ps, assign, body, defers := d }

/-- What is asked where a round's body is left. -/
def roundOut (l : Nat) (rec : LoopState → Option Code → Loop) (R : Ending → World → Prop) : Exit → Act → World → Prop
  | .normal, _, W => W.heap[l]? = some (.loop (rec .busy none)) ∧ R (.returned (.bool true)) (W.putObj l (.loop (rec .ready none)))
  | .ret, _, W => W.heap[l]? = some (.loop (rec .busy none)) ∧ R (.returned (.bool false)) (W.putObj l (.loop (rec .done (some .ret))))
  | .exit id, _, W => W.heap[l]? = some (.loop (rec .busy none)) ∧ R (.returned (.bool false)) (W.putObj l (.loop (rec .done (some (.exit id)))))
  | .goto t, _, W => W.heap[l]? = some (.loop (rec .busy none)) ∧ R (.returned (.bool false)) (W.putObj l (.loop (rec .done (some (.goto t)))))
  | .panic _, _, _ => False
  | .outgrown, _, _ => False

variable {P : Program} {m : Nat}

/-- A round, by the walk of the loop's own code. -/
theorem yieldAt_of {l : Nat} {fn : FuncId} {tmps : Array Value} {ps : Array Tmp} {assign body : Code} {d : Nat} {rec : LoopState → Option Code → Loop} (hrec : rec = recOf fn tmps ps assign body d)
    {args : Array Value} {W : World} {R : Ending → World → Prop} (hl : W.heap[l]? = some (.loop (rec .ready none))) (hs : args.size = ps.size)
    (h : assign.wpIn (Fence.wide.inRound l) m P (Exit.then (fun a₁ w₁ => w₁.heap[l]? = some (.loop (rec .ready none)) ∧ body.wpIn (Fence.wide.inRound l) m P (roundOut l rec R) a₁ (w₁.putObj l (.loop (rec .busy none)))) (fun _ _ _ => False))
      { tmps := (ps.zip args).foldl (fun t (p, v) => t.setIfInBounds p v) tmps, defers := [] } W) :
    YieldAt Fence.wide m P l args W R := by
  have hy := run_yield (P := P) (args := args) hl (by rw [hrec]; exact hs)
  rw [hrec] at hy
  refine ⟨fn, _, assign, body, hy, roundIn_of_wpIn trivial (wpIn_mono h ?_)⟩
  clear hy h
  rintro e a₁ w₁ he
  cases e with
  | normal =>
    obtain ⟨hl1, hb⟩ := he
    refine ⟨_, run_beginRound hl1 (by rw [hrec]; rfl), ?_⟩
    have e1 : ({ rec .ready none with state := .busy } : Loop) = rec .busy none := by rw [hrec]; rfl
    rw [e1]
    refine wpIn_mono hb ?_
    have fin : ∀ (jump : Option Code) (W3 : World), W3.heap[l]? = some (.loop (rec .busy none)) →
        (Instr.endRound l jump).run P W3 = .ok (.bool jump.isNone) (W3.putObj l (.loop (rec (if jump.isNone then .ready else .done) jump))) := fun jump W3 h3 => by
      have := run_endRound (P := P) jump h3
      rw [hrec] at this ⊢
      exact this
    rintro e2 a3 W3 hp
    cases e2 with
    | normal => exact ⟨_, _, fin none W3 hp.1, hp.2⟩
    | ret => exact ⟨_, _, fin (some .ret) W3 hp.1, hp.2⟩
    | exit id => exact ⟨_, _, fin (some (.exit id)) W3 hp.1, hp.2⟩
    | goto t => exact ⟨_, _, fin (some (.goto t)) W3 hp.1, hp.2⟩
    | panic ch => exact hp.elim
    | outgrown => exact hp.elim
  | ret => exact he.elim
  | exit id => exact he.elim
  | goto t => exact he.elim
  | panic ch => exact he.elim
  | outgrown => exact he.elim

/-- The act behind the statement. -/
abbrev actOf (a : Act) (d : Nat) : Act := { a with defers := { target := .collected d, args := #[] } :: a.defers }

/-- What is asked behind the function that was ranged over. -/
def rfPost (n : Nat) (P : Program) (Q : Exit → Act → World → Prop) (a : Act) (d : Nat) (rec : LoopState → Option Code → Loop) : Ending → World → Prop := fun e W =>
  (∃ v, e = .returned v) ∧
    ((W.heap[d + 1]? = some (.loop (rec .ready none)) ∧ Q .normal (actOf a d) (W.putObj (d + 1) (.loop (rec .exhausted none)))) ∨
     (∃ c, W.heap[d + 1]? = some (.loop (rec .done (some c))) ∧ c.wpIn Fence.wide n P Q (actOf a d) (W.putObj (d + 1) (.loop (rec .exhausted (some c))))))

/-- The statement. -/
theorem wpIn_rf {g : Operand} {ps : Array Tmp} {assign body : Code} {Q : Exit → Act → World → Prop} {a : Act} {w : World} {n gf : Nat} {lb : Array Value}
    (hg : a.eval g = .func (.func gf) #[] lb) (eg : ∀ args w, (callFunc gf args).run P w = .ok (.enter gf args) w)
    (h : ∀ fn rec, rec = recOf fn a.tmps ps assign body w.heap.size →
      Calls P gf (#[.func (.yield (w.heap.size + 1)) #[] #[]] ++ lb) ((w.alloc (.deferred (some []))).alloc (.loop (rec .ready none))) (rfPost n P Q a w.heap.size rec)) :
    (Code.rangeFunc g ps assign body).wpIn Fence.wide n P Q a w := by
  refine wpIn_rangeFunc ?_
  intro fn hfn
  obtain ⟨rec, hrec⟩ : ∃ rec, rec = recOf fn a.tmps ps assign body w.heap.size := ⟨_, rfl⟩
  obtain ⟨W1, hW1⟩ : ∃ W1, (w.alloc (.deferred (some []))).alloc (.loop (rec .ready none)) = W1 := ⟨_, rfl⟩
  have hh := h fn rec hrec
  rw [hW1] at hh
  refine ⟨w.heap.size + 1, [{ target := .collected w.heap.size, args := #[] }], W1, { target := .fn (.func gf) lb, args := #[.func (.yield (w.heap.size + 1)) #[] #[]] }, W1, gf,
    #[.func (.yield (w.heap.size + 1)) #[] #[]] ++ lb, W1, ?_, ?_, ?_, ?_, fun h => (by simp [Fence.wide] at h), ?_⟩
  · rw [← hW1, hrec]; exact run_enterLoop_outer _ _ _ _ _
  · simp only [resolve, hg]
    simp [go_sem]
  · intro f' _; trivial
  · simp [invoke, go_sem, eg]
  · refine (callsIn_wide.2 hh).mono ?_
    rintro e W2 ⟨⟨v, rfl⟩, (⟨hl, hq⟩ | ⟨c, hl, hq⟩)⟩
    · exact ⟨none, _, by have := run_endLoop (P := P) hl (by rw [hrec]; simp [recOf]); rw [hrec] at this ⊢; exact this, hq⟩
    · exact ⟨some c, _, by have := run_endLoop (P := P) hl (by rw [hrec]; simp [recOf]); rw [hrec] at this ⊢; exact this, hq⟩

/-- Where no depth is asked the figures are all one. -/
theorem YieldAt.any {l : Nat} {args : Array Value} {W : World} {R : Ending → World → Prop} (h : YieldAt Fence.wide m P l args W R) (m' : Nat) : YieldAt Fence.wide m' P l args W R := by
  obtain ⟨fn, tmps, assign, body, hy, hR⟩ := h
  exact ⟨fn, tmps, assign, body, hy, ⟨hR.1, fun c cs _ => hR.2 c cs (fun d h => by cases h)⟩⟩
theorem YieldAt.mono' {l : Nat} {args : Array Value} {W : World} {R R' : Ending → World → Prop} (h : YieldAt Fence.wide m P l args W R) (k : ∀ e W', R e W' → R' e W') : YieldAt Fence.wide m P l args W R' := by
  obtain ⟨fn, tmps, assign, body, hy, hR⟩ := h
  exact ⟨fn, tmps, assign, body, hy, hR.mono k⟩
end Go.Proofs.YtlclfmjpnchmbaaGreat

/- slices.Backward over a slice of syntax: its kids, the last one first. No conditions. -/
namespace Go.Proofs.YtlclfmjpnchmbaaGreat
open Go.RowKit Go.Shelf
attribute [local go_sem] Oper.semAt_some

/-- The six cells of syntax as a value. -/
abbrev aggX (t : X) (su u : Value) : Value := .agg #[.int .i64 t.op, .int .i64 t.at_, .int .i64 t.n, .string t.s, su, u]

set_option maxRecDepth 100000 in
set_option maxHeartbeats 1000000 in
theorem back_seq (p : Option Addr) (len cap : Nat) (w : World) : Calls Tryz.prog 82 #[.slice p len cap] w fun e w' => e = .returned (.func (.func 90) #[] #[.pointer (some ⟨w.heap.size, 0, none⟩)]) ∧ w' = w.alloc (.cells #[.slice p len cap] 30) := by
  go_enter Tryz.func82, Tryz.ntmps82
  go_wp2_with fail
  go_ret
  exact ⟨rfl, rfl⟩

theorem XsB.uv {R : World → Value → List Int → Prop} {B : Nat} {w : World} {len : Nat} {kid : Nat → X} {v : Value} (h : XsB R B w len kid v) : ∃ (p : Option Addr) (cap : Nat) (U V : Nat → Value), v = .slice p len cap ∧ len ≤ maxLen ∧
    ∀ i, i < len → (∃ b o, p = some ⟨b, o, none⟩ ∧ Head6 w b (o + i * 6) (kid i) (U i) (V i)) ∧ (kid i).InB R B w (U i) (V i) := by
  rcases h with ⟨rfl, p, cap, rfl⟩ | ⟨b, o, cap, U, V, rfl, hB, h1, h2, h3⟩
  · exact ⟨p, cap, fun _ => .bool false, fun _ => .bool false, rfl, Nat.zero_le _, fun i hi => absurd hi (Nat.not_lt_zero _)⟩
  · exact ⟨_, cap, U, V, rfl, Nat.le_trans h1 h2, fun i hi => ⟨⟨b, o, rfl, (h3 i hi).1⟩, (h3 i hi).2⟩⟩

set_option maxRecDepth 100000 in
set_option maxHeartbeats 2000000 in
theorem back_iter (l Bs cap len : Nat) (p : Option Addr) (kid : Nat → X) (U V : Nat → Value) (J : Nat → World → Prop) (hl : len ≤ maxLen)
    (hJ : ∀ k W, J k W → W.cell? ⟨Bs, 0, none⟩ = some (.slice p len cap) ∧ ∀ i, i < len → ∃ b o, p = some ⟨b, o, none⟩ ∧ Head6 W b (o + i * 6) (kid i) (U i) (V i))
    (hY : ∀ k i W, J k W → k + i + 1 = len → YieldAt Fence.wide 0 Tryz.prog l #[.int .i64 i, aggX (kid i) (U i) (V i)] W fun e W' => e = .returned (.bool true) ∧ J (k + 1) W')
    (W : World) (h0 : J 0 W) :
    Calls Tryz.prog 90 #[.func (.yield l) #[] #[], .pointer (some ⟨Bs, 0, none⟩)] W fun e W' => (∃ v, e = .returned v) ∧ J len W' := by
  have HJ : Hid (∀ k W, J k W → W.cell? ⟨Bs, 0, none⟩ = some (.slice p len cap) ∧ ∀ i, i < len → ∃ b o, p = some ⟨b, o, none⟩ ∧ Head6 W b (o + i * 6) (kid i) (U i) (V i)) := hJ
  have HY : Hid (∀ k i W, J k W → k + i + 1 = len → YieldAt Fence.wide 0 Tryz.prog l #[.int .i64 i, aggX (kid i) (U i) (V i)] W fun e W' => e = .returned (.bool true) ∧ J (k + 1) W') := hY
  clear hJ hY
  unfold maxLen at hl
  have hbx := (HJ.out 0 W h0).1
  refine callsIn_wide (n := 0).1 ?_
  refine callsIn_of_wp Tryz.func90 rfl trivial ?_ rfl
  simp only [Tryz.ntmps90, List.size_toArray, List.length_cons, List.length_nil, Nat.reduceAdd, Nat.reduceSub, Array.replicate_succ, Array.replicate_zero, List.push_toArray, List.append_toArray, List.nil_append, List.cons_append]
  gi_wp2
  clear hbx
  gi_loopw [3] (fun i wr => ∃ (k : Nat), i = .int .i64 ((len : Int) - k - 1) ∧ k ≤ len ∧ J k wr) (fun i _ => (intOf i + 1).toNat)
  case atStart => exact ⟨0, by go_num, Nat.zero_le _, h0⟩
  case round =>
    obtain ⟨k, rfl, hk, hj⟩ := hrel
    by_cases hlt : k = len
    · subst hlt
      gi_wp2
      go_end0
      exact ⟨⟨_, rfl⟩, hj⟩
    · obtain ⟨i, hi⟩ : ∃ i, k + i + 1 = len := ⟨len - k - 1, by omega⟩
      have hii : (len : Int) - k - 1 = i := by omega
      rw [hii]
      obtain ⟨hbx, hd⟩ := HJ.out k wr hj
      obtain ⟨b, o, hp, hd6⟩ := hd i (by omega)
      subst hp
      obtain ⟨c0, c1, c2, c3, c4, c5⟩ := hd6
      obtain ⟨fn, tmps, assign, body, hy, hR⟩ := HY.out k i wr hj hi
      gi_wp2
      refine ⟨rfl, hR.mono ?_⟩
      rintro e W3 ⟨rfl, hj3⟩
      gi_wp2
      go_roundw
      case rel => exact ⟨k + 1, by go_num, by omega, hj3⟩
      case measure => simp [intOf]
end Go.Proofs.YtlclfmjpnchmbaaGreat

/- Rows of impl.inDots: parts that are left, each with how deep it stands. No conditions. -/
namespace Go.Proofs.YtlclfmjpnchmbaaGreat
open Go.ChangeShapes Go.WideShapes Go.ChangeAt Go.RowKit

/-- A part: the node, its set's slice and its kids', how deep. -/
structure DR where
  t : X
  su : Value
  u : Value
  d : Int
def qcells (q : DR) : List Value := [.int .i64 q.t.op, .int .i64 q.t.at_, .int .i64 q.t.n, .string q.t.s, q.su, q.u, .int .i64 q.d]
def qrows (l : List DR) : List Value := l.flatMap qcells
theorem qrows_append (a b : List DR) : qrows (a ++ b) = qrows a ++ qrows b := by simp [qrows]
theorem qrows_snoc (l : List DR) (q : DR) : qrows (l ++ [q]) = qrows l ++ qcells q := by rw [qrows_append]; simp [qrows]
theorem qrows_length (l : List DR) : (qrows l).length = l.length * 7 := by
  induction l with
  | nil => rfl
  | cons t r ih => simp only [qrows, List.flatMap_cons, List.length_append, List.length_cons] at ih ⊢; rw [ih]; simp [qcells]; omega
theorem qrows_at (l : List DR) (junk : List Value) : ∀ (i : Nat) (q : DR), l[i]? = some q → ∀ j, j < 7 → (qrows l ++ junk)[i * 7 + j]? = (qcells q)[j]? := by
  induction l with
  | nil => intro i q h; simp at h
  | cons x r ih =>
    intro i q h j hj
    have e : qrows (x :: r) ++ junk = qcells x ++ (qrows r ++ junk) := by simp [qrows]
    have hl : (qcells x).length = 7 := rfl
    rw [e]
    cases i with
    | zero =>
      simp at h; subst h
      rw [List.getElem?_append_left (by omega)]; congr 1; omega
    | succ i =>
      simp at h
      rw [List.getElem?_append_right (by omega), hl]
      have := ih i q h j hj
      rw [← this]; congr 1; omega
theorem qcells_one (q : DR) (h1 : q.su.oneCell' = true) (h2 : q.u.oneCell' = true) : ∀ x ∈ qcells q, x.oneCell' = true := by
  intro x hx
  simp only [qcells, List.mem_cons, List.not_mem_nil, or_false] at hx
  rcases hx with rfl | rfl | rfl | rfl | rfl | rfl | rfl
  · rfl
  · rfl
  · rfl
  · rfl
  · exact h1
  · exact h2
  · rfl

/-- A row of parts of the call's own. -/
def OwnD (w : World) (base : Nat) (v : Value) (l : List DR) : Prop := w.ownsRow base 97 7 v l.length (qrows l)
theorem OwnD.below {w w' : World} {base : Nat} {v : Value} {l : List DR} (h : OwnD w base v l) (hb : Below w.heap.size w w') : OwnD w' base v l := own_belowX h hb
/-- What is no row of parts stays as it is. -/
def isD : Obj → Bool
  | .cells _ t _ => t == 97
  | _ => false
def NonD (w w' : World) : Prop := ∀ (g : Nat) (o : Obj), w.heap[g]? = some o → isD o = false → w'.heap[g]? = some o
theorem NonD.refl (w : World) : NonD w w := fun _ _ h _ => h
theorem NonD.trans {w w1 w2 : World} (h : NonD w w1) (h2 : NonD w1 w2) : NonD w w2 := fun g o hg hn => h2 g o (h g o hg hn) hn
theorem NonD.below {w w' : World} (hb : Below w.heap.size w w') : NonD w w' := fun g _ hg _ => (hb.block g (Array.getElem?_eq_some_iff.1 hg).1).trans hg
/-- The row's own block is one of parts. -/
theorem OwnD.block {w : World} {base : Nat} {v : Value} {l : List DR} (h : OwnD w base v l) {g : Nat} (e : v.ownBlock = some g) : base ≤ g ∧ ∃ o, w.heap[g]? = some o ∧ isD o = true := by
  rcases h.2 with ⟨rfl, _⟩ | ⟨g1, cap, cur, rfl, hbg, hgg, _⟩
  · simp [Value.ownBlock] at e
  · have e1 : g1 = g := by simpa [Value.ownBlock] using e
    subst e1
    exact ⟨hbg, _, hgg, by simp [isD]⟩
theorem NonD.grown {w w' : World} {B : Nat} {v : Value} {l : List DR} (ho : OwnD w B v l) (hg : w.grownBy w' v.ownBlock) : NonD w w' := fun g o h hn => by
  refine (hg.block g (Array.getElem?_eq_some_iff.1 h).1 ?_).trans h
  intro e
  obtain ⟨_, o', ho', hi⟩ := ho.block e.symm
  rw [h] at ho'
  injection ho' with ho'
  rw [ho', hi] at hn
  cases hn
theorem OwnD.below_grown {w w' : World} {B : Nat} {v : Value} {l : List DR} (ho : OwnD w B v l) (hB : B ≤ w.heap.size) (hg : w.grownBy w' v.ownBlock) : Below B w w' :=
  (Below.refl B w).grown hg hB (fun _ hk => (ho.block hk).1)
theorem indots_info : (Tryz.prog.info? 97).map (fun i => (i.zero, i.size, i.bytes)) = some (some (.agg #[.int .i64 0, .int .i64 0, .int .i64 0, .string ⟨#[]⟩, .slice none 0 0, .slice none 0 0, .int .i64 0]), 7, 96) := by kernel_rfl
theorem qnew (w : World) (q : DR) (t : TypeId) : ∀ ad, some (⟨w.heap.size, 0, none⟩ : Addr) = some ad → ∀ j x, (qcells q)[j]? = some x → (w.alloc (.cells #[.int .i64 q.t.op, .int .i64 q.t.at_, .int .i64 q.t.n, .string q.t.s, q.su, q.u, .int .i64 q.d] t)).cell? (ad.add j) = some x := by
  intro ad h j x hu
  obtain rfl := Option.some.inj h
  rw [Addr.add_lit, Nat.zero_add, cell_of_row _ _ _ _ _ _ (heap_alloc_new w (.cells #[.int .i64 q.t.op, .int .i64 q.t.at_, .int .i64 q.t.n, .string q.t.s, q.su, q.u, .int .i64 q.d] t))]
  match j, hu with
  | 0, hu => simpa [qcells] using hu
  | 1, hu => simpa [qcells] using hu
  | 2, hu => simpa [qcells] using hu
  | 3, hu => simpa [qcells] using hu
  | 4, hu => simpa [qcells] using hu
  | 5, hu => simpa [qcells] using hu
  | 6, hu => simpa [qcells] using hu
  | (j + 7), hu => simp [qcells] at hu
end Go.Proofs.YtlclfmjpnchmbaaGreat
