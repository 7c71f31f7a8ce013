/- A set of places: a map whose keys are pointers into plain blocks. No conditions. -/
import Derived.Test.YtbofjjjjjcolgaaDoorValP
import Derived.LaidEqlPtr
import Derived.MapKept
import Derived.Maps.OwnSet
namespace Go.Proofs.YtbofjjjjjcolgaaDoor
open Go.ChangeShapes Go.WideShapes Go.ChangeAt Go.RowKit

section
variable {P : Program} {kt te et mt : TypeId} {j : TypeInfo}

theorem run_eq_ptr_same (w : World) (a : Addr) (hp : P.underlying kt = some (.pointer te)) (hte : P.info? te = some j) : (Op.equal kt (.pointer (some a)) (.pointer (some a))).run P w = .ok true w := by
  have h : ∀ d : Nat, (Op.equalIn (d + 1) kt (.pointer (some a)) (.pointer (some a))).run P w = .ok true w := fun d => by
    simp [Op.equalIn, run_underlying hp, sizeOf, typeInfo, hte, run_sameAddr_same]
  simp [Op.equal, Op.maxDepth, h 9999]
theorem run_eq_ptr_other (w : World) {a b : Addr} (hp : P.underlying kt = some (.pointer te)) (hte : P.info? te = some j) (hsz : j.size ≠ 0) (hne : a ≠ b) (ha : PlainB w a.block) (hb : PlainB w b.block) : (Op.equal kt (.pointer (some a)) (.pointer (some b))).run P w = .ok false w := by
  obtain ⟨ca, ta, ha⟩ := ha
  obtain ⟨cb, tb, hb⟩ := hb
  have h : ∀ d : Nat, (Op.equalIn (d + 1) kt (.pointer (some a)) (.pointer (some b))).run P w = .ok false w := fun d => by
    simp [Op.equalIn, run_underlying hp, sizeOf, typeInfo, hte, hsz, run_sameAddr_other w hne ha hb]
  simp [Op.equal, Op.maxDepth, h 9999]

/-- The entries are places, each with nothing. -/
def Places (w : World) (es : List MapEntry) (A : List Addr) : Prop := (∀ x ∈ es, ∃ a ∈ A, x.key = .pointer (some a) ∧ x.val = .agg #[] ∧ PlainB w a.block) ∧ ∀ a ∈ A, ∃ x ∈ es, x.key = .pointer (some a)

theorem run_asking (w : World) (hp : P.underlying kt = some (.pointer te)) (hte : P.info? te = some j) (hsz : j.size ≠ 0) (a : Addr) (ha : PlainB w a.block) : ∀ (es : List MapEntry) (i : Nat), (∀ x ∈ es, ∃ b, x.key = .pointer (some b) ∧ x.val = .agg #[] ∧ PlainB w b.block) →
    ((Instr.findAsking kt (.pointer (some a)) es i).run P w = .ok none w ∧ ∀ x ∈ es, x.key ≠ .pointer (some a)) ∨ ∃ k, (Instr.findAsking kt (.pointer (some a)) es i).run P w = .ok (some (k, .agg #[])) w ∧ ∃ x ∈ es, x.key = .pointer (some a)
  | [], i, _ => .inl ⟨by simp [Instr.findAsking], fun x hx => by simp at hx⟩
  | e :: es, i, h => by
    obtain ⟨b, hk, hv, hb⟩ := h e (by simp)
    by_cases hab : a = b
    · subst hab
      refine .inr ⟨i, ?_, e, by simp, hk⟩
      simp [Instr.findAsking, hk, hv, run_eq_ptr_same w a hp hte, Result.andThen]
    · have hq : (Op.equal kt (.pointer (some a)) e.key).run P w = .ok false w := by rw [hk]; exact run_eq_ptr_other w hp hte hsz hab ha hb
      rcases run_asking w hp hte hsz a ha es (i + 1) (fun x hx => h x (List.mem_cons_of_mem _ hx)) with ⟨h1, h2⟩ | ⟨k, h1, x, hx, h2⟩
      · refine .inl ⟨by simp [Instr.findAsking, hq, h1, Result.andThen], fun x hx => ?_⟩
        rcases List.mem_cons.1 hx with rfl | hx
        · rw [hk]; intro e; injection e with e; injection e with e; exact hab e.symm
        · exact h2 x hx
      · exact .inr ⟨k, by simp [Instr.findAsking, hq, h1, Result.andThen], x, List.mem_cons_of_mem _ hx, h2⟩

theorem run_find_ptr (w : World) (hp : P.underlying kt = some (.pointer te)) (a : Addr) (es : List MapEntry) : (Instr.findKey kt (.pointer (some a)) es).run P w = (Instr.findAsking kt (.pointer (some a)) es).run P w := by
  cases es with
  | nil => simp [Instr.findKey, run_underlying hp, Instr.findNow, Instr.findAsking]
  | cons e es => simp [Instr.findKey, run_underlying hp, Instr.findNow, Instr.sameNow]
theorem run_check_ptr (w : World) (hp : P.underlying kt = some (.pointer te)) (a : Addr) (e : Bool) (n : Nat) : (Instr.checkKey e (n + 1) kt (.pointer (some a))).run P w = .ok () w := by
  unfold Instr.checkKey
  simp [run_underlying hp, Result.andThen]

/-- Block M is a set of places of an older world. -/
def PSet (w0 w : World) (M : Nat) (A : List Addr) : Prop := ∃ es clock, w.heap[M]? = some (.map es clock) ∧ Places w0 es.toList A
theorem PSet.same {w0 w w' : World} {M : Nat} {A : List Addr} (h : PSet w0 w M A) (hb : w'.heap[M]? = w.heap[M]?) : PSet w0 w' M A := by
  obtain ⟨es, clock, h1, h2⟩ := h
  exact ⟨es, clock, hb.trans h1, h2⟩
theorem PSet.lt {w0 w : World} {M : Nat} {A : List Addr} (h : PSet w0 w M A) : M < w.heap.size := by
  obtain ⟨es, clock, h1, _⟩ := h
  exact (Array.getElem?_eq_some_iff.1 h1).1
theorem PSet.below {w0 w w' : World} {M : Nat} {A : List Addr} (h : PSet w0 w M A) (hb : Below w.heap.size w w') : PSet w0 w' M A := h.same (hb.block M h.lt)
theorem PSet.made (w0 w : World) : PSet w0 (w.alloc (.map #[] 0)) w.heap.size [] := ⟨#[], 0, heap_alloc_new w _, ⟨fun x hx => by simp at hx, fun a ha => by simp at ha⟩⟩
theorem PSet.noRow {w0 w : World} {M g : Nat} {A : List Addr} (h : PSet w0 w M A) {cs : Array Value} {ty : TypeId} {fr : Nat × Nat} (hg : w.heap[g]? = some (.cells cs ty fr)) : g ≠ M := by
  obtain ⟨es, clock, h1, _⟩ := h
  intro e
  subst e
  rw [h1] at hg
  cases hg

theorem PSet.lookup {w0 w : World} {M : Nat} {A : List Addr} (h : PSet w0 w M A) (hbl : Below w0.heap.size w0 w) (hm : P.underlying mt = some (.map kt et)) (hp : P.underlying kt = some (.pointer te)) (hte : P.info? te = some j) (hsz : j.size ≠ 0) (hz : (zeroValue et).run P w = .ok (.agg #[]) w) (a : Addr) (ha : PlainB w0 a.block) :
    ((Instr.lookup mt (.map (some M)) (.pointer (some a)) true).run P w = .ok (.tuple #[.agg #[], .bool true]) w ∧ a ∈ A) ∨ ((Instr.lookup mt (.map (some M)) (.pointer (some a)) true).run P w = .ok (.tuple #[.agg #[], .bool false]) w ∧ a ∉ A) := by
  obtain ⟨es, clock, h1, h2⟩ := h
  have hg := MapKept.run_getObj_map (P := P) h1
  rcases run_asking w hp hte hsz a (ha.below hbl) es.toList 0 (fun x hx => by obtain ⟨b, _, q1, q2, q3⟩ := h2.1 x hx; exact ⟨b, q1, q2, q3.below hbl⟩) with ⟨q1, q2⟩ | ⟨k, q1, x, hx, q2⟩
  · refine .inr ⟨?_, fun hA => ?_⟩
    · simp [Instr.lookup, run_underlying hm, hg, run_check_ptr w hp, run_find_ptr w hp, q1, hz, Result.andThen]
    · obtain ⟨x, hx, q3⟩ := h2.2 a hA
      exact q2 x hx q3
  · refine .inl ⟨?_, ?_⟩
    · simp [Instr.lookup, run_underlying hm, hg, run_check_ptr w hp, run_find_ptr w hp, q1, Result.andThen]
    · obtain ⟨b, hb, q3, _, _⟩ := h2.1 x hx
      rw [q2] at q3
      injection q3 with q3
      injection q3 with q3
      rw [q3]; exact hb

theorem PSet.update {w0 w : World} {M : Nat} {A : List Addr} (h : PSet w0 w M A) (hbl : Below w0.heap.size w0 w) (hm : P.underlying mt = some (.map kt et)) (hp : P.underlying kt = some (.pointer te)) (hte : P.info? te = some j) (hsz : j.size ≠ 0) (a : Addr) (ha : PlainB w0 a.block) (hA : a ∉ A) :
    ∃ w', (Instr.mapUpdate mt (.map (some M)) (.pointer (some a)) (.agg #[])).run P w = .ok () w' ∧ PSet w0 w' M (A ++ [a]) ∧ w.grownBy w' (some M) := by
  obtain ⟨es, clock, h1, h2⟩ := h
  have hg := MapKept.run_getObj_map (P := P) h1
  rcases run_asking w hp hte hsz a (ha.below hbl) es.toList 0 (fun x hx => by obtain ⟨b, _, q1, q2, q3⟩ := h2.1 x hx; exact ⟨b, q1, q2, q3.below hbl⟩) with ⟨q1, q2⟩ | ⟨k, q1, x, hx, q2⟩
  · have hset := MapKept.run_setObj_map (P := P) (.map (es.push { key := .pointer (some a), val := .agg #[], born := clock }) (clock + 1)) h1
    obtain ⟨s1, s2⟩ := MapKept.heap_set (o' := .map (es.push { key := .pointer (some a), val := .agg #[], born := clock }) (clock + 1)) h1
    refine ⟨{ w with heap := w.heap.setIfInBounds M (.map (es.push { key := .pointer (some a), val := .agg #[], born := clock }) (clock + 1)) }, ?_, ⟨_, _, s1, ?_⟩, ?_⟩
    · simp [Instr.mapUpdate, run_underlying hm, hg, run_check_ptr w hp, run_find_ptr w hp, q1, hset, Result.andThen]
    · constructor
      · intro x hx
        simp only [Array.toList_push, List.mem_append, List.mem_singleton] at hx
        rcases hx with hx | rfl
        · obtain ⟨b, hb, r1, r2, r3⟩ := h2.1 x hx
          exact ⟨b, List.mem_append_left _ hb, r1, r2, r3⟩
        · exact ⟨a, by simp, rfl, rfl, ha⟩
      · intro b hb
        rcases List.mem_append.1 hb with hb | hb
        · obtain ⟨x, hx, r1⟩ := h2.2 b hb
          exact ⟨x, by simp [hx], r1⟩
        · simp only [List.mem_singleton] at hb
          subst hb
          exact ⟨{ key := .pointer (some b), val := .agg #[], born := clock }, by simp, rfl⟩
    · exact ⟨rfl, rfl, rfl, by simp, fun k hk hne => s2 k (fun e => hne (by rw [e]))⟩
  · obtain ⟨b, hb, q3, _, _⟩ := h2.1 x hx
    rw [q2] at q3
    injection q3 with q3
    injection q3 with q3
    exact absurd (q3 ▸ hb) hA

theorem wpList_lookup_set (w : World) {ops : Array Oper} {rest : List Oper} {o : Oper} {a : Act} {Q : Exit → Act → World → Prop} (hg : o.guard = none) (m x : Operand) (hop : o.op = Op.lookup mt m x true) {w0 : World} {M : Nat} {A : List Addr} (h : PSet w0 w M A) (hbl : Below w0.heap.size w0 w)
    (hm : P.underlying mt = some (.map kt et)) (hp : P.underlying kt = some (.pointer te)) (hte : P.info? te = some j) (hsz : j.size ≠ 0) (hz : (zeroValue et).run P w = .ok (.agg #[]) w) (q : Addr) (hM : a.eval m = .map (some M)) (hx : a.eval x = .pointer (some q)) (hq : PlainB w0 q.block)
    (B : Bool) (hB : B = true ↔ q ∈ A) (hK : wpList P ops Q rest (a.put o.dst (.tuple #[.agg #[], .bool B])) w) : wpList P ops Q (o :: rest) a w := by
  refine wpList_plain hg fun K' hK' => ?_
  rcases h.lookup hbl hm hp hte hsz hz q hq with ⟨hrun, hA⟩ | ⟨hrun, hA⟩
  · obtain rfl : B = true := hB.2 hA
    unfold Oper.wp
    simp [execOp, hop, hM, hx, hrun, Result.andThen]
    exact hK' _ _ hK
  · obtain rfl : B = false := by cases B with | false => rfl | true => exact absurd (hB.1 rfl) hA
    unfold Oper.wp
    simp [execOp, hop, hM, hx, hrun, Result.andThen]
    exact hK' _ _ hK
theorem wpList_update_set (w : World) {ops : Array Oper} {rest : List Oper} {o : Oper} {a : Act} {Q : Exit → Act → World → Prop} (hg : o.guard = none) (m x v : Operand) (hop : o.op = Op.mapUpdate mt m x v) {w0 : World} {M : Nat} {A : List Addr} (h : PSet w0 w M A) (hbl : Below w0.heap.size w0 w)
    (hm : P.underlying mt = some (.map kt et)) (hp : P.underlying kt = some (.pointer te)) (hte : P.info? te = some j) (hsz : j.size ≠ 0) (q : Addr) (hM : a.eval m = .map (some M)) (hx : a.eval x = .pointer (some q)) (hv : a.eval v = .agg #[]) (hq : PlainB w0 q.block) (hA : q ∉ A)
    (hK : ∀ w', PSet w0 w' M (A ++ [q]) → w.grownBy w' (some M) → wpList P ops Q rest (a.put o.dst undef) w') : wpList P ops Q (o :: rest) a w := by
  refine wpList_plain hg fun K' hK' => ?_
  obtain ⟨w', hrun, r1, r2⟩ := h.update hbl hm hp hte hsz q hq hA
  unfold Oper.wp
  simp [execOp, hop, hM, hx, hv, hrun, Result.andThen]
  exact hK' _ _ (hK w' r1 r2)
end
end Go.Proofs.YtbofjjjjjcolgaaDoor
