/- Rows of Gots of one's own, all new: one more, and two joined. No conditions but those of the library's own law on append. -/
import Derived.Test.YtlclfmjpnchmbaaGreatZG31EachRow
import Derived.Test.YtlclfmjpnchmbaaGreatZG13ImplKids
import Derived.Test.YtlclfmjpnchmbaaGreatZG1StxOwn
import Derived.Test.YtlclfmjpnchmbaaGreatZG24StepCall
import Derived.Maps.AppendAt
namespace Go.Proofs.YtlclfmjpnchmbaaGreat
open Go.ChangeShapes Go.WideShapes Go.ChangeAt Go.RowKit

/-- A row of one's own, all its blocks from B on. -/
def GN (w : World) (B : Nat) (v : Value) (L : List G) : Prop := ∃ l SS, GRow w B v L l SS ∧ ∀ k ∈ blG v SS, B ≤ k
theorem GRow.base {w : World} {B B' : Nat} {v : Value} {L : List G} {l : List GR} {SS : List (List Nat)} (h : GRow w B v L l SS) (hB : ∀ g, v.ownBlock = some g → B' ≤ g) : GRow w B' v L l SS := ⟨own_base h.row hB, h.len, h.blocks, h.each, h.own⟩
theorem GN.mono {w : World} {B B' : Nat} {v : Value} {L : List G} (h : GN w B v L) (hB : B' ≤ B) : GN w B' v L := by
  obtain ⟨l, SS, h1, h2⟩ := h
  exact ⟨l, SS, h1.base (fun g hg => Nat.le_trans hB (h2 g (List.mem_append_left _ (mem_own hg)))), fun k hk => Nat.le_trans hB (h2 k hk)⟩
theorem GN.same {w w' : World} {B : Nat} {v : Value} {L : List G} (h : GN w B v L) (hs : ∀ k, B ≤ k → k < w.heap.size → w'.heap[k]? = w.heap[k]?) : GN w' B v L := by
  obtain ⟨l, SS, h1, h2⟩ := h
  exact ⟨l, SS, h1.same (fun x hx => hs x (h2 x hx) (h1.lt x hx)), h2⟩
theorem GN.below {w w' : World} {B : Nat} {v : Value} {L : List G} (h : GN w B v L) (hb : Below w.heap.size w w') : GN w' B v L := h.same (fun k _ hk => hb.block k hk)
theorem GN.empty {w : World} {B g : Nat} (h : w.heap[g]? = some (.cells #[] 48)) (hB : B ≤ g) : GN w B (.slice (some ⟨g, 0, none⟩) 0 0) [] := by
  refine ⟨[], [], ⟨⟨rfl, .inr ⟨g, 0, #[], rfl, hB, h, Nat.le_refl _, by simp [maxLen], rfl, rfl⟩⟩, rfl, rfl, fun i hi => absurd hi (Nat.not_lt_zero _), by simp [Value.ownBlock]⟩, fun k hk => ?_⟩
  simp [blG, Value.ownBlock] at hk
  omega
theorem GRow.one {w : World} {B : Nat} {v : Value} {L : List G} {l : List GR} {SS : List (List Nat)} (h : GRow w B v L l SS) : ∀ u ∈ grows l, u.oneCell' = true := by
  intro u hu
  obtain ⟨q, hq, hu⟩ := List.mem_flatMap.1 hu
  obtain ⟨i, hi, rfl⟩ := List.mem_iff_getElem.1 hq
  obtain ⟨a, b, c, T, k1, k2, k3⟩ := h.each i (by have := h.len; omega)
  rw [List.getElem?_eq_getElem hi] at k1
  injection k1 with k1
  rw [k1] at hu
  obtain ⟨⟨p1, c1, e1⟩, ⟨p2, c2, e2⟩, ⟨p3, c3, e3⟩⟩ := k3.shape
  exact gcells_one _ (by rw [e1]; rfl) (by rw [e2]; rfl) (by rw [e3]; rfl) u hu
/-- Where a row lies that was appended to, be it to nothing. -/
theorem append_where2 {P : Program} (w : World) (base : Nat) (t ty e : TypeId) (i : TypeInfo) (z : Value) (size bytes : Nat) (ht : P.underlying t = some (.slice e)) (hi : P.info? e = some i) (hz : i.zero = some z)
    (hsize : i.size = size) (hby : i.bytes = bytes)
    (v : Value) (n : Nat) (xs : List Value) (hown : w.ownsRow base e size v n xs) (hv : v.ownBlock ≠ none)
    (a : Addr) (m c : Nat) (news : List Value) (hl : news.length = m * size) (hnews : ∀ j u, news[j]? = some u → w.cell? (a.add j) = some u) (h1 : ∀ u ∈ news, u.oneCell' = true)
    (h63 : n + m ≤ maxLen) (hbytes : (n + m) * bytes ≤ 140737488355328) (v' : Value) (w' : World) (hrun : (Builtin.append_ #[t, t] ty #[v, .slice (some a) m c]).run P w = .ok v' w') :
    v'.ownBlock = v.ownBlock ∨ v'.ownBlock = some w.heap.size := by
  subst hsize hby
  have hsmall : n + m ≤ 9223372036854775807 := by simp only [maxLen] at h63; omega
  rcases hown.2 with ⟨rfl, rfl⟩ | ⟨g, cap, cur, rfl, hbg, hg, hnc, hcm, hcs, htake⟩
  · exact absurd rfl hv
  · by_cases hroom : n + m ≤ cap
    · have hr := run_append_room (P := P) w t ty e i ht hi g n cap cur hg a m c news hl hnews h1 hroom (by rw [hl, hcs, ← Nat.add_mul]; exact Nat.mul_le_mul_right _ hroom)
      rw [hr] at hrun
      injection hrun with e1 _
      exact .inl (by rw [← e1]; rfl)
    · have hr := run_append_grow (P := P) w t ty e i z ht hi hz ⟨g, 0, none⟩ n cap xs hown.1 (hown.cells (g := g) rfl) a m c news hl hnews (by omega) (by omega) (growslice_fits (by omega) hbytes)
      rw [hr] at hrun
      injection hrun with e1 _
      exact .inr (by rw [← e1]; rfl)
theorem wpList_append_at2 {P : Program} (w : World) {ops : Array Oper} {rest : List Oper} {o : Oper} {a : Act} {Q : Exit → Act → World → Prop} (hgd : o.guard = none) (s x : Operand) (t : TypeId)
    (ho : o.op = .call { callee := .builtin .append, args := #[s, x], argTypes := #[t, t] })
    (base : Nat) (e : TypeId) (i : TypeInfo) (z : Value) (size bytes : Nat) (ht : P.underlying t = some (.slice e)) (hi : P.info? e = some i) (hz : i.zero = some z)
    (hsize : i.size = size) (hby : i.bytes = bytes) (hzs : z.cells.size = size) (hsz : 0 < size)
    (v : Value) (n : Nat) (xs : List Value) (hs : a.eval s = v) (hown : w.ownsRow base e size v n xs) (hv : v.ownBlock ≠ none)
    (ao : Option Addr) (m c : Nat) (news : List Value) (hx : a.eval x = .slice ao m c) (hl : news.length = m * size) (hnone : ao = none → m = 0 ∧ c = 0) (hnews : ∀ ad, ao = some ad → ∀ j u, news[j]? = some u → w.cell? (ad.add j) = some u) (h1 : ∀ u ∈ news, u.oneCell' = true)
    (h63 : n + m ≤ maxLen) (hbytes : (n + m) * bytes ≤ 140737488355328) (hbase : base ≤ w.heap.size)
    (h : ∀ v' w', Hid (w'.ownsRow base e size v' (n + m) (xs ++ news)) → Hid (w.grownBy w' v.ownBlock) → Hid (v'.ownBlock = v.ownBlock ∨ v'.ownBlock = some w.heap.size) → wpList P ops Q rest (a.put o.dst v') w') : wpList P ops Q (o :: rest) a w := by
  cases ao with
  | some ad =>
    obtain ⟨v', w', hr, h2, h3, _⟩ := run_append_own (P := P) w base t o.type e i z size bytes ht hi hz hsize hby hzs hsz v n xs hown ad m c news hl (hnews ad rfl) h1 h63 hbytes hbase
    have r4 := append_where2 (P := P) w base t o.type e i z size bytes ht hi hz hsize hby v n xs hown hv ad m c news hl (hnews ad rfl) h1 h63 hbytes v' w' hr
    refine wpList_plain hgd fun K hK => ?_
    unfold Oper.wp execOp
    simp only [ho, resolve, invoke, builtin, Sem.run_bind, Sem.run_pure, Result.andThen_ok, List.map_toArray, List.map_cons, List.map_nil, hs, hx, hr]
    exact hK _ _ (h v' w' h2 h3 r4)
  | none =>
    obtain ⟨rfl, rfl⟩ := hnone rfl
    have hn : news = [] := List.eq_nil_of_length_eq_zero (by simpa using hl)
    subst hn
    refine wpList_append_own_none hgd s x t ho base e i size ht hi v n xs hs hown hx ?_
    have h1 : w.ownsRow base e size v (n + 0) (xs ++ []) := by simpa using hown
    exact h v w h1 (World.grownBy.refl w v.ownBlock) (.inl rfl)
/-- One more. -/
theorem GRow.pushed {w w1 w2 : World} {B : Nat} {v v' : Value} {L : List G} {l : List GR} {SS : List (List Nat)} (h : GRow w B v L l SS) (hB : ∀ k ∈ blG v SS, B ≤ k) {g : G} {a b c : Value} {T : List Nat} (hb : Below w.heap.size w w1) (hg : GOwn w1 g a b c T) (hT : T.Nodup) (hTn : ∀ k ∈ T, w.heap.size ≤ k) (hBw : B ≤ w.heap.size)
    (r1 : w2.ownsRow B 48 9 v' (L.length + 1) (grows l ++ gcells ⟨g, a, b, c⟩)) (r2 : w1.grownBy w2 v.ownBlock) (r3 : v'.ownBlock = v.ownBlock ∨ v'.ownBlock = some w1.heap.size) : GN w2 B v' (L ++ [g]) ∧ Below B w w2 := by
  have hv : ∀ k, v.ownBlock = some k → k ∈ blG v SS := fun k hk => List.mem_append_left _ (mem_own hk)
  have hlt : ∀ k ∈ blG v SS, k < w.heap.size := fun k hk => h.lt k hk
  have hnd := h.own
  rw [List.nodup_append] at hnd
  have hs : ∀ k, k < w1.heap.size → v.ownBlock ≠ some k → w2.heap[k]? = w1.heap[k]? := fun k hk hne => r2.block k hk (fun e => hne e.symm)
  have hin : ∀ k, k ∈ SS.flatten → k ∈ blG v SS := fun k hk => List.mem_append_right _ hk
  have hv' : ∀ k, v'.ownBlock = some k → k ∉ SS.flatten ∧ k ∉ T ∧ B ≤ k := fun k hk => by
    rcases r3 with r3 | r3
    · rw [r3] at hk
      exact ⟨fun hm => hnd.2.2 k (mem_own hk) k hm rfl, fun hm => by have := hTn k hm; have := hlt k (hv k hk); omega, hB k (hv k hk)⟩
    · rw [r3] at hk
      injection hk with hk
      have := hb.size
      exact ⟨fun hm => by have := hlt k (hin k hm); omega, fun hm => by have := hg.there _ k hm; omega, by omega⟩
  refine ⟨⟨l ++ [⟨g, a, b, c⟩], SS ++ [T], h.push r1 (hg.same _ (fun k hk => hs k (hg.there _ k hk) (fun e => by have := hTn k hk; have := hlt k (hv k e); omega))) (fun k hk => (hs k (Nat.lt_of_lt_of_le (hlt k (hin k hk)) hb.size) (fun e => hnd.2.2 k (mem_own e) k hk rfl)).trans (hb.block k (hlt k (hin k hk)))) ?_, fun k hk => ?_⟩, ?_⟩
  · rw [List.flatten_append, List.flatten_singleton, List.nodup_append, List.nodup_append]
    refine ⟨?_, ⟨hnd.2.1, hT, fun x hx y hy e => by have := hlt x (hin x hx); have := hTn y hy; omega⟩, fun x hx y hy e => ?_⟩
    · cases v'.ownBlock <;> simp
    · have hx' : v'.ownBlock = some x := by simpa using hx
      have := hv' x hx'
      subst e
      rcases List.mem_append.1 hy with hy | hy
      · exact this.1 hy
      · exact this.2.1 hy
  · rcases List.mem_append.1 hk with hk | hk
    · have hx' : v'.ownBlock = some k := by simpa using hk
      exact (hv' k hx').2.2
    · rw [List.flatten_append, List.flatten_singleton] at hk
      rcases List.mem_append.1 hk with hk | hk
      · exact hB k (hin k hk)
      · exact Nat.le_trans hBw (hTn k hk)
  · refine ⟨r2.os.trans hb.os, r2.tape.trans hb.tape, r2.output.trans hb.output, Nat.le_trans hb.size r2.size, fun k hk => ?_⟩
    exact (hs k (by have := hb.size; omega) (fun e => by have := hB k (hv k e); omega)).trans (hb.block k (by omega))
/-- Two rows joined. -/
theorem GRow.joined {w w1 w2 : World} {B B1 : Nat} {v v1 v' : Value} {L L1 : List G} {l l1 : List GR} {SS SS1 : List (List Nat)} (h : GRow w B v L l SS) (hB : ∀ k ∈ blG v SS, B ≤ k) (hb : Below w.heap.size w w1) (h1 : GRow w1 B1 v1 L1 l1 SS1) (hT : ∀ k ∈ blG v1 SS1, w.heap.size ≤ k) (hBw : B ≤ w.heap.size)
    (r1 : w2.ownsRow B 48 9 v' (L.length + L1.length) (grows l ++ grows l1)) (r2 : w1.grownBy w2 v.ownBlock) (r3 : v'.ownBlock = v.ownBlock ∨ v'.ownBlock = some w1.heap.size) : GN w2 B v' (L ++ L1) ∧ Below B w w2 := by
  have hv : ∀ k, v.ownBlock = some k → k ∈ blG v SS := fun k hk => List.mem_append_left _ (mem_own hk)
  have hlt : ∀ k ∈ blG v SS, k < w.heap.size := fun k hk => h.lt k hk
  have hlt1 : ∀ k ∈ SS1.flatten, k < w1.heap.size := fun k hk => h1.lt k (List.mem_append_right _ hk)
  have hTn : ∀ k ∈ SS1.flatten, w.heap.size ≤ k := fun k hk => hT k (List.mem_append_right _ hk)
  have hnd := h.own
  rw [List.nodup_append] at hnd
  have hnd1 := h1.own
  rw [List.nodup_append] at hnd1
  have hs : ∀ k, k < w1.heap.size → v.ownBlock ≠ some k → w2.heap[k]? = w1.heap[k]? := fun k hk hne => r2.block k hk (fun e => hne e.symm)
  have hin : ∀ k, k ∈ SS.flatten → k ∈ blG v SS := fun k hk => List.mem_append_right _ hk
  have hv' : ∀ k, v'.ownBlock = some k → k ∉ SS.flatten ∧ k ∉ SS1.flatten ∧ B ≤ k := fun k hk => by
    rcases r3 with r3 | r3
    · rw [r3] at hk
      exact ⟨fun hm => hnd.2.2 k (mem_own hk) k hm rfl, fun hm => by have := hTn k hm; have := hlt k (hv k hk); omega, hB k (hv k hk)⟩
    · rw [r3] at hk
      injection hk with hk
      have := hb.size
      exact ⟨fun hm => by have := hlt k (hin k hm); omega, fun hm => by have := hlt1 k hm; omega, by omega⟩
  have ks : ∀ k ∈ SS.flatten, w2.heap[k]? = w.heap[k]? := fun k hk => (hs k (Nat.lt_of_lt_of_le (hlt k (hin k hk)) hb.size) (fun e => hnd.2.2 k (mem_own e) k hk rfl)).trans (hb.block k (hlt k (hin k hk)))
  have ks1 : ∀ k ∈ SS1.flatten, w2.heap[k]? = w1.heap[k]? := fun k hk => hs k (hlt1 k hk) (fun e => by have := hTn k hk; have := hlt k (hv k e); omega)
  refine ⟨⟨l ++ l1, SS ++ SS1, ⟨by rw [List.length_append, grows_append]; exact r1, by simp [h.len, h1.len], by simp [h.blocks, h1.blocks], fun i hi => ?_, ?_⟩, fun k hk => ?_⟩, ?_⟩
  · rw [List.length_append] at hi
    rcases Nat.lt_or_ge i L.length with h0 | h0
    · obtain ⟨a', b', c', T', k1, k2, k3⟩ := h.each i h0
      have e : (L ++ L1).getD i .no = L.getD i .no := by simp [List.getD_eq_getElem?_getD, List.getElem?_append_left h0]
      rw [e]
      exact ⟨a', b', c', T', by rw [List.getElem?_append_left (by rw [h.len]; omega)]; exact k1, by rw [List.getElem?_append_left (by rw [h.blocks]; omega)]; exact k2, k3.same _ (fun x hx => ks x (mem_flatX k2 hx))⟩
    · obtain ⟨a', b', c', T', k1, k2, k3⟩ := h1.each (i - L.length) (by omega)
      have e : (L ++ L1).getD i .no = L1.getD (i - L.length) .no := by simp [List.getD_eq_getElem?_getD, List.getElem?_append_right h0]
      rw [e]
      exact ⟨a', b', c', T', by rw [List.getElem?_append_right (by rw [h.len]; omega), h.len]; exact k1, by rw [List.getElem?_append_right (by rw [h.blocks]; omega), h.blocks]; exact k2, k3.same _ (fun x hx => ks1 x (mem_flatX k2 hx))⟩
  · rw [List.flatten_append, List.nodup_append, List.nodup_append]
    refine ⟨?_, ⟨hnd.2.1, hnd1.2.1, fun x hx y hy e => by have := hlt x (hin x hx); have := hTn y hy; omega⟩, fun x hx y hy e => ?_⟩
    · cases v'.ownBlock <;> simp
    · have hx' : v'.ownBlock = some x := by simpa using hx
      have := hv' x hx'
      subst e
      rcases List.mem_append.1 hy with hy | hy
      · exact this.1 hy
      · exact this.2.1 hy
  · rcases List.mem_append.1 hk with hk | hk
    · have hx' : v'.ownBlock = some k := by simpa using hk
      exact (hv' k hx').2.2
    · rw [List.flatten_append] at hk
      rcases List.mem_append.1 hk with hk | hk
      · exact hB k (hin k hk)
      · exact Nat.le_trans hBw (hTn k hk)
  · refine ⟨r2.os.trans hb.os, r2.tape.trans hb.tape, r2.output.trans hb.output, Nat.le_trans hb.size r2.size, fun k hk => ?_⟩
    exact (hs k (by have := hb.size; omega) (fun e => by have := hB k (hv k e); omega)).trans (hb.block k (by omega))
/-- A row's cells as what is to be appended. -/
theorem row_src {w : World} {base e size n : Nat} {v : Value} {xs : List Value} (h : w.ownsRow base e size v n xs) : ∃ ao c, v = .slice ao n c ∧ (ao = none → n = 0 ∧ c = 0) ∧ ∀ ad, ao = some ad → ∀ j u, xs[j]? = some u → w.cell? (ad.add j) = some u := by
  rcases h.2 with ⟨rfl, rfl⟩ | ⟨g, cap, cur, rfl, hbg, hg, hnc, hcm, hcs, htake⟩
  · exact ⟨none, 0, rfl, fun _ => ⟨rfl, rfl⟩, fun ad h => by cases h⟩
  · refine ⟨some ⟨g, 0, none⟩, cap, rfl, fun h => (by cases h), fun ad had j u hu => ?_⟩
    injection had with had
    subst had
    have hj : j < n * size := by rw [← h.1]; exact (List.getElem?_eq_some_iff.1 hu).1
    have := h.cellAt j hj
    rw [show (Addr.add ⟨g, 0, none⟩ j : Addr) = ⟨g, j, none⟩ by (simp [Addr.add]; intro h; exact h.symm), this]
    exact hu
end Go.Proofs.YtlclfmjpnchmbaaGreat

/- A node whose kids are appended: how the loop begins. No conditions. -/
namespace Go.Proofs.YtlclfmjpnchmbaaGreat
open Go.ChangeShapes Go.WideShapes Go.ChangeAt Go.RowKit

/-- The three blocks when the loop begins, the set's none. -/
theorem stx_start (w : World) (oA : Obj) (op a n : Int) (s : ByteArray) (kid : Nat → X) :
    XLoop [] w (((w.alloc oA).alloc (.cells #[.int .i64 0, .int .i64 0, .int .i64 0, .string ⟨#[]⟩, .slice none 0 0, .slice none 0 0] 32)).alloc (.cells #[.int .i64 op, .int .i64 a, .int .i64 n, .string s, .slice none 0 0, .slice none 0 0] 32)) (w.heap.size + 3) w.heap.size (w.heap.size + 1) (w.heap.size + 1 + 1) oA op a n s [] (.slice none 0 0) kid 0 (.slice none 0 0) [] [] := by
  obtain ⟨h1, h2, h3, h4, h5⟩ := threeX (Below.refl (((w.alloc oA).alloc (.cells #[.int .i64 0, .int .i64 0, .int .i64 0, .string ⟨#[]⟩, .slice none 0 0, .slice none 0 0] 32)).alloc (.cells #[.int .i64 op, .int .i64 a, .int .i64 n, .string s, .slice none 0 0, .slice none 0 0] 32)).heap.size _)
  exact ⟨Fr.below h5 _, h4, ⟨by simp, by omega, by omega, by omega, by omega, by omega, by omega, by omega, by omega⟩, h1, h2, h3, ⟨⟨rfl, .inl ⟨rfl, rfl⟩⟩, fun g h => by simp [Value.ownBlock] at h⟩, XBuild.nil _ _ _⟩

/-- .. and where the set was made. -/
theorem XLoop.setIn {w W w2 : World} {C R O : Nat} {oA : Obj} {op a n : Int} {s : ByteArray} {kid : Nat → X} {sv : Value} {xs : List Int} (h : XLoop [] w W W.heap.size C R O oA op a n s [] (.slice none 0 0) kid 0 (.slice none 0 0) [] []) (hb : Below W.heap.size W w2) (hs : Own w2 W.heap.size sv xs) :
    XLoop [] w (w2.setCell ⟨O, 4, none⟩ sv) w2.heap.size C R O oA op a n s xs sv kid 0 (.slice none 0 0) [] [] := by
  obtain ⟨o0, o1, o2, o3, o4, o5, o6, o7, o8⟩ := h.ord
  have hbs := hb.size
  have hws := h.bel.size
  have hset : ∀ x, x ≠ O → (w2.setCell ⟨O, 4, none⟩ sv).heap[x]? = w2.heap[x]? := fun x hx => Below.heap_setCell w2 ⟨O, 4, none⟩ _ x hx
  refine ⟨(h.bel.trans (Fr.below hb [])).setCell _ _ (by exact o3), by simp, ⟨o0, o1, o2, o3, by omega, by omega, by omega, o7, o8⟩, (hset C o7).trans ((hb.block C o4).trans h.arg), (hset R o8).trans ((hb.block R o5).trans h.res), (h.out.below hb).set4 sv, ⟨(hs.mono (Nat.zero_le _)).sameX (fun x hx => hset x ?_), fun g hg => ?_⟩, XBuild.nil _ _ _⟩
  · have := (World.ownsRow.lt hs x hx).1; omega
  · have := World.ownsRow.lt hs g hg; omega
theorem XLoop.from {cs : List Nat} {w wr : World} {B B' C R O : Nat} {oA : Obj} {op a n : Int} {s : ByteArray} {set : List Int} {sv : Value} {kid : Nat → X} (h : XLoop cs w wr B C R O oA op a n s set sv kid 0 (.slice none 0 0) [] []) (hB : B ≤ B') (hs : B' ≤ wr.heap.size) : XLoop cs w wr B' C R O oA op a n s set sv kid 0 (.slice none 0 0) [] [] :=
  ⟨h.bel, hs, ⟨h.ord.1, h.ord.2.1, h.ord.2.2.1, h.ord.2.2.2.1, by have := h.ord.2.2.2.2.1; omega, by have := h.ord.2.2.2.2.2.1; omega, by have := h.ord.2.2.2.2.2.2.1; omega, h.ord.2.2.2.2.2.2.2⟩, h.arg, h.res, h.out, ⟨h.sets.1, fun g hg => by have := h.sets.2 g hg; omega⟩, XBuild.nil _ _ _⟩

/-- The set is made anew. -/
theorem XLoop.turnIn {w W w2 : World} {C R O : Nat} {oA : Obj} {op a n : Int} {s : ByteArray} {kid : Nat → X} {sv sv' : Value} {xs ys : List Int} (h : XLoop [] w W W.heap.size C R O oA op a n s xs sv kid 0 (.slice none 0 0) [] []) (hb : Below W.heap.size W w2) (hs : Own w2 W.heap.size sv' ys) :
    XLoop [] w (w2.setCell ⟨O, 4, none⟩ sv') w2.heap.size C R O oA op a n s ys sv' kid 0 (.slice none 0 0) [] [] := by
  obtain ⟨o0, o1, o2, o3, o4, o5, o6, o7, o8⟩ := h.ord
  have hbs := hb.size
  have hws := h.bel.size
  have hset : ∀ x, x ≠ O → (w2.setCell ⟨O, 4, none⟩ sv').heap[x]? = w2.heap[x]? := fun x hx => Below.heap_setCell w2 ⟨O, 4, none⟩ _ x hx
  refine ⟨(h.bel.trans (Fr.below hb [])).setCell _ _ (by exact o3), by simp, ⟨o0, o1, o2, o3, by omega, by omega, by omega, o7, o8⟩, (hset C o7).trans ((hb.block C o4).trans h.arg), (hset R o8).trans ((hb.block R o5).trans h.res), (h.out.below hb).set4 sv', ⟨(hs.mono (Nat.zero_le _)).sameX (fun x hx => hset x ?_), fun g hg => ?_⟩, XBuild.nil _ _ _⟩
  · have := (World.ownsRow.lt hs x hx).1; omega
  · have := World.ownsRow.lt hs g hg; omega

theorem own_shape {w : World} {base : Nat} {v : Value} {xs : List Int} (h : Own w base v xs) : ∃ p c, v = .slice p xs.length c := (h.setB (Nat.zero_le _)).shape

/-- The set is appended to an empty list. -/
theorem set_grown {w W w2 : World} {C R O gS : Nat} {oA : Obj} {op a n : Int} {s : ByteArray} {kid : Nat → X} {v : Value} {xs : List Int} (h : XLoop [] w W (w.heap.size + 3) C R O oA op a n s [] (.slice none 0 0) kid 0 (.slice none 0 0) [] []) (hW : W.heap.size = w.heap.size + 3) (hS : gS = w.heap.size + 1 + 1 + 1)
    (hown : w2.ownsRow (w.heap.size + 3) 3 1 v (0 + xs.length) ([] ++ xs.map (Value.int .i64))) (hg : (W.alloc (.cells #[] 3)).grownBy w2 (Value.slice (some ⟨gS, 0, none⟩) 0 0).ownBlock) :
    XLoop [] w (w2.setCell ⟨O, 4, none⟩ v) w2.heap.size C R O oA op a n s xs v kid 0 (.slice none 0 0) [] [] ∧ Six w2 O op a n s (.slice none 0 0) (.slice none 0 0) 32 ∧ ∃ p c, v = .slice p xs.length c := by
  have ho : Own w2 (w.heap.size + 3) v xs := by
    have h1 := hown
    rw [Nat.zero_add, List.nil_append] at h1
    exact h1
  have hb : Below W.heap.size W w2 := by
    have h1 := hg.size
    have h2 : (W.alloc (.cells #[] 3)).heap.size = W.heap.size + 1 := by simp
    exact (newx W (.cells #[] 3)).trans ⟨hg.os, hg.tape, hg.output, by omega, fun x hx => hg.block x (by omega) (by simp only [Value.ownBlock]; intro e; injection e with e; omega)⟩
  have h0 : XLoop [] w W W.heap.size C R O oA op a n s [] (.slice none 0 0) kid 0 (.slice none 0 0) [] [] := h.from (by omega) (by omega)
  exact ⟨h0.setIn hb (by rw [hW]; exact ho), h.out.below hb, own_shape ho⟩

/-- The node's block is laid behind its set. -/
theorem start_alloc {w w3 : World} {oA : Obj} {op a n : Int} {s : ByteArray} {sv : Value} {xs : List Int} (kid : Nat → X) (hb : Below ((w.alloc oA).alloc (.cells #[.int .i64 0, .int .i64 0, .int .i64 0, .string ⟨#[]⟩, .slice none 0 0, .slice none 0 0] 32)).heap.size ((w.alloc oA).alloc (.cells #[.int .i64 0, .int .i64 0, .int .i64 0, .string ⟨#[]⟩, .slice none 0 0, .slice none 0 0] 32)) w3) (hs : Own w3 (w.heap.size + 2) sv xs) :
    XLoop [] w (w3.alloc (.cells #[.int .i64 op, .int .i64 a, .int .i64 n, .string s, sv, .slice none 0 0] 32)) (w3.heap.size + 1) w.heap.size (w.heap.size + 1) w3.heap.size oA op a n s xs sv kid 0 (.slice none 0 0) [] [] := by
  obtain ⟨h1, h2, h4, h5⟩ := twoX hb
  have hn := newx w3 (.cells #[.int .i64 op, .int .i64 a, .int .i64 n, .string s, sv, .slice none 0 0] 32)
  refine ⟨(Fr.below h5 _).trans (Fr.below hn _), by simp, ⟨by simp, by omega, by omega, by omega, by omega, by omega, by omega, by omega, by omega⟩, (hn.block _ (by omega)).trans h1, (hn.block _ (by omega)).trans h2, heap_alloc_new w3 _, ⟨(hs.mono (Nat.zero_le _)).sameX (fun g hg => hn.block g (World.ownsRow.lt hs g hg).2), fun g hg => by have := World.ownsRow.lt hs g hg; omega⟩, XBuild.nil _ _ _⟩
/-- The node's block was laid ahead. -/
theorem start_put {w w3 : World} {O : Nat} {oA : Obj} {op a n : Int} {s : ByteArray} {sv : Value} {xs : List Int} (kid : Nat → X) (hb : Below ((w.alloc oA).alloc (.cells #[.int .i64 0, .int .i64 0, .int .i64 0, .string ⟨#[]⟩, .slice none 0 0, .slice none 0 0] 32)).heap.size ((w.alloc oA).alloc (.cells #[.int .i64 0, .int .i64 0, .int .i64 0, .string ⟨#[]⟩, .slice none 0 0, .slice none 0 0] 32)) w3) (hs : Own w3 (w.heap.size + 2) sv xs) (hO : w.heap.size + 2 ≤ O) (hz : Six w3 O 0 0 0 ⟨#[]⟩ (.slice none 0 0) (.slice none 0 0) 32) (hne : sv.ownBlock ≠ some O) :
    XLoop [] w (put6 w3 O op a n s sv (.slice none 0 0)) w3.heap.size w.heap.size (w.heap.size + 1) O oA op a n s xs sv kid 0 (.slice none 0 0) [] [] := by
  obtain ⟨h1, h2, h4, h5⟩ := twoX hb
  have hlt := hz.lt
  have hoth := put6_other w3 O op a n s sv (.slice none 0 0)
  refine ⟨(((((((Fr.below h5 []).setCell _ _ (by show _ ≤ O; omega)).setCell _ _ (by show _ ≤ O; omega)).setCell _ _ (by show _ ≤ O; omega)).setCell _ _ (by show _ ≤ O; omega)).setCell _ _ (by show _ ≤ O; omega)).setCell _ _ (by show _ ≤ O; omega)), by simp, ⟨by simp, by omega, by omega, by omega, by omega, by omega, by omega, by omega, by omega⟩, (hoth _ (by omega)).trans h1, (hoth _ (by omega)).trans h2, ?_, ⟨(hs.mono (Nat.zero_le _)).sameX (fun g hg => hoth g (fun e => hne (by rw [hg, e]))), fun g hg => ?_⟩, XBuild.nil _ _ _⟩
  · have z1 := heap_setCell_same w3 O 0 _ _ (.int .i64 op) hz
    have z2 := heap_setCell_same _ O 1 _ _ (.int .i64 a) z1
    have z3 := heap_setCell_same _ O 2 _ _ (.int .i64 n) z2
    have z4 := heap_setCell_same _ O 3 _ _ (.string s) z3
    have z5 := heap_setCell_same _ O 4 _ _ sv z4
    have z6 := heap_setCell_same _ O 5 _ _ (.slice none 0 0) z5
    exact z6
  · have := World.ownsRow.lt hs g hg
    have h9 : g ≠ O := fun e => hne (by rw [hg, e])
    omega

/-- An empty list that was just laid. -/
theorem own_empty {W : World} {B g : Nat} (h : W.heap[g]? = some (.cells #[] 3 (0, 0))) (hB : B ≤ g) : Own W B (.slice (some ⟨g, 0, none⟩) 0 0) [] :=
  ⟨rfl, .inr ⟨g, 0, #[], rfl, hB, h, Nat.le_refl _, Nat.zero_le _, rfl, rfl⟩⟩
/-- .. and grown by a set. -/
theorem own_grown {W0 W w4 : World} {B g : Nat} {v : Value} {xs : List Int} (hb : Below W0.heap.size W0 W) (hB : W0.heap.size ≤ g) (hown : w4.ownsRow B 3 1 v (0 + xs.length) ([] ++ xs.map (Value.int .i64))) (hg : W.grownBy w4 (Value.slice (some ⟨g, 0, none⟩) 0 0).ownBlock) : Own w4 B v xs ∧ Below W0.heap.size W0 w4 := by
  refine ⟨?_, hb.trans ⟨hg.os, hg.tape, hg.output, hg.size, fun x hx => ?_⟩⟩
  · rw [Nat.zero_add, List.nil_append] at hown
    exact hown
  · exact hg.block x (Nat.lt_of_lt_of_le hx hb.size) (by simp only [Value.ownBlock]; intro e; injection e with e; omega)
/-- A list of ints is no node's block. -/
theorem own_ne6 {w : World} {B O : Nat} {sv : Value} {xs : List Int} {a b c : Int} {s : ByteArray} {u v : Value} (h : Own w B sv xs) (h6 : Six w O a b c s u v 32) : sv.ownBlock ≠ some O := by
  intro e
  rcases h.2 with ⟨h0, _⟩ | ⟨g, cap, cur, h0, _, hg, _⟩
  · rw [h0] at e; simp [Value.ownBlock] at e
  · rw [h0] at e
    simp only [Value.ownBlock, Option.some.injEq] at e
    subst e
    have h7 : w.heap[g]? = _ := h6
    rw [hg] at h7
    injection h7 with h7
    injection h7 with _ h7
    exact absurd h7 (by decide)
theorem Six.grown {W w4 : World} {O g : Nat} {a b c : Int} {s : ByteArray} {u v : Value} {ty : TypeId} (h : Six W O a b c s u v ty) (hg : W.grownBy w4 (Value.slice (some ⟨g, 0, none⟩) 0 0).ownBlock) (hne : O ≠ g) : Six w4 O a b c s u v ty :=
  (hg.block _ h.lt (by simp only [Value.ownBlock]; intro e; injection e with e; exact hne e)).trans h
theorem pt_ex {w wx : World} {O B C R : Nat} {oA : Obj} {op a n : Int} {s : ByteArray} {set : List Int} {sv : Value} {kid : Nat → X} (h : XLoop [] w wx B C R O oA op a n s set sv kid 0 (.slice none 0 0) [] []) :
    ∃ (O' B' : Nat) (sv' : Value), Value.pointer (some ⟨O, 0, none⟩) = .pointer (some ⟨O', 0, none⟩) ∧ XLoop [] w wx B' C R O' oA op a n s set sv' kid 0 (.slice none 0 0) [] [] := ⟨_, _, _, rfl, h⟩
theorem six_put {w : World} {o g : Nat} {a b c : Int} {s : ByteArray} {u v : Value} {ty : TypeId} (h : Six w o a b c s u v ty) (a' b' c' : Int) (s' : ByteArray) (u' v' : Value) (hne : o ≠ g) : Six (put6 w g a' b' c' s' u' v') o a b c s u v ty := (put6_other w g a' b' c' s' u' v' o hne).trans h
theorem five_of {w : World} {g : Nat} {a b c : Int} {s : ByteArray} {u v : Value} {ty : TypeId} (h : Six w g a b c s u v ty) :
    w.cell? ⟨g, 0, none⟩ = some (.int .i64 a) ∧ w.cell? ⟨g, 1, none⟩ = some (.int .i64 b) ∧ w.cell? ⟨g, 2, none⟩ = some (.int .i64 c) ∧ w.cell? ⟨g, 3, none⟩ = some (.string s) ∧ w.cell? ⟨g, 4, none⟩ = some u :=
  ⟨h.cells.1, h.cells.2.1, h.cells.2.2.1, h.cells.2.2.2.1, h.cells.2.2.2.2.1⟩
end Go.Proofs.YtlclfmjpnchmbaaGreat

/- An append from whatever source, and a call of two arguments, as one step of a region that draws its order. No conditions. -/
namespace Go.Proofs.YtlclfmjpnchmbaaGreat
open Go.ChangeShapes Go.WideShapes Go.ChangeAt Go.RowKit

theorem step_append_any {P : Program} {w : World} {ops : Array Oper} {o : Oper} {a : Act} {K : Act → World → Prop} {Q : Exit → Act → World → Prop} {E : Prop} (hgd : o.guard = none) (s x : Operand) (t : TypeId)
    (ho : o.op = .call { callee := .builtin .append, args := #[s, x], argTypes := #[t, t] })
    (base : Nat) (e : TypeId) (i : TypeInfo) (z : Value) (size bytes : Nat) (ht : P.underlying t = some (.slice e)) (hi : P.info? e = some i) (hz : i.zero = some z)
    (hsize : i.size = size) (hby : i.bytes = bytes) (hzs : z.cells.size = size) (hsz : 0 < size)
    (v : Value) (n : Nat) (xs : List Value) (hs : a.eval s = v) (hown : w.ownsRow base e size v n xs)
    (ao : Option Addr) (m c : Nat) (news : List Value) (hx : a.eval x = .slice ao m c) (hl : news.length = m * size) (hnone : ao = none → m = 0 ∧ c = 0) (hnews : ∀ ad, ao = some ad → ∀ j u, news[j]? = some u → w.cell? (ad.add j) = some u) (h1 : ∀ u ∈ news, u.oneCell' = true)
    (h63 : n + m ≤ maxLen) (hbytes : (n + m) * bytes ≤ 140737488355328) (hbase : base ≤ w.heap.size)
    (h : ∀ v' w', Hid (w'.ownsRow base e size v' (n + m) (xs ++ news)) → Hid (w.grownBy w' v.ownBlock) → K (a.put o.dst v') w') :
    if Region.wanted o (yielded ops a.tmps) = true then Oper.wp P o a w K Q else E := by
  have hw : Region.wanted o (yielded ops a.tmps) = true := by simp [Region.wanted, hgd]
  rw [if_pos hw]
  have hr : ∃ v' w', (Builtin.append_ #[t, t] o.type #[v, .slice ao m c]).run P w = .ok v' w' ∧ w'.ownsRow base e size v' (n + m) (xs ++ news) ∧ w.grownBy w' v.ownBlock := by
    cases ao with
    | some ad =>
      obtain ⟨v', w', hr, h2, h3, _⟩ := run_append_own_at (P := P) w base t o.type e i z size bytes ht hi hz hsize hby hzs hsz v n xs hown ad m c news hl (hnews ad rfl) h1 h63 hbytes hbase
      exact ⟨v', w', hr, h2, h3⟩
    | none =>
      obtain ⟨rfl, rfl⟩ := hnone rfl
      have hn : news = [] := List.eq_nil_of_length_eq_zero (by simpa using hl)
      subst hn
      exact ⟨v, w, run_append_owned_none (P := P) (w := w) base t o.type e i size ht hi v n xs hown, by simpa using hown, World.grownBy.refl w v.ownBlock⟩
  obtain ⟨v', w', hr, h2, h3⟩ := hr
  unfold Oper.wp execOp
  simp only [ho, resolve, invoke, builtin, Sem.run_bind, Sem.run_pure, Result.andThen_ok, List.map_toArray, List.map_cons, List.map_nil, hs, hx, hr]
  exact h v' w' h2 h3

theorem step_call2 {P : Program} {ops : Array Oper} {o : Oper} {a : Act} {w : World} {K : Act → World → Prop} {Q : Exit → Act → World → Prop} {E : Prop} (hgd : o.guard = none) (f : FuncId) (x y : Operand) (t u : TypeId)
    (ho : o.op = .call { callee := .value (.func f), args := #[x, y], argTypes := #[t, u] }) (hcf : ∀ (vs : Array Value) (w : World), (callFunc f vs).run P w = .ok (.enter f vs) w) (vx vy : Value) (hx : a.eval x = vx) (hy : a.eval y = vy) (R : Ending → World → Prop) (hc : Calls P f #[vx, vy] w R)
    (h : ∀ e w', R e w' → ∃ v, e = .returned v ∧ K (a.put o.dst v) w') : if Region.wanted o (yielded ops a.tmps) = true then Oper.wp P o a w K Q else E := by
  have hw : Region.wanted o (yielded ops a.tmps) = true := by simp [Region.wanted, hgd]
  rw [if_pos hw]
  have hrun : (execOp a.eval o).run P w = .ok (.enter f #[vx, vy]) w := by
    have e : execOp a.eval o = callFunc f (#[] ++ #[x, y].map a.eval ++ #[]) := by
      obtain ⟨dst, op, ty, pos, after, guard⟩ := o
      simp only at ho
      subst ho
      rfl
    rw [e, hcf]
    simp [hx, hy]
  unfold Oper.wp
  rw [hrun, Oper.upon_enter]
  refine hc.mono fun e w' hr => ?_
  obtain ⟨v, rfl, hk⟩ := h e w' hr
  exact hk
end Go.Proofs.YtlclfmjpnchmbaaGreat
