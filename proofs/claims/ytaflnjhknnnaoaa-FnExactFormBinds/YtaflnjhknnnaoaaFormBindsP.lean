/- spec.FormBinds: a bind for each form, in a row of its own. No conditions. -/
import Derived.Test.YtaflnjhknnnaoaaFormsP
import Derived.Test.YtaflnjhknnnaoaaToBind
import Derived.Test.YtaflnjhknnnaoaaIntsWithout
namespace Go.Proofs.Ytaflnjhknnnaoaa
open Go.ChangeShapes Go.WideShapes Go.ChangeAt Go.RowKit

/-- The bind of the i-th form. -/
def formBd (i : Nat) : Bd := ⟨formsL.getD i ⟨#[]⟩, [], 2, i, -1⟩
/-- The rows of the first k of them. -/
def formRows (k : Nat) : List BR := (List.range k).map fun i => (formBd i, .slice none 0 0)
theorem formRows_len (k : Nat) : (formRows k).length = k := by simp [formRows]
theorem formRows_succ (k : Nat) : formRows (k + 1) = formRows k ++ [(formBd k, .slice none 0 0)] := by simp [formRows, List.range_succ]
theorem formRows_ks (k : Nat) : BKs formBd (formRows k) := by
  intro i q h
  have hi : i < k := by
    have := (List.getElem?_eq_some_iff.1 h).1
    rw [formRows_len] at this; exact this
  simp only [formRows, List.getElem?_map, List.getElem?_range hi, Option.map_some, Option.some.injEq] at h
  rw [← h]
theorem formRows_in (k : Nat) : ∀ q ∈ formRows k, q.2 = .slice none 0 0 ∧ q.1.set = [] := by
  intro q hq
  obtain ⟨i, _, rfl⟩ := List.mem_map.1 hq
  exact ⟨rfl, rfl⟩
theorem brows_snoc (l : List BR) (q : BR) : brows (l ++ [q]) = brows l ++ bcells q := by rw [brows_append]; simp [brows]

/-- A row of binds of the call's own. -/
def OwnB (w : World) (base : Nat) (v : Value) (l : List BR) : Prop := w.ownsRow base 42 5 v l.length (brows l)
theorem OwnB.below {w w' : World} {base : Nat} {v : Value} {l : List BR} (h : OwnB w base v l) (hb : Below w.heap.size w w') : OwnB w' base v l := own_belowX h hb
theorem OwnB.mono {w : World} {base base' : Nat} {v : Value} {l : List BR} (h : OwnB w base v l) (hb : base' ≤ base) : OwnB w base' v l := by
  refine ⟨h.1, ?_⟩
  rcases h.2 with h | ⟨g, cap, cur, rfl, hbg, rest⟩
  · exact .inl h
  · exact .inr ⟨g, cap, cur, rfl, Nat.le_trans hb hbg, rest⟩
theorem bcells_one (q : BR) (h : q.2.oneCell' = true) : ∀ u ∈ bcells q, u.oneCell' = true := by
  intro u hu
  simp only [bcells, List.mem_cons, List.not_mem_nil, or_false] at hu
  rcases hu with rfl | rfl | rfl | rfl | rfl
  · rfl
  · exact h
  · rfl
  · rfl
  · rfl
theorem bnew (w : World) (q : BR) (t : TypeId) : ∀ ad, some (⟨w.heap.size, 0, none⟩ : Addr) = some ad → ∀ j u, (bcells q)[j]? = some u → (w.alloc (.cells #[.string q.1.name, q.2, .int .i64 q.1.kind, .int .i64 q.1.n, .int .i64 q.1.at_] t)).cell? (ad.add j) = some u := by
  intro ad h j u hu
  obtain rfl := Option.some.inj h
  rw [Addr.add_lit, Nat.zero_add, cell_of_row _ _ _ _ _ _ (heap_alloc_new w (.cells #[.string q.1.name, q.2, .int .i64 q.1.kind, .int .i64 q.1.n, .int .i64 q.1.at_] t))]
  match j, hu with
  | 0, hu => simpa [bcells] using hu
  | 1, hu => simpa [bcells] using hu
  | 2, hu => simpa [bcells] using hu
  | 3, hu => simpa [bcells] using hu
  | 4, hu => simpa [bcells] using hu
  | (j + 5), hu => simp [bcells] at hu
theorem own_pushB {B : Nat} {w wr w1 : World} {r0 v' : Value} {L : List BR} {q : BR} {o : Obj} (h : OwnB wr B r0 L) (hb : Below B w wr) (hB : B ≤ wr.heap.size)
    (h1 : w1.ownsRow B 42 5 v' (L.length + 1) (brows L ++ bcells q)) (hg : (wr.alloc o).grownBy w1 r0.ownBlock) : OwnB w1 B v' (L ++ [q]) ∧ Below B w w1 := by
  refine ⟨?_, ?_⟩
  · unfold OwnB
    rw [List.length_append, List.length_singleton, brows_snoc]
    exact h1
  · exact (hb.alloc hB _).grown hg (by simp; omega) (fun k hk => (h.lt k hk).1)

theorem ownB_ne {w : World} {base : Nat} {v : Value} {l : List BR} {G : Nat} {cs : Array Value} {m : Nat × Nat} (h : OwnB w base v l) (hg : w.heap[G]? = some (.cells cs 9 m)) : v.ownBlock ≠ some G := by
  intro e
  rcases h.2 with ⟨rfl, _⟩ | ⟨g, cap, cur, rfl, hbg, hgg, _⟩
  · simp [Value.ownBlock] at e
  · have : g = G := by simpa [Value.ownBlock] using e
    subst this
    rw [hgg] at hg
    simp at hg

set_option maxRecDepth 100000 in
set_option maxHeartbeats 2000000 in
theorem spec_form_binds (w : World) : Calls Try.prog 5 #[] w fun e w' => ∃ u, e = .returned u ∧ Below w.heap.size w w' ∧ OwnB w' w.heap.size u (formRows 18) := by
  obtain ⟨i0, hi, hz0, hz1, hz2⟩ := info_parts bind_info
  have HW : Hid (OwnB (w.alloc (.cells #[] 42)) w.heap.size (.slice (some ⟨w.heap.size, 0, none⟩) 0 0) (formRows 0) ∧ Below w.heap.size w (w.alloc (.cells #[] 42))) := ⟨World.ownsRow_lit w #[] 0 (Nat.le_refl _) (by unfold maxLen; omega) rfl, newx w _⟩
  go_enter Try.func5, Try.ntmps5
  go_wp2_with fail
  refine (spec_forms _).mono ?_
  rintro e w1 ⟨u, rfl, hb1, ho1⟩
  have HW1 : Hid (OwnB w1 w.heap.size (.slice (some ⟨w.heap.size, 0, none⟩) 0 0) (formRows 0) ∧ Below w.heap.size w w1) := ⟨HW.out.1.below hb1, HW.out.2.trans (hb1.mono HW.out.2.size)⟩
  rcases ho1.2 with ⟨-, hn⟩ | ⟨G, cap, cur, rfl, hbg, hgg, -⟩
  · exact absurd hn (by decide)
  obtain ⟨a, cap', ea, hc⟩ := ho1.rd
  have h18 : formsL.length = 18 := rfl
  rw [h18] at hc ⊢
  rw [h18] at ea
  injection ea with ea1 _ ea3
  subst ea1 ea3
  have HC : Hid (∀ (wx : World), wx.heap[G]? = w1.heap[G]? → ∀ j, j < 18 → wx.cell? ⟨G, j, none⟩ = some (.string (formsL.getD j ⟨#[]⟩))) := fun wx hx j hj => by
    obtain ⟨b, off, e, h⟩ := hc j hj
    injection e with e
    injection e with e1 e2
    subst e1 e2
    rw [Nat.zero_add] at h
    exact (World.cell?_of_block (w := w1) hx).trans h
  have HG : Hid (w1.heap[G]? = some (.cells cur 9 (0, 0))) := hgg
  clear hb1 ho1 hc HW hgg hbg
  go_wp2_with fail
  go_loopw [1, 3] (fun r i wr => ∃ (k : Nat) (r0 : Value), r0 = r ∧ i = .int .i64 k ∧ k ≤ 18 ∧ OwnB wr w.heap.size r0 (formRows k) ∧ Below w.heap.size w wr ∧ wr.heap[G]? = w1.heap[G]?) (fun _ i _ => 18 - (intOf i).toNat)
  case atStart => exact ⟨0, _, rfl, rfl, by omega, HW1.out.1, HW1.out.2, rfl⟩
  case round =>
    obtain ⟨k, r0, rfl, rfl, hk, hown, hbel, hgw⟩ := hrel
    have HOW : Hid (OwnB wr w.heap.size r0 (formRows k)) := hown
    have HB : Hid (Below w.heap.size w wr) := hbel
    have HGW : Hid (wr.heap[G]? = w1.heap[G]?) := hgw
    clear hown hbel hgw HW1
    by_cases hlt : (k : Int) < 18
    · have hcell := HC.out wr HGW.out k (by omega)
      have HNE : Hid (r0.ownBlock ≠ some G ∧ G < wr.heap.size) := ⟨ownB_ne HOW.out (HGW.out.trans HG.out), (Array.getElem?_eq_some_iff.1 (HGW.out.trans HG.out)).1⟩
      have HSZ : Hid (w.heap.size ≤ wr.heap.size) := HB.out.size
      have HF : Hid (formRows (k + 1) = formRows k ++ [(formBd k, .slice none 0 0)]) := formRows_succ k
      have HL : Hid ((formRows k).length = k) := formRows_len k
      have HBN : Hid (∀ ad, some (⟨wr.heap.size, 0, none⟩ : Addr) = some ad → ∀ j u, (bcells (formBd k, .slice none 0 0))[j]? = some u → (wr.alloc (.cells #[.string (formsL.getD k ⟨#[]⟩), .slice none 0 0, .int .i64 2, .int .i64 k, .int .i64 (-1)] 42)).cell? (ad.add j) = some u) := bnew wr (formBd k, .slice none 0 0) _
      generalize formRows k = L at *
      go_wp2_with (at_builtin; refine wpList_append_any _ rfl (.tmp 12) (.tmp 19) 22 rfl w.heap.size 42 i0 (.agg #[.string ⟨#[]⟩, .slice none 0 0, .int .i64 0, .int .i64 0, .int .i64 0]) 5 64 Try.underlying22 hi hz0 hz1 hz2 rfl (by decide) r0 L.length (brows L) rfl (World.ownsRow.alloc HOW.out _) (some ⟨wr.heap.size, 0, none⟩) 1 1 (bcells (formBd k, .slice none 0 0)) rfl rfl (by simp) HBN.out (bcells_one _ rfl) (by unfold maxLen; rw [HL.out]; omega) (by rw [HL.out]; omega) (by have := HSZ.out; simp; omega) ?_; intro v' w2 hown2 hg2)
      have R := own_pushB HOW.out HB.out HSZ.out hown2.out hg2.out
      have hG2 : w2.heap[G]? = wr.heap[G]? := (hg2.out.block G (by have := HNE.out.2; simp; omega) (fun e => HNE.out.1 e.symm)).trans (Below.heap_alloc _ _ _ HNE.out.2)
      have HR : Hid (OwnB w2 w.heap.size v' (L ++ [(formBd k, .slice none 0 0)]) ∧ Below w.heap.size w w2 ∧ w2.heap[G]? = w1.heap[G]?) := ⟨R.1, R.2, hG2.trans HGW.out⟩
      clear R hown2 hg2 hG2
      go_roundw
      case rel => exact ⟨k + 1, _, rfl, by go_num, by omega, by rw [HF.out]; exact HR.out.1, HR.out.2.1, HR.out.2.2⟩
      case measure => simp [intOf]; omega
    · have hke : k = 18 := by omega
      subst hke
      go_wp2_with fail
      go_ret
      exact ⟨_, rfl, HB.out, HOW.out⟩
end Go.Proofs.Ytaflnjhknnnaoaa
