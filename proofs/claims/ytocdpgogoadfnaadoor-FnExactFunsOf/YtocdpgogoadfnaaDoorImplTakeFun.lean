/- impl.takeFun: the function that begins at a place, which is moved behind it. Conditions: as at TakeNum16. -/
import Derived.Test.YtocdpgogoadfnaaDoorImplTakeOps
import Derived.Deep.Cut
namespace Go.Proofs.YtocdpgogoadfnaaDoor
open Go.ChangeShapes Go.WideShapes Go.ChangeAt Go.RowKit

theorem getF_ol_none {mo : Nat} {xs : List Nat} {p c p1 : Nat} (h : getN xs p = some (c, p1)) (h2 : getOL mo xs p1 = none) : getF mo xs p = none := by
  cases h3 : getN xs p1 with
  | none => exact getF_none2 h h3
  | some r =>
    obtain ⟨m, p2⟩ := r
    by_cases h4 : mo < m
    · exact getF_none3 h h3 h4
    · rw [getOL_some h3 h4] at h2
      exact getF_none4 h h3 h2
theorem getF_ol_some {mo : Nat} {xs : List Nat} {p c p1 q : Nat} {ol : List O3} (h : getN xs p = some (c, p1)) (h2 : getOL mo xs p1 = some (ol, q)) : getF mo xs p = some (((c : Int), ol), q) := by
  cases h3 : getN xs p1 with
  | none => rw [getOL_none1 h3] at h2; cases h2
  | some r =>
    obtain ⟨m, p2⟩ := r
    by_cases h4 : mo < m
    · rw [getOL_none2 h3 h4] at h2; cases h2
    · rw [getOL_some h3 h4] at h2
      exact getF_some h h3 h4 h2

/-- What takeFun answers. -/
def TakeF (R : Option (FO × Nat)) (K B : Nat) (e : Ending) (w' : World) : Prop := match R with
  | some (f, q) => ∃ u, e = .returned (.tuple #[.agg #[.int .i64 f.1, u], .bool true]) ∧ w'.ownsRow B 47 3 u f.2.length (orows f.2) ∧ AtP w' K q
  | none => ∃ x c : Int, e = .returned (.tuple #[.agg #[.int .i64 x, .slice none 0 0], .bool false]) ∧ AtP w' K c
theorem takeF_some {R : Option (FO × Nat)} {K B : Nat} {e : Ending} {w' : World} {f : FO} {q : Nat} {u : Value} (h : R = some (f, q)) (he : e = .returned (.tuple #[.agg #[.int .i64 f.1, u], .bool true])) (ho : w'.ownsRow B 47 3 u f.2.length (orows f.2)) (ha : AtP w' K q) : TakeF R K B e w' := by subst h; exact ⟨u, he, ho, ha⟩
theorem takeF_none {R : Option (FO × Nat)} {K B : Nat} {e : Ending} {w' : World} {x c : Int} (h : R = none) (he : e = .returned (.tuple #[.agg #[.int .i64 x, .slice none 0 0], .bool false])) (ha : AtP w' K c) : TakeF R K B e w' := by subst h; exact ⟨x, c, he, ha⟩
theorem own_set2 {w : World} {B e s n X j : Nat} {v u : Value} {xs : List Value} (h : w.ownsRow B e s v n xs) (hX : X < B) : (w.setCell ⟨X, j, none⟩ u).ownsRow B e s v n xs :=
  own_keepZ h (fun g hg => Below.heap_setCell w ⟨X, j, none⟩ u g (by have := (own_betweenZ h hg).1; show g ≠ X; omega))

set_option maxRecDepth 100000 in
set_option maxHeartbeats 4000000 in
theorem take_fun (xs : List Nat) (hx : ∀ x ∈ xs, x < 256) (p : Nat) (K : Nat) (v : Value) (w : World) (hv : RdO K w v xs) (hp : AtP w K p) (hl : xs.length ≤ 4194304) :
    Calls Tryd.prog 29 #[v, .pointer (some ⟨K, 0, none⟩)] w fun e w' => w.grownBy w' (some K) ∧ TakeF (getF 3000 xs p) K w.heap.size e w' := by
  obtain ⟨b0, cap, ev, -⟩ := hv.now.shape
  have HT : Hid (∀ (q : Nat) (w1 : World), w.grownBy w1 (some K) → AtP w1 K q → Calls Tryd.prog 40 #[v, .pointer (some ⟨K, 0, none⟩), .int .i64 3000, .func (.func 41) #[] #[]] w1 fun e w' => w1.grownBy w' (some K) ∧ TakeOs (getOL 3000 xs q) K w1.heap.size e w') := fun q w1 hg ha => take_ops xs hx q K v w1 (hv.go hg) ha hl
  have hlt := hp.lt
  obtain ⟨R, hR⟩ : ∃ R, R = w.heap.size := ⟨_, rfl⟩
  obtain ⟨W, hW⟩ : ∃ W, W = w.alloc (.cells #[.int .i64 0, .slice none 0 0] 45) := ⟨_, rfl⟩
  have hr0 : W.heap[R]? = some (.cells #[.int .i64 0, .slice none 0 0] 45 (0, 0)) := by rw [hW, hR]; exact heap_alloc_new w _
  have HR0 : Hid (W.heap[R]? = some (.cells #[.int .i64 0, .slice none 0 0] 45 (0, 0))) := hr0
  have hgw : w.grownBy W (some K) := by rw [hW]; exact grown_new2 (World.grownBy.refl _ _) _
  have hatW : AtP W K p := hp.kept (by rw [hW, Below.heap_alloc _ _ _ (by omega)])
  have HN0 := take_numN xs hx p K v W (hv.go hgw) hatW hl
  have hRW : R < W.heap.size := (Array.getElem?_eq_some_iff.1 hr0).1
  have HG0 : Hid (w.grownBy W (some K)) := hgw
  have HWW : Hid (w.alloc (.cells #[.int .i64 0, .slice none 0 0] 45) = W) := hW.symm
  have HRR : Hid (w.heap.size = R) := hR.symm
  have hKR : K < R := by omega
  have hRw : w.heap.size ≤ R := by omega
  have HBW : Hid (w.heap.size = R) := hR.symm
  subst ev
  obtain ⟨POST, hPOST⟩ : ∃ POST, POST = fun e w' => w.grownBy w' (some K) ∧ TakeF (getF 3000 xs p) K w.heap.size e w' := ⟨_, rfl⟩
  rw [← hPOST]
  clear hW hR hr0 hgw hatW hv hp hx
  cases hn : getN xs p with
  | none =>
    rw [hn] at HN0
    have HP : Hid (∀ (w' : World) (c : Int), w.grownBy w' (some K) → AtP w' K c → POST (.returned (.tuple #[.agg #[.int .i64 0, .slice none 0 0], .bool false])) w') := fun w' c h1 h2 => by rw [hPOST]; exact ⟨h1, takeF_none (getF_none1 hn) rfl h2⟩
    clear hPOST hn HT
    go_enter Tryd.func29, Tryd.ntmps29
    go_wp2_with fail
    rw [HWW.out, HRR.out]
    refine HN0.mono ?_
    rintro e w2 ⟨hg2, n0, c0, rfl, hat2⟩
    have H2 : Hid (w.grownBy w2 (some K) ∧ AtP w2 K c0) := ⟨grown_trans HG0.out hg2, hat2⟩
    have hQ : w2.heap[R]? = some (.cells #[.int .i64 0, .slice none 0 0] 45 (0, 0)) := (hg2.block R hRW (by intro e; injection e with e; omega)).trans HR0.out
    have r0 : w2.cell? ⟨R, 0, none⟩ = some (.int .i64 0) := cell_of_row _ _ 0 _ _ _ hQ
    have r1 : w2.cell? ⟨R, 1, none⟩ = some (.slice none 0 0) := cell_of_row _ _ 1 _ _ _ hQ
    have f0 : ∀ j, w2.frozen? ⟨R, j, none⟩ = false := fun j => frozen_of_row w2 R j _ _ hQ
    clear hg2 hat2 hQ HN0
    go_wp2
    refine bodyPost_ret (v := .tuple #[.agg #[.int .i64 0, .slice none 0 0], .bool false]) (by rw [results_cell_tmp (p := 4) (u := 5) (ty := 45) (by kernel_rfl)]; simp [go_sem, r0, r1]) rfl ?_
    exact HP.out _ _ (grown_set2 (grown_set2 H2.out.1 hRw _ _) hRw _ _) ((H2.out.2.off (by omega) _ _).off (by omega) _ _)
  | some r =>
    obtain ⟨c, p1⟩ := r
    rw [hn] at HN0
    cases ho : getOL 3000 xs p1 with
    | none =>
      have HP : Hid (∀ (w' : World) (z : Int), w.grownBy w' (some K) → AtP w' K z → POST (.returned (.tuple #[.agg #[.int .i64 c, .slice none 0 0], .bool false])) w') := fun w' z h1 h2 => by rw [hPOST]; exact ⟨h1, takeF_none (getF_ol_none hn ho) rfl h2⟩
      have HO : Hid (getOL 3000 xs p1 = none) := ho
      clear hPOST hn ho
      go_enter Tryd.func29, Tryd.ntmps29
      go_wp2_with fail
      rw [HWW.out, HRR.out]
      refine HN0.mono ?_
      rintro e w2 ⟨hg2, rfl, hat2⟩
      have hG2 : w.grownBy w2 (some K) := grown_trans HG0.out hg2
      have HC := HT.out p1 w2 hG2 hat2
      rw [HO.out] at HC
      have HQ2 : Hid (w2.heap[R]? = some (.cells #[.int .i64 0, .slice none 0 0] 45 (0, 0))) := (hg2.block R hRW (by intro e; injection e with e; omega)).trans HR0.out
      have HG2 : Hid (w.grownBy w2 (some K)) := hG2
      have hs2 : R < w2.heap.size := Nat.lt_of_lt_of_le hRW hg2.size
      clear hg2 hat2 hG2 HN0
      go_wp2_with fail
      refine HC.mono ?_
      rintro e w3 ⟨hg3, c3, rfl, hat3⟩
      have H3 : Hid (w.grownBy w3 (some K) ∧ AtP w3 K c3) := ⟨grown_trans HG2.out hg3, hat3⟩
      have hQ : w3.heap[R]? = some (.cells #[.int .i64 0, .slice none 0 0] 45 (0, 0)) := (hg3.block R hs2 (by intro e; injection e with e; omega)).trans HQ2.out
      have r0 : w3.cell? ⟨R, 0, none⟩ = some (.int .i64 0) := cell_of_row _ _ 0 _ _ _ hQ
      have r1 : w3.cell? ⟨R, 1, none⟩ = some (.slice none 0 0) := cell_of_row _ _ 1 _ _ _ hQ
      have f0 : ∀ j, w3.frozen? ⟨R, j, none⟩ = false := fun j => frozen_of_row w3 R j _ _ hQ
      clear hg3 hat3 hQ HC
      go_wp2
      refine bodyPost_ret (v := .tuple #[.agg #[.int .i64 c, .slice none 0 0], .bool false]) (by rw [results_cell_tmp (p := 4) (u := 5) (ty := 45) (by kernel_rfl)]; simp [go_sem, r0, r1]) rfl ?_
      exact HP.out _ _ (grown_set2 (grown_set2 H3.out.1 hRw _ _) hRw _ _) ((H3.out.2.off (by omega) _ _).off (by omega) _ _)
    | some r =>
      obtain ⟨ol, q⟩ := r
      have HP : Hid (∀ (w' : World) (u : Value), w.grownBy w' (some K) → w'.ownsRow w.heap.size 47 3 u ol.length (orows ol) → AtP w' K q → POST (.returned (.tuple #[.agg #[.int .i64 c, u], .bool true])) w') := fun w' u h1 h2 h3 => by rw [hPOST]; exact ⟨h1, takeF_some (getF_ol_some hn ho) rfl h2 h3⟩
      have HO : Hid (getOL 3000 xs p1 = some (ol, q)) := ho
      clear hPOST hn ho
      go_enter Tryd.func29, Tryd.ntmps29
      go_wp2_with fail
      rw [HWW.out, HRR.out]
      refine HN0.mono ?_
      rintro e w2 ⟨hg2, rfl, hat2⟩
      have hG2 : w.grownBy w2 (some K) := grown_trans HG0.out hg2
      have HC := HT.out p1 w2 hG2 hat2
      rw [HO.out] at HC
      have HQ2 : Hid (w2.heap[R]? = some (.cells #[.int .i64 0, .slice none 0 0] 45 (0, 0))) := (hg2.block R hRW (by intro e; injection e with e; omega)).trans HR0.out
      have HG2 : Hid (w.grownBy w2 (some K)) := hG2
      have hs2 : R < w2.heap.size := Nat.lt_of_lt_of_le hRW hg2.size
      clear hg2 hat2 hG2 HN0
      go_wp2_with fail
      refine HC.mono ?_
      rintro e w3 ⟨hg3, u, rfl, hown3, hat3⟩
      obtain ⟨pu, cu, eu⟩ : ∃ pu cu, u = .slice pu ol.length cu := by
        rcases hown3.2 with ⟨e, h0⟩ | ⟨g', cap', cur, e, _⟩
        · exact ⟨none, 0, by rw [e, h0]⟩
        · exact ⟨_, cap', e⟩
      have H3 : Hid (w.grownBy w3 (some K) ∧ AtP w3 K q) := ⟨grown_trans HG2.out hg3, hat3⟩
      have HO3 : Hid (w3.ownsRow (R + 1) 47 3 u ol.length (orows ol)) := own_baseZ hown3 (by omega)
      have hQ : w3.heap[R]? = some (.cells #[.int .i64 0, .slice none 0 0] 45 (0, 0)) := (hg3.block R hs2 (by intro e; injection e with e; omega)).trans HQ2.out
      have r0 : w3.cell? ⟨R, 0, none⟩ = some (.int .i64 0) := cell_of_row _ _ 0 _ _ _ hQ
      have r1 : w3.cell? ⟨R, 1, none⟩ = some (.slice none 0 0) := cell_of_row _ _ 1 _ _ _ hQ
      have f0 : ∀ j, w3.frozen? ⟨R, j, none⟩ = false := fun j => frozen_of_row w3 R j _ _ hQ
      clear hg3 hat3 hQ HC hown3
      subst eu
      go_wp2
      refine bodyPost_ret (v := .tuple #[.agg #[.int .i64 c, .slice pu ol.length cu], .bool true]) (by rw [results_cell_tmp (p := 4) (u := 5) (ty := 45) (by kernel_rfl)]; simp [go_sem, r0, r1]) rfl ?_
      exact HP.out _ _ (grown_set2 (grown_set2 H3.out.1 hRw _ _) hRw _ _) (own_baseZ (own_set2 (own_set2 HO3.out (by omega)) (by omega)) (by omega)) ((H3.out.2.off (by omega) _ _).off (by omega) _ _)
end Go.Proofs.YtocdpgogoadfnaaDoor
