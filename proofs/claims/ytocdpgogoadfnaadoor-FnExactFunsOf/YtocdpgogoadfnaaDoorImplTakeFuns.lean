/- impl.takeList of functions. Conditions: as at TakeNum16. -/
import Derived.Test.YtocdpgogoadfnaaDoorImplTakeFun
namespace Go.Proofs.YtocdpgogoadfnaaDoor
open Go.ChangeShapes Go.WideShapes Go.ChangeAt Go.RowKit

theorem fun_info16 : (Tryd.prog.info? 45).map (fun i => (i.zero, i.size, i.bytes)) = some (some (.agg #[.int .i64 0, .slice none 0 0]), 2, 32) := by kernel_rfl

/-- How many functions, and these. -/
def getFL (mo : Nat) (xs : List Nat) (p : Nat) : Option (List FO × Nat) := match getN xs p with
  | none => none
  | some (m, p2) => if mo < m then none else getFs 3000 xs p2 m
theorem getFL_none1 {mo : Nat} {xs : List Nat} {p : Nat} (h : getN xs p = none) : getFL mo xs p = none := by unfold getFL; rw [h]
theorem getFL_none2 {mo : Nat} {xs : List Nat} {p m p2 : Nat} (h : getN xs p = some (m, p2)) (h2 : mo < m) : getFL mo xs p = none := by unfold getFL; rw [h]; simp only; rw [if_pos h2]
theorem getFL_some {mo : Nat} {xs : List Nat} {p m p2 : Nat} (h : getN xs p = some (m, p2)) (h2 : ¬ mo < m) : getFL mo xs p = getFs 3000 xs p2 m := by unfold getFL; rw [h]; simp only; rw [if_neg h2]

/-- What takeList of functions answers; B: from where on the list's own memory lies. -/
def TakeFs (R : Option (List FO × Nat)) (K B : Nat) (e : Ending) (w' : World) : Prop := match R with
  | some (l, q) => ∃ u le, e = .returned (.tuple #[u, .bool true]) ∧ FOwn B w' u le ∧ strip le = l ∧ AtP w' K q
  | none => ∃ c : Int, e = .returned (.tuple #[.slice none 0 0, .bool false]) ∧ AtP w' K c
theorem takeFs_some {R : Option (List FO × Nat)} {K B : Nat} {e : Ending} {w' : World} {l : List FO} {le : List Fe} {q : Nat} {u : Value} (h : R = some (l, q)) (he : e = .returned (.tuple #[u, .bool true])) (ho : FOwn B w' u le) (hs : strip le = l) (ha : AtP w' K q) : TakeFs R K B e w' := by subst h; exact ⟨u, le, he, ho, hs, ha⟩
theorem takeFs_none {R : Option (List FO × Nat)} {K B : Nat} {e : Ending} {w' : World} {c : Int} (h : R = none) (he : e = .returned (.tuple #[.slice none 0 0, .bool false])) (ha : AtP w' K c) : TakeFs R K B e w' := by subst h; exact ⟨c, he, ha⟩
theorem fown_nil (w : World) (B : Nat) : FOwn B w (.slice none 0 0) [] := ⟨⟨rfl, .inl ⟨rfl, rfl⟩⟩, (fun i e h => by simp at h), (fun i j ei ej h => by simp at h), (fun i e h => by simp at h)⟩
theorem one_newF (w : World) (a b : Value) (t : TypeId) : ∀ j u, [a, b][j]? = some u → (w.alloc (.cells #[a, b] t)).cell? ((⟨w.heap.size, 0, none⟩ : Addr).add j) = some u := by
  intro j u hu
  match j, hu with
  | 0, hu => simp at hu; subst hu; rw [Addr.add_lit, cell_of_row _ _ _ _ _ _ (heap_alloc_new w (.cells #[a, b] t))]; rfl
  | 1, hu => simp at hu; subst hu; rw [Addr.add_lit, cell_of_row _ _ _ _ _ _ (heap_alloc_new w (.cells #[a, b] t))]; rfl

set_option maxRecDepth 100000 in
set_option maxHeartbeats 4000000 in
theorem take_funs (xs : List Nat) (hx : ∀ x ∈ xs, x < 256) (p : Nat) (K : Nat) (v : Value) (w : World) (hv : RdO K w v xs) (hp : AtP w K p) (hl : xs.length ≤ 4194304) :
    Calls Tryd.prog 28 #[v, .pointer (some ⟨K, 0, none⟩), .int .i64 60, .func (.func 29) #[] #[]] w fun e w' => w.grownBy w' (some K) ∧ TakeFs (getFL 60 xs p) K w.heap.size e w' := by
  obtain ⟨i0, hi, hz0, hz1, hz2⟩ := info_parts fun_info16
  obtain ⟨b0, cap, ev, -⟩ := hv.now.shape
  have HT : Hid (∀ (q : Nat) (w1 : World), w.grownBy w1 (some K) → AtP w1 K q → Calls Tryd.prog 29 #[v, .pointer (some ⟨K, 0, none⟩)] w1 fun e w' => w1.grownBy w' (some K) ∧ TakeF (getF 3000 xs q) K w1.heap.size e w') := fun q w1 hg ha => take_fun xs hx q K v w1 (hv.go hg) ha hl
  have HN0 := take_numN xs hx p K v w hv hp hl
  have hlt := hp.lt
  subst ev
  obtain ⟨POST, hPOST⟩ : ∃ POST, POST = fun e w' => w.grownBy w' (some K) ∧ TakeFs (getFL 60 xs p) K w.heap.size e w' := ⟨_, rfl⟩
  rw [← hPOST]
  cases hn : getN xs p with
  | none =>
    rw [hn] at HN0
    have HP : Hid (∀ (w' : World) (c : Int), w.grownBy w' (some K) → AtP w' K c → POST (.returned (.tuple #[.slice none 0 0, .bool false])) w') := fun w' c h1 h2 => by rw [hPOST]; exact ⟨h1, takeFs_none (getFL_none1 hn) rfl h2⟩
    clear hPOST hn hx hv hp HT
    go_enter Tryd.func28, Tryd.ntmps28
    go_wp2_with fail
    refine HN0.mono ?_
    rintro e w2 ⟨hg2, n0, c0, rfl, hat2⟩
    have H2 : Hid (w.grownBy w2 (some K) ∧ AtP w2 K c0) := ⟨hg2, hat2⟩
    clear hg2 hat2
    go_wp2_with fail
    exact HP.out _ _ H2.out.1 H2.out.2
  | some r =>
    obtain ⟨m, p2⟩ := r
    rw [hn] at HN0
    have hmb := (getN_bound hn).1
    by_cases hm : 60 < m
    · have HP : Hid (∀ (w' : World) (c : Int), w.grownBy w' (some K) → AtP w' K c → POST (.returned (.tuple #[.slice none 0 0, .bool false])) w') := fun w' c h1 h2 => by rw [hPOST]; exact ⟨h1, takeFs_none (getFL_none2 hn hm) rfl h2⟩
      clear hPOST hn hx hv hp HT
      go_enter Tryd.func28, Tryd.ntmps28
      go_wp2_with fail
      refine HN0.mono ?_
      rintro e w2 ⟨hg2, rfl, hat2⟩
      have H2 : Hid (w.grownBy w2 (some K) ∧ AtP w2 K p2) := ⟨hg2, hat2⟩
      clear hg2 hat2
      go_wp2_with fail
      exact HP.out _ _ H2.out.1 H2.out.2
    · have hm' : m ≤ 60 := by omega
      have HPN : Hid (getFs 3000 xs p2 m = none → ∀ (w' : World) (c : Int), w.grownBy w' (some K) → AtP w' K c → POST (.returned (.tuple #[.slice none 0 0, .bool false])) w') := fun h w' c h1 h2 => by rw [hPOST]; exact ⟨h1, takeFs_none ((getFL_some hn hm).trans h) rfl h2⟩
      have HPS : Hid (∀ (l : List FO) (le : List Fe) (q : Nat) (u : Value) (w' : World), getFs 3000 xs p2 m = some (l, q) → strip le = l → w.grownBy w' (some K) → FOwn w.heap.size w' u le → AtP w' K q → POST (.returned (.tuple #[u, .bool true])) w') := fun l le q u w' h hs h1 h2 h3 => by rw [hPOST]; exact ⟨h1, takeFs_some ((getFL_some hn hm).trans h) rfl h2 hs h3⟩
      clear hPOST hn hx hv hp hm
      obtain ⟨B, hB⟩ : ∃ B, B = w.heap.size := ⟨_, rfl⟩
      have HBW : Hid (w.heap.size = B) := hB.symm
      have hKB : K < B := by omega
      rw [← hB] at HPS
      clear hB
      go_enter Tryd.func28, Tryd.ntmps28
      go_wp2_with fail
      refine HN0.mono ?_
      rintro e w2 ⟨hg2, rfl, hat2⟩
      have H2 : Hid (w.grownBy w2 (some K) ∧ AtP w2 K p2) := ⟨hg2, hat2⟩
      clear hg2 hat2
      go_wp2_with fail
      go_loopw [12, 29] (fun r i wr => ∃ (k : Nat) (r0 : Value) (le : List Fe) (q : Nat), r0 = r ∧ i = .int .i64 k ∧ k ≤ m ∧ getFs 3000 xs p2 k = some (strip le, q) ∧ FOwn B wr r0 le ∧ AtP wr K q ∧ w.grownBy wr (some K)) (fun _ i _ => m - (intOf i).toNat)
      case atStart => exact ⟨0, _, [], p2, rfl, rfl, Nat.zero_le _, rfl, fown_nil _ _, H2.out.2, H2.out.1⟩
      case round =>
        obtain ⟨k, r0, le, q, rfl, rfl, hk, hgo, hown, hat, hg⟩ := hrel
        have HGO : Hid (getFs 3000 xs p2 k = some (strip le, q)) := hgo
        have HOW : Hid (FOwn B wr r0 le) := hown
        have HAG : Hid (AtP wr K q ∧ w.grownBy wr (some K)) := ⟨hat, hg⟩
        have HBS : Hid (B ≤ wr.heap.size) := by rw [← HBW.out]; exact hg.size
        have hll : le.length ≤ 60 := by rw [← strip_len, getFs_len hgo]; omega
        clear hgo hown hat hg H2
        by_cases hlt : (k : Int) < m
        · have hlt' : k < m := by omega
          have HC := HT.out q wr HAG.out.2 HAG.out.1
          cases ho : getF 3000 xs q with
          | none =>
            rw [ho] at HC
            have HNO : Hid (getFs 3000 xs p2 m = none) := getFs_stop HGO.out ho m hlt'
            clear ho
            go_wp2_with fail
            refine HC.mono ?_
            rintro e w3 ⟨hg3, z0, c0, rfl, hat3⟩
            have H3 : Hid (w.grownBy w3 (some K) ∧ AtP w3 K c0) := ⟨grown_trans HAG.out.2 hg3, hat3⟩
            have hs3 : K < w3.heap.size := hat3.lt
            clear hg3 hat3
            go_wp2_with fail
            exact HPN.out HNO.out _ _ (grown_new2 H3.out.1 _) (H3.out.2.kept (Below.heap_alloc _ _ _ hs3))
          | some r =>
            obtain ⟨o, q2⟩ := r
            rw [ho] at HC
            have HO : Hid (getFs 3000 xs p2 (k + 1) = some (strip le ++ [o], q2)) := getFs_more HGO.out ho
            clear ho
            go_wp2_with fail
            refine HC.mono ?_
            rintro e w3 ⟨hg3, u, rfl, hu3, hat3⟩
            obtain ⟨pu, cu, eu⟩ : ∃ pu cu, u = .slice pu o.2.length cu := by
              rcases hu3.2 with ⟨e, h0⟩ | ⟨g', cap', cur, e, _⟩
              · exact ⟨none, 0, by rw [e, h0]⟩
              · exact ⟨_, cap', e⟩
            have H3 : Hid (w.grownBy w3 (some K) ∧ AtP w3 K q2) := ⟨grown_trans HAG.out.2 hg3, hat3⟩
            have hs3 : K < w3.heap.size := hat3.lt
            have HO3 : Hid (w3.ownsRow B 45 2 r0 le.length (ferows le)) := own_grown HOW.out.row hg3 (fun g e e2 => by injection e2 with e2; have := (own_betweenZ HOW.out.row e).1; omega)
            have HPU : Hid (∀ (w4 w5 : World) (v5 : Value), Below w3.heap.size w3 w4 → w5.ownsRow B 45 2 v5 (le.length + 1) (ferows le ++ [.int .i64 o.1, .slice pu o.2.length cu]) → w4.grownBy w5 r0.ownBlock → (v5.ownBlock = r0.ownBlock ∨ v5.ownBlock = some w4.heap.size) → FOwn B w5 v5 (le ++ [⟨o.1, o.2, .slice pu o.2.length cu⟩])) := fun w4 w5 v5 h1 h2 h3 h4 =>
              FOwn.pushedZ HOW.out HBS.out hg3.size (fun k h5 h6 => hg3.block k h6 (by intro e; injection e with e; omega)) (by rw [← eu]; exact hu3) h1 h2 h3 h4
            have HB3 : Hid (B ≤ w3.heap.size) := Nat.le_trans HBS.out hg3.size
            clear hg3 hat3 HAG HBS hu3
            subst eu
            have HNEW : Hid (∀ j u, [Value.int .i64 o.1, .slice pu o.2.length cu][j]? = some u → ((w3.alloc (.cells #[.int .i64 o.1, .slice pu o.2.length cu] 45)).alloc (.cells #[.int .i64 o.1, .slice pu o.2.length cu] 45)).cell? ((⟨w3.heap.size + 1, 0, none⟩ : Addr).add j) = some u) := fun j u h => by
              have h2 := one_newF (w3.alloc (.cells #[.int .i64 o.1, .slice pu o.2.length cu] 45)) _ _ 45 j u h
              rw [show (w3.alloc (.cells #[.int .i64 o.1, .slice pu o.2.length cu] 45)).heap.size = w3.heap.size + 1 by simp] at h2
              exact h2
            have HBW4 : Hid (Below w3.heap.size w3 ((w3.alloc (.cells #[.int .i64 o.1, .slice pu o.2.length cu] 45)).alloc (.cells #[.int .i64 o.1, .slice pu o.2.length cu] 45))) := (newb w3 _).trans ((newb _ _).mono (by simp))
            go_wp2_with (
              at_builtin
              refine wpList_append_1 _ rfl (.tmp 40) (.tmp 42) 26 rfl B 45 i0 (.agg #[.int .i64 0, .slice none 0 0]) 2 32 Tryd.underlying26 hi hz0 hz1 hz2 rfl (by decide) r0 le.length (ferows le) rfl (World.ownsRow.alloc (World.ownsRow.alloc HO3.out _) _) ⟨w3.heap.size + 1, 0, none⟩ 1 1 [.int .i64 o.1, .slice pu o.2.length cu] rfl rfl HNEW.out (by simp [Value.oneCell']) (by unfold maxLen; omega) (by omega) (by have := HB3.out; simp; omega) (by decide) ?_
              intro v5 w5 hown5 hg5 hat5
              have HO5 : Hid (FOwn B w5 v5 (le ++ [⟨o.1, o.2, .slice pu o.2.length cu⟩])) := HPU.out _ _ _ HBW4.out hown5 hg5 hat5
              have HG5 : Hid (w.grownBy w5 (some K)) := grown_old (grown_new2 (grown_new2 H3.out.1 _) _) (World.ownsRow.alloc (World.ownsRow.alloc HO3.out _) _) (by rw [HBW.out]; omega) hg5
              have HA5 : Hid (AtP w5 K q2) := ((H3.out.2.kept (Below.heap_alloc _ _ _ hs3)).kept (Below.heap_alloc _ _ _ (by simp; omega))).kept (hg5.block K (by simp; omega) (fun e => by have := (own_betweenZ HO3.out e.symm).1; omega))
              clear hown5 hg5 hat5)
            go_wp2_with fail
            go_roundw
            case rel => exact ⟨k + 1, _, le ++ [⟨o.1, o.2, .slice pu o.2.length cu⟩], q2, rfl, by go_num, by omega, by rw [strip_snoc]; exact HO.out, HO5.out, HA5.out, HG5.out⟩
            case measure => simp [intOf]; omega
        · have hke : k = m := by omega
          subst hke
          go_wp2_with fail
          exact HPS.out _ le q _ _ HGO.out rfl HAG.out.2 HOW.out HAG.out.1
end Go.Proofs.YtocdpgogoadfnaaDoor
