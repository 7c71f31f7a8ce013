/- impl.takeList of ops. Conditions: as at TakeNum16. -/
import Derived.Test.YtocdpgogoadfnaaDoorImplTakeOp
import Derived.Test.YtocdpgogoadfnaaDoorFunOwn16
import Derived.Test.YtocdpgogoadfnaaDoorAppendOne
import Derived.OwnWalk
namespace Go.Proofs.YtocdpgogoadfnaaDoor
open Go.ChangeShapes Go.WideShapes Go.ChangeAt Go.RowKit

theorem op_info16 : (Tryd.prog.info? 47).map (fun i => (i.zero, i.size, i.bytes)) = some (some (.agg #[.int .i64 0, .int .i64 0, .int .i64 0]), 3, 24) := by kernel_rfl

/-- How many ops, and these. -/
def getOL (mo : Nat) (xs : List Nat) (p : Nat) : Option (List O3 × Nat) := match getN xs p with
  | none => none
  | some (m, p2) => if mo < m then none else getOs xs p2 m
theorem getOL_none1 {mo : Nat} {xs : List Nat} {p : Nat} (h : getN xs p = none) : getOL mo xs p = none := by unfold getOL; rw [h]
theorem getOL_none2 {mo : Nat} {xs : List Nat} {p m p2 : Nat} (h : getN xs p = some (m, p2)) (h2 : mo < m) : getOL mo xs p = none := by unfold getOL; rw [h]; simp only; rw [if_pos h2]
theorem getOL_some {mo : Nat} {xs : List Nat} {p m p2 : Nat} (h : getN xs p = some (m, p2)) (h2 : ¬ mo < m) : getOL mo xs p = getOs xs p2 m := by unfold getOL; rw [h]; simp only; rw [if_neg h2]

/-- What takeList of ops answers; B: from where on the list's own memory lies. -/
def TakeOs (R : Option (List O3 × Nat)) (K B : Nat) (e : Ending) (w' : World) : Prop := match R with
  | some (l, q) => ∃ u, e = .returned (.tuple #[u, .bool true]) ∧ w'.ownsRow B 47 3 u l.length (orows l) ∧ AtP w' K q
  | none => ∃ c : Int, e = .returned (.tuple #[.slice none 0 0, .bool false]) ∧ AtP w' K c
theorem takeOs_some {R : Option (List O3 × Nat)} {K B : Nat} {e : Ending} {w' : World} {l : List O3} {q : Nat} {u : Value} (h : R = some (l, q)) (he : e = .returned (.tuple #[u, .bool true])) (ho : w'.ownsRow B 47 3 u l.length (orows l)) (ha : AtP w' K q) : TakeOs R K B e w' := by subst h; exact ⟨u, he, ho, ha⟩
theorem takeOs_none {R : Option (List O3 × Nat)} {K B : Nat} {e : Ending} {w' : World} {c : Int} (h : R = none) (he : e = .returned (.tuple #[.slice none 0 0, .bool false])) (ha : AtP w' K c) : TakeOs R K B e w' := by subst h; exact ⟨c, he, ha⟩

theorem own_nilO (w : World) (B : Nat) : w.ownsRow B 47 3 (.slice none 0 0) ([] : List O3).length (orows []) := ⟨rfl, .inl ⟨rfl, rfl⟩⟩
theorem one_newO (w : World) (a b c : Value) (t : TypeId) : ∀ j u, [a, b, c][j]? = some u → (w.alloc (.cells #[a, b, c] t)).cell? ((⟨w.heap.size, 0, none⟩ : Addr).add j) = some u := by
  intro j u hu
  match j, hu with
  | 0, hu => simp at hu; subst hu; rw [Addr.add_lit, cell_of_row _ _ _ _ _ _ (heap_alloc_new w (.cells #[a, b, c] t))]; rfl
  | 1, hu => simp at hu; subst hu; rw [Addr.add_lit, cell_of_row _ _ _ _ _ _ (heap_alloc_new w (.cells #[a, b, c] t))]; rfl
  | 2, hu => simp at hu; subst hu; rw [Addr.add_lit, cell_of_row _ _ _ _ _ _ (heap_alloc_new w (.cells #[a, b, c] t))]; rfl
theorem own_snocO {B : Nat} {w : World} {v : Value} {l : List O3} {o : O3} (h : w.ownsRow B 47 3 v (l.length + 1) (orows l ++ [.int .i64 o.c, .int .i64 o.n, .int .i64 o.m])) : w.ownsRow B 47 3 v (l ++ [o]).length (orows (l ++ [o])) := by
  rw [orows_append, List.length_append]
  exact h
theorem grown_old {w w1 w2 : World} {K B : Nat} {r : Value} {e s n : Nat} {xs : List Value} (hg : w.grownBy w1 (some K)) (ho : w1.ownsRow B e s r n xs) (hB : w.heap.size ≤ B) (h2 : w1.grownBy w2 r.ownBlock) : w.grownBy w2 (some K) :=
  ⟨h2.os.trans hg.os, h2.tape.trans hg.tape, h2.output.trans hg.output, Nat.le_trans hg.size h2.size, fun k hk hn => (h2.block k (Nat.lt_of_lt_of_le hk hg.size) (fun e2 => by have := (own_betweenZ ho e2.symm).1; omega)).trans (hg.block k hk hn)⟩

set_option maxRecDepth 100000 in
set_option maxHeartbeats 4000000 in
theorem take_ops (xs : List Nat) (hx : ∀ x ∈ xs, x < 256) (p : Nat) (K : Nat) (v : Value) (w : World) (hv : RdO K w v xs) (hp : AtP w K p) (hl : xs.length ≤ 4194304) :
    Calls Tryd.prog 40 #[v, .pointer (some ⟨K, 0, none⟩), .int .i64 3000, .func (.func 41) #[] #[]] w fun e w' => w.grownBy w' (some K) ∧ TakeOs (getOL 3000 xs p) K w.heap.size e w' := by
  obtain ⟨i0, hi, hz0, hz1, hz2⟩ := info_parts op_info16
  obtain ⟨b0, cap, ev, -⟩ := hv.now.shape
  have HT : Hid (∀ (q : Nat) (w1 : World), w.grownBy w1 (some K) → AtP w1 K q → Calls Tryd.prog 41 #[v, .pointer (some ⟨K, 0, none⟩)] w1 fun e w' => w1.grownBy w' (some K) ∧ TakeO (getO xs q) K e w') := fun q w1 hg ha => take_op xs hx q K v w1 (hv.go hg) ha hl
  have HN0 := take_numN xs hx p K v w hv hp hl
  have hlt := hp.lt
  subst ev
  obtain ⟨POST, hPOST⟩ : ∃ POST, POST = fun e w' => w.grownBy w' (some K) ∧ TakeOs (getOL 3000 xs p) K w.heap.size e w' := ⟨_, rfl⟩
  rw [← hPOST]
  cases hn : getN xs p with
  | none =>
    rw [hn] at HN0
    have HP : Hid (∀ (w' : World) (c : Int), w.grownBy w' (some K) → AtP w' K c → POST (.returned (.tuple #[.slice none 0 0, .bool false])) w') := fun w' c h1 h2 => by rw [hPOST]; exact ⟨h1, takeOs_none (getOL_none1 hn) rfl h2⟩
    clear hPOST hn hx hv hp HT
    go_enter Tryd.func40, Tryd.ntmps40
    go_wp2_with fail
    refine HN0.mono ?_
    rintro e w2 ⟨hg2, n0, c0, rfl, hat2⟩
    have H2 : Hid (w.grownBy w2 (some K) ∧ AtP w2 K c0) := ⟨hg2, hat2⟩
    clear hg2 hat2
    go_wp2_with fail
    exact HP.out _ _ H2.out.1 H2.out.2
  | some r =>
    obtain ⟨m, p2⟩ := r
    rw [hn] at HN0
    have hmb := (getN_bound hn).1
    by_cases hm : 3000 < m
    · have HP : Hid (∀ (w' : World) (c : Int), w.grownBy w' (some K) → AtP w' K c → POST (.returned (.tuple #[.slice none 0 0, .bool false])) w') := fun w' c h1 h2 => by rw [hPOST]; exact ⟨h1, takeOs_none (getOL_none2 hn hm) rfl h2⟩
      clear hPOST hn hx hv hp HT
      go_enter Tryd.func40, Tryd.ntmps40
      go_wp2_with fail
      refine HN0.mono ?_
      rintro e w2 ⟨hg2, rfl, hat2⟩
      have H2 : Hid (w.grownBy w2 (some K) ∧ AtP w2 K p2) := ⟨hg2, hat2⟩
      clear hg2 hat2
      go_wp2_with fail
      exact HP.out _ _ H2.out.1 H2.out.2
    · have hm' : m ≤ 3000 := by omega
      have HPN : Hid (getOs xs p2 m = none → ∀ (w' : World) (c : Int), w.grownBy w' (some K) → AtP w' K c → POST (.returned (.tuple #[.slice none 0 0, .bool false])) w') := fun h w' c h1 h2 => by rw [hPOST]; exact ⟨h1, takeOs_none ((getOL_some hn hm).trans h) rfl h2⟩
      have HPS : Hid (∀ (l : List O3) (q : Nat) (u : Value) (w' : World), getOs xs p2 m = some (l, q) → w.grownBy w' (some K) → w'.ownsRow w.heap.size 47 3 u l.length (orows l) → AtP w' K q → POST (.returned (.tuple #[u, .bool true])) w') := fun l q u w' h h1 h2 h3 => by rw [hPOST]; exact ⟨h1, takeOs_some ((getOL_some hn hm).trans h) rfl h2 h3⟩
      clear hPOST hn hx hv hp hm
      obtain ⟨B, hB⟩ : ∃ B, B = w.heap.size := ⟨_, rfl⟩
      have HBW : Hid (w.heap.size = B) := hB.symm
      have hKB : K < B := by omega
      rw [← hB] at HPS
      clear hB
      go_enter Tryd.func40, Tryd.ntmps40
      go_wp2_with fail
      refine HN0.mono ?_
      rintro e w2 ⟨hg2, rfl, hat2⟩
      have H2 : Hid (w.grownBy w2 (some K) ∧ AtP w2 K p2) := ⟨hg2, hat2⟩
      clear hg2 hat2
      go_wp2_with fail
      go_loopw [12, 29] (fun r i wr => ∃ (k : Nat) (r0 : Value) (l : List O3) (q : Nat), r0 = r ∧ i = .int .i64 k ∧ k ≤ m ∧ getOs xs p2 k = some (l, q) ∧ wr.ownsRow B 47 3 r0 l.length (orows l) ∧ AtP wr K q ∧ w.grownBy wr (some K)) (fun _ i _ => m - (intOf i).toNat)
      case atStart => exact ⟨0, _, [], p2, rfl, rfl, Nat.zero_le _, rfl, own_nilO _ _, H2.out.2, H2.out.1⟩
      case round =>
        obtain ⟨k, r0, l, q, rfl, rfl, hk, hgo, hown, hat, hg⟩ := hrel
        have HGO : Hid (getOs xs p2 k = some (l, q)) := hgo
        have HOW : Hid (wr.ownsRow B 47 3 r0 l.length (orows l)) := hown
        have HAG : Hid (AtP wr K q ∧ w.grownBy wr (some K)) := ⟨hat, hg⟩
        have HBS : Hid (B ≤ wr.heap.size) := by rw [← HBW.out]; exact hg.size
        have hll : l.length ≤ 3000 := by rw [getOs_len hgo]; omega
        clear hgo hown hat hg H2
        by_cases hlt : (k : Int) < m
        · have hlt' : k < m := by omega
          have HC := HT.out q wr HAG.out.2 HAG.out.1
          cases ho : getO xs q with
          | none =>
            rw [ho] at HC
            have HNO : Hid (getOs xs p2 m = none) := getOs_stop HGO.out ho m hlt'
            clear ho
            go_wp2_with fail
            refine HC.mono ?_
            rintro e w3 ⟨hg3, c0, rfl, hat3⟩
            have H3 : Hid (w.grownBy w3 (some K) ∧ AtP w3 K c0) := ⟨grown_trans HAG.out.2 hg3, hat3⟩
            have hs3 : K < w3.heap.size := hat3.lt
            clear hg3 hat3
            unfold zeroOV
            go_wp2_with fail
            exact HPN.out HNO.out _ _ (grown_new2 H3.out.1 _) (H3.out.2.kept (Below.heap_alloc _ _ _ hs3))
          | some r =>
            obtain ⟨o, q2⟩ := r
            rw [ho] at HC
            have HO : Hid (getOs xs p2 (k + 1) = some (l ++ [o], q2)) := getOs_more HGO.out ho
            clear ho
            go_wp2_with fail
            refine HC.mono ?_
            rintro e w3 ⟨hg3, rfl, hat3⟩
            have H3 : Hid (w.grownBy w3 (some K) ∧ AtP w3 K q2) := ⟨grown_trans HAG.out.2 hg3, hat3⟩
            have hs3 : K < w3.heap.size := hat3.lt
            have HO3 : Hid (w3.ownsRow B 47 3 r0 l.length (orows l)) := own_grown HOW.out hg3 (fun g e e2 => by injection e2 with e2; have := (own_betweenZ HOW.out e).1; omega)
            have HB3 : Hid (B ≤ w3.heap.size) := Nat.le_trans HBS.out hg3.size
            clear hg3 hat3 HOW HAG HBS
            unfold opV
            have HNEW : Hid (∀ j u, [Value.int .i64 o.c, .int .i64 o.n, .int .i64 o.m][j]? = some u → ((w3.alloc (.cells #[.int .i64 o.c, .int .i64 o.n, .int .i64 o.m] 47)).alloc (.cells #[.int .i64 o.c, .int .i64 o.n, .int .i64 o.m] 47)).cell? ((⟨w3.heap.size + 1, 0, none⟩ : Addr).add j) = some u) := fun j u h => by
              have h2 := one_newO (w3.alloc (.cells #[.int .i64 o.c, .int .i64 o.n, .int .i64 o.m] 47)) _ _ _ 47 j u h
              rw [show (w3.alloc (.cells #[.int .i64 o.c, .int .i64 o.n, .int .i64 o.m] 47)).heap.size = w3.heap.size + 1 by simp] at h2
              exact h2
            go_wp2_with (
              at_builtin
              refine wpList_append_1 _ rfl (.tmp 40) (.tmp 42) 43 rfl B 47 i0 (.agg #[.int .i64 0, .int .i64 0, .int .i64 0]) 3 24 Tryd.underlying43 hi hz0 hz1 hz2 rfl (by decide) r0 l.length (orows l) rfl (World.ownsRow.alloc (World.ownsRow.alloc HO3.out _) _) ⟨w3.heap.size + 1, 0, none⟩ 1 1 [.int .i64 o.c, .int .i64 o.n, .int .i64 o.m] rfl rfl HNEW.out (by simp [Value.oneCell']) (by unfold maxLen; omega) (by omega) (by have := HB3.out; simp; omega) (by decide) ?_
              intro v5 w5 hown5 hg5 hat5
              have HO5 : Hid (w5.ownsRow B 47 3 v5 (l ++ [o]).length (orows (l ++ [o]))) := own_snocO hown5
              have HG5 : Hid (w.grownBy w5 (some K)) := grown_old (grown_new2 (grown_new2 H3.out.1 _) _) (World.ownsRow.alloc (World.ownsRow.alloc HO3.out _) _) (by rw [HBW.out]; omega) hg5
              have HA5 : Hid (AtP w5 K q2) := ((H3.out.2.kept (Below.heap_alloc _ _ _ hs3)).kept (Below.heap_alloc _ _ _ (by simp; omega))).kept (hg5.block K (by simp; omega) (fun e => by have := (own_betweenZ HO3.out e.symm).1; omega))
              clear hown5 hg5 hat5)
            go_wp2_with fail
            go_roundw
            case rel => exact ⟨k + 1, _, l ++ [o], q2, rfl, by go_num, by omega, HO.out, HO5.out, HA5.out, HG5.out⟩
            case measure => simp [intOf]; omega
        · have hke : k = m := by omega
          subst hke
          go_wp2_with fail
          exact HPS.out l q _ _ HGO.out HAG.out.2 HOW.out HAG.out.1
end Go.Proofs.YtocdpgogoadfnaaDoor
