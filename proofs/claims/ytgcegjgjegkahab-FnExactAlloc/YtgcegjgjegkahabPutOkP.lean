/- A heap with a block put behind all is right just where what the block holds is there. No conditions. -/
import Derived.Test.YtgcegjgjegkahabRowW17
namespace Go.Proofs.Ytgcegjgjegkahab
open Go.ChangeShapes Go.WideShapes Go.ChangeAt Go.RowKit

theorem putW_get {ws ks : List Int} {p : Nat} {x : Int} (h : p + 1 + ks.length ≤ ws.length) (j : Nat) :
    (putW ws p x ks)[j]? = if j < p then ws[j]? else if j = p then some x else if j < p + 1 + ks.length then ks[j - (p + 1)]? else ws[j]? := by
  have hl : (ws.set p x).length = ws.length := List.length_set
  unfold putW splice
  have h1 : ((ws.set p x).take (p + 1)).length = p + 1 := by rw [List.length_take]; omega
  by_cases hj : j < p + 1
  · rw [List.getElem?_append_left (by omega), List.getElem?_take_of_lt hj]
    by_cases hj2 : j < p
    · rw [if_pos hj2, List.getElem?_set_ne (by omega)]
    · have : j = p := by omega
      subst this
      rw [if_neg (by omega), if_pos rfl, List.getElem?_set_self (by omega)]
  · rw [List.getElem?_append_right (by omega), h1, if_neg (by omega), if_neg (by omega)]
    by_cases hk : j < p + 1 + ks.length
    · rw [if_pos hk, List.getElem?_append_left (by omega)]
    · rw [if_neg hk, List.getElem?_append_right (by omega), List.getElem?_drop, List.getElem?_set_ne (by omega)]
      congr 1; omega
theorem putW_lo {ws ks : List Int} {p : Nat} {x : Int} (h : p + 1 + ks.length ≤ ws.length) {j : Nat} (hj : j < p) : (putW ws p x ks).getD j 0 = ws.getD j 0 := by
  rw [List.getD_eq_getElem?_getD, putW_get h, if_pos hj, ← List.getD_eq_getElem?_getD]
theorem putW_at {ws ks : List Int} {p : Nat} {x : Int} (h : p + 1 + ks.length ≤ ws.length) : (putW ws p x ks).getD p 0 = x := by
  rw [List.getD_eq_getElem?_getD, putW_get h, if_neg (by omega), if_pos rfl]; rfl
/-- All numbers of a heap in which a block was put are ints of 64 bits. -/
theorem putW_small {ws ks : List Int} {p : Nat} {x : Int} (h : p + 1 + ks.length ≤ ws.length) (hw : Small64 ws) (hk : Small64 ks) (hx : -9223372036854775808 ≤ x ∧ x ≤ 9223372036854775807) : Small64 (putW ws p x ks) := by
  intro j
  rw [List.getD_eq_getElem?_getD, putW_get h]
  by_cases h1 : j < p
  · rw [if_pos h1, ← List.getD_eq_getElem?_getD]; exact hw j
  · rw [if_neg h1]
    by_cases h2 : j = p
    · rw [if_pos h2]; exact hx
    · rw [if_neg h2]
      by_cases h3 : j < p + 1 + ks.length
      · rw [if_pos h3, ← List.getD_eq_getElem?_getD]; exact hk _
      · rw [if_neg h3, ← List.getD_eq_getElem?_getD]; exact hw j

theorem blockB_wide {ws ks : List Int} {a n m : Nat} {x : Int} (h : n + 1 + ks.length ≤ ws.length) (ha : a < n) (hnm : n ≤ m) (hb : blockB ws a n = true) : blockB (putW ws n x ks) a m = true := by
  unfold blockB at *
  rw [putW_lo h ha]
  rw [Bool.and_eq_true, decide_eq_true_eq] at *
  exact ⟨hb.1, by omega⟩
theorem places_put {ws ks : List Int} {n : Nat} {x : Int} (h : n + 1 + ks.length ≤ ws.length) (hhd : headB x = true) (hmx : manyW x = (ks.length : Nat)) :
    ∀ (f a : Nat) (L : List Int), n - a ≤ f → a ≤ n → placesL ws a n = some L → placesL (putW ws n x ks) a (n + 1 + ks.length) = some (L ++ [(n : Int)]) := by
  have hlast : placesL (putW ws n x ks) n (n + 1 + ks.length) = some [(n : Int)] := by
    have hb : blockB (putW ws n x ks) n (n + 1 + ks.length) = true := by
      unfold blockB
      rw [putW_at h, hhd, hmx, Bool.true_and, decide_eq_true_eq]; omega
    rw [places_more (by omega) hb]
    have hn : nextA (putW ws n x ks) n = n + 1 + ks.length := by unfold nextA; rw [putW_at h, hmx]; simp
    rw [hn, places_end (by omega)]
    rfl
  intro f
  induction f with
  | zero =>
    intro a L hf ha hp
    have : a = n := by omega
    subst this
    rw [places_end (by omega)] at hp
    injection hp with hp
    subst hp
    exact hlast
  | succ f ih =>
    intro a L hf ha hp
    by_cases hlt : a < n
    · cases hb : blockB ws a n with
      | false => rw [places_bad hlt hb] at hp; cases hp
      | true =>
        rw [places_more hlt hb] at hp
        cases hp2 : placesL ws (nextA ws a) n with
        | none => rw [hp2] at hp; cases hp
        | some M =>
          rw [hp2] at hp
          injection hp with hp
          subst hp
          have hnx : nextA (putW ws n x ks) a = nextA ws a := by unfold nextA; rw [putW_lo h hlt]
          have hg := next_gt ws a
          rw [places_more (by omega) (blockB_wide h hlt (by omega) hb), hnx, ih (nextA ws a) M (by omega) (next_le hb) hp2]
          rfl
    · have : a = n := by omega
      subst this
      rw [places_end (by omega)] at hp
      injection hp with hp
      subst hp
      exact hlast
theorem kids_lo {ws ks : List Int} {n p : Nat} {x : Int} (h : n + 1 + ks.length ≤ ws.length) (hp : p < n) (hb : blockB ws p n = true) : kidsW (putW ws n x ks) p = kidsW ws p := by
  have hk := (kids_len hb (by omega)).2
  unfold kidsW
  rw [putW_lo h hp]
  refine List.ext_getElem? fun i => ?_
  rcases Nat.lt_or_ge i (manyW (ws.getD p 0)).toNat with h1 | h1
  · rw [List.getElem?_take_of_lt h1, List.getElem?_take_of_lt h1, List.getElem?_drop, List.getElem?_drop, putW_get h, if_pos (by omega)]
  · rw [List.getElem?_eq_none (by rw [List.length_take]; omega), List.getElem?_eq_none (by rw [List.length_take]; omega)]
theorem kids_new {ws ks : List Int} {n : Nat} {x : Int} (h : n + 1 + ks.length ≤ ws.length) (hmx : manyW x = (ks.length : Nat)) : kidsW (putW ws n x ks) n = ks := by
  unfold kidsW
  rw [putW_at h, hmx, Int.toNat_natCast]
  refine List.ext_getElem? fun i => ?_
  rcases Nat.lt_or_ge i ks.length with h1 | h1
  · rw [List.getElem?_take_of_lt h1, List.getElem?_drop, putW_get h, if_neg (by omega), if_neg (by omega), if_pos (by omega)]
    congr 1; omega
  · rw [List.getElem?_eq_none (by rw [List.length_take]; omega), List.getElem?_eq_none h1]
theorem there_more {L M : List Int} {w : Int} (h : thereB L w = true) : thereB (L ++ M) w = true := by
  unfold thereB at *
  by_cases he : evenW w = true
  · rw [if_pos he] at *
    rw [has_iff] at *
    exact List.mem_append_left _ h
  · rw [if_neg he] at *; exact h
theorem allB_more {L M xs : List Int} (h : allB L xs = true) : allB (L ++ M) xs = true := by
  unfold allB at *
  rw [List.all_eq_true] at *
  exact fun x hx => there_more (h x hx)

theorem put_ok {ws ks : List Int} {half base next t : Int} {f : Bool} {L : List Int} (hb : blocksB ⟨ws, half, base, next⟩ = some L) (ht0 : 0 ≤ t) (ht1 : t ≤ 3000) (hk : ks.length ≤ 20) (hr : ¬ half - (next - base) < 1 + (ks.length : Nat)) :
    hpOkB (putH ⟨ws, half, base, next⟩ f t ks) = allB (L ++ [next]) ks := by
  have hh : halvesB ⟨ws, half, base, next⟩ = true := by
    cases h1 : halvesB ⟨ws, half, base, next⟩ with
    | true => rfl
    | false => rw [blocks_nohalf h1] at hb; cases hb
  obtain ⟨b, n, hb0, hn0, hbn, hnl, hl6, hnb⟩ := halves_nat hh
  have hb0 : base = (b : Int) := hb0
  have hn0 : next = (n : Int) := hn0
  subst hb0
  subst hn0
  have hi := halves_iff.1 hh
  have hi2 : (1 ≤ half ∧ half ≤ 3000) ∧ (ws.length : Int) = 2 * half ∧ ((b : Int) = 0 ∨ (b : Int) = half) ∧ (b : Int) ≤ n ∧ (n : Int) ≤ b + half := hi
  obtain ⟨hi3, hi4, hi5, hi6, hi7⟩ := hi2
  have hfit : n + 1 + ks.length ≤ ws.length := by omega
  obtain ⟨hf1, hf2, hf3, hf4, hf5⟩ := hd_parts (f := f) (t := t) (k := (ks.length : Nat)) ht0 (by omega) (by omega)
  have hhd : headB (hdW f t (ks.length : Nat)) = true := head_iff.2 ⟨hf4, hf5, by rw [hf2]; exact ht1, by rw [hf3]; omega⟩
  have hputw : putH ⟨ws, half, b, n⟩ f t ks = ⟨putW ws n (hdW f t (ks.length : Nat)) ks, half, b, ((n + 1 + ks.length : Nat) : Int)⟩ := by
    unfold putH
    rw [Int.toNat_natCast]
    congr 1
    show (n : Int) + (1 + (ks.length : Nat)) = _
    omega
  rw [blocks_half hh rfl rfl] at hb
  cases hp : placesL ws b n with
  | none => rw [hp] at hb; cases hb
  | some M =>
    have hb : (if M.all (fun p => allB M (kidsW ws p.toNat)) then some M else none) = some L := by rw [hp] at hb; exact hb
    cases hall : M.all (fun p => allB M (kidsW ws p.toNat)) with
    | false => rw [hall] at hb; cases hb
    | true =>
      rw [hall, if_pos rfl] at hb
      injection hb with hb
      subst hb
      have hpf := places_facts (n - b) ws b n M (Nat.le_refl _) hbn hp
      have hpl := places_put hfit hhd hf3 (n - b) b M (Nat.le_refl _) hbn hp
      have hh2 : halvesB ⟨putW ws n (hdW f t (ks.length : Nat)) ks, half, b, ((n + 1 + ks.length : Nat) : Int)⟩ = true := by
        rw [halves_iff]
        show (1 ≤ half ∧ half ≤ 3000) ∧ ((putW ws n (hdW f t (ks.length : Nat)) ks).length : Int) = 2 * half ∧ ((b : Int) = 0 ∨ (b : Int) = half) ∧ (b : Int) ≤ ((n + 1 + ks.length : Nat) : Int) ∧ ((n + 1 + ks.length : Nat) : Int) ≤ b + half
        rw [putW_len hfit]
        exact ⟨hi3, hi4, hi5, by omega, by omega⟩
      rw [hputw]
      unfold hpOkB
      rw [blocks_half hh2 rfl rfl]
      show (match placesL (putW ws n (hdW f t (ks.length : Nat)) ks) b (n + 1 + ks.length) with | none => none | some L => if L.all (fun p => allB L (kidsW (putW ws n (hdW f t (ks.length : Nat)) ks) p.toNat)) then some L else none).isSome = _
      rw [hpl]
      show (if (M ++ [(n : Int)]).all (fun p => allB (M ++ [(n : Int)]) (kidsW (putW ws n (hdW f t (ks.length : Nat)) ks) p.toNat)) then some (M ++ [(n : Int)]) else none).isSome = _
      have hAll : (M ++ [(n : Int)]).all (fun p => allB (M ++ [(n : Int)]) (kidsW (putW ws n (hdW f t (ks.length : Nat)) ks) p.toNat)) = allB (M ++ [(n : Int)]) ks := by
        rw [List.all_append]
        have h1 : M.all (fun p => allB (M ++ [(n : Int)]) (kidsW (putW ws n (hdW f t (ks.length : Nat)) ks) p.toNat)) = true := by
          rw [List.all_eq_true] at hall ⊢
          intro x hx
          obtain ⟨hx1, hx2, hx3⟩ := hpf.2.1 x hx
          rw [kids_lo hfit (by omega) hx3]
          exact allB_more (hall x hx)
        rw [h1, Bool.true_and]
        simp only [List.all_cons, List.all_nil, Bool.and_true, Int.toNat_natCast]
        rw [kids_new hfit hf3]
      rw [hAll]
      cases allB (M ++ [(n : Int)]) ks <;> rfl
end Go.Proofs.Ytgcegjgjegkahab
