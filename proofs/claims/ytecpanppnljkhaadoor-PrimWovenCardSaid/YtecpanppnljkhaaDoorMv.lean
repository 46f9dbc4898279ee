/- PrimWoven: lists woven are the lists put together and put at the places i * many + k. -/
import Derived.Test.YtecpanppnljkhaaDoorMs
namespace Go.Proofs.YtecpanppnljkhaaDoor
set_option linter.unusedVariables false
open Go.RowKit
/-- The places of the first k lists, and of the first i of the next one. -/
def pwK (m n : Nat) : Nat → List Int
  | 0 => []
  | k + 1 => pwK m n k ++ mk (fun i => ((i * m + k : Nat) : Int)) n
theorem pwK_length (m n k : Nat) : (pwK m n k).length = k * n := by
  induction k with
  | zero => simp [pwK]
  | succ k ih => simp only [pwK]; rw [List.length_append, mk_length, ih, Nat.succ_mul]
theorem pwK_nth (m n K k i : Nat) (hk : k < K) (hi : i < n) : nth (pwK m n K) (k * n + i) = ((i * m + k : Nat) : Int) := by
  induction K with
  | zero => omega
  | succ K ih =>
    simp only [pwK]
    by_cases e : k = K
    · subst e
      rw [nth_app_ge _ _ _ (by rw [pwK_length]; omega), pwK_length, Nat.add_sub_cancel_left, nth_mk _ _ _ hi]
    · have h1 : (k + 1) * n ≤ K * n := Nat.mul_le_mul_right _ (by omega)
      rw [Nat.succ_mul] at h1
      rw [nth_app_lt _ _ _ (by rw [pwK_length]; omega), ih (by omega)]
theorem flat_length (L : List (List Int)) (n : Nat) (h : ∀ l ∈ L, l.length = n) : L.flatten.length = L.length * n := by
  induction L with
  | nil => simp
  | cons l L ih => rw [List.flatten_cons, List.length_append, ih fun x hx => h x (by simp [hx]), h l (by simp), List.length_cons, Nat.succ_mul]; omega
theorem flat_nth (L : List (List Int)) (n : Nat) (h : ∀ l ∈ L, l.length = n) (k i : Nat) (hk : k < L.length) (hi : i < n) : nth L.flatten (k * n + i) = nth (nthL L k) i := by
  induction L generalizing k with
  | nil => simp at hk
  | cons l L ih =>
    have hl := h l (by simp)
    rw [List.flatten_cons]
    match k with
    | 0 => rw [Nat.zero_mul, Nat.zero_add, nth_app_lt _ _ _ (by omega)]; rfl
    | k + 1 =>
      rw [Nat.succ_mul, nth_app_ge _ _ _ (by omega), hl, show k * n + n + i - n = k * n + i by omega, ih (fun x hx => h x (by simp [hx])) k (by simpa using hk)]
      rfl
theorem weK_nth (L : List (List Int)) (n k i : Nat) (hk : k < L.length) (hi : i < n) : nth (weK L n) (i * L.length + k) = nth (nthL L k) i := by
  induction n with
  | zero => omega
  | succ n ih =>
    simp only [weK]
    by_cases e : i = n
    · subst e
      rw [nth_app_ge _ _ _ (by rw [weK_length]; omega), weK_length, Nat.add_sub_cancel_left, weR, nth_mk _ _ _ hk]
      rfl
    · have h1 : (i + 1) * L.length ≤ n * L.length := Nat.mul_le_mul_right _ (by omega)
      rw [Nat.succ_mul] at h1
      rw [nth_app_lt _ _ _ (by rw [weK_length]; omega), ih (by omega)]
theorem divmod (j n : Nat) (hn : 0 < n) : j = (j / n) * n + j % n ∧ j % n < n := ⟨by have := Nat.div_add_mod j n; rw [Nat.mul_comm] at this; omega, Nat.mod_lt _ hn⟩
theorem div_lt' (j m n : Nat) (hn : 0 < n) (h : j < m * n) : j / n < m := by
  rw [Nat.div_lt_iff_lt_mul hn]; exact h
theorem pair_inj {m i i' k k' : Nat} (hk : k < m) (hk' : k' < m) (e : i * m + k = i' * m + k') : i = i' ∧ k = k' := by
  have h1 : (i * m + k) / m = i := by rw [Nat.mul_comm, Nat.mul_add_div (by omega), Nat.div_eq_of_lt hk]; omega
  have h2 : (i' * m + k') / m = i' := by rw [Nat.mul_comm, Nat.mul_add_div (by omega), Nat.div_eq_of_lt hk']; omega
  have h3 : i = i' := by rw [← h1, ← h2, e]
  subst h3
  exact ⟨rfl, by omega⟩
theorem pw_bound {m n i k : Nat} (hi : i < n) (hk : k < m) : i * m + k < m * n := by
  have h1 : (i + 1) * m ≤ n * m := Nat.mul_le_mul_right _ hi
  rw [Nat.succ_mul] at h1
  rw [Nat.mul_comm m n]; omega
theorem pw_ord (m n : Nat) : Ord (pwK m n m) (m * n) := by
  rcases Nat.eq_zero_or_pos n with h0 | hn
  · subst h0
    refine ⟨by rw [pwK_length], fun k hk => by omega, fun i j hi _ _ => by omega, fun j hj => by omega⟩
  have hm : ∀ j, j < m * n → 0 < m := fun j hj => by
    rcases Nat.eq_zero_or_pos m with h | h
    · subst h; omega
    · exact h
  have key : ∀ j, j < m * n → j / n < m ∧ j % n < n ∧ nth (pwK m n m) j = (((j % n) * m + j / n : Nat) : Int) := fun j hj => by
    obtain ⟨h1, h2⟩ := divmod j n hn
    have h3 := div_lt' j m n hn hj
    have := pwK_nth m n m (j / n) (j % n) h3 h2
    rw [← h1] at this
    exact ⟨h3, h2, this⟩
  refine ⟨by rw [pwK_length], fun k hk => ?_, fun i j hi hj e => ?_, fun j hj => ?_⟩
  · obtain ⟨h1, h2, h3⟩ := key k hk
    have h4 := pw_bound h2 h1
    obtain ⟨q, hq⟩ : ∃ q, k % n * m + k / n = q := ⟨_, rfl⟩
    obtain ⟨r, hr⟩ : ∃ r, m * n = r := ⟨_, rfl⟩
    rw [hq] at h3 h4
    rw [hr] at h4
    rw [h3, hr]
    clear key h1 h2 h3 hq hr
    omega
  · obtain ⟨h1, h2, h3⟩ := key i hi
    obtain ⟨g1, g2, g3⟩ := key j hj
    rw [h3, g3] at e
    obtain ⟨e1, e2⟩ := pair_inj h1 g1 (Int.ofNat.inj e)
    have a := (divmod i n hn).1
    have b := (divmod j n hn).1
    rw [e2, e1] at a
    omega
  · have hm0 := hm j hj
    obtain ⟨h1, h2⟩ := divmod j m hm0
    have h3 := div_lt' j n m hm0 (by rw [Nat.mul_comm n m]; exact hj)
    refine ⟨j % m * n + j / m, ?_, ?_⟩
    · have := pw_bound (m := n) (n := m) h2 h3
      rw [Nat.mul_comm m n]; exact this
    · rw [pwK_nth m n m (j % m) (j / m) h2 h3, ← h1]
theorem flat_word {L : List (List Int)} (h : ∀ l ∈ L, ∀ x ∈ l, isW x) : ∀ x ∈ L.flatten, isW x := by
  intro x hx
  obtain ⟨l, hl, hx2⟩ := List.mem_flatten.1 hx
  exact h l hl x hx2
theorem woven_put {L : List (List Int)} {n : Nat} (h : ∀ l ∈ L, l.length = n) (h0 : 0 < L.length) : putL L.flatten (pwK L.length n L.length) = weK L n := by
  have hO := pw_ord L.length n
  have hf := flat_length L n h
  apply eq_of_nth (by rw [putL_len, weK_length, hf, Nat.mul_comm])
  intro j hj
  rw [putL_len, hf] at hj
  obtain ⟨h1, h2⟩ := divmod j L.length h0
  have h3 := div_lt' j n L.length h0 (by rw [Nat.mul_comm n]; exact hj)
  have hb := pw_bound (m := n) (n := L.length) h2 h3
  have hp := pwK_nth L.length n L.length (j % L.length) (j / L.length) h2 h3
  have hr := putL_read hO hf (j % L.length * n + j / L.length) (by rw [Nat.mul_comm L.length n]; exact hb)
  rw [hp, ← h1, Int.toNat_natCast] at hr
  rw [hr, flat_nth L n h _ _ h2 h3]
  have := weK_nth L n (j % L.length) (j / L.length) h2 h3
  rw [← h1] at this
  exact this.symm
theorem woven_E {L : List (List Int)} {n : Nat} (h : ∀ l ∈ L, l.length = n) (hw : ∀ l ∈ L, ∀ x ∈ l, isW x) (h0 : 0 < L.length) (h1 : L.length ≤ 10) (hn : n ≤ 30) : weE L = 0 ∧ weL L = weK L n ∧ putE L.flatten (pwK L.length n L.length) = 0 := by
  have h3 : lsE L = 0 := ls_of _ (fun l hl => by have := h l hl; omega) hw
  have hh : (L.headD []).length = n := by
    match L, h0 with
    | l :: L, _ => exact h l (by simp)
  have h4 : evE L = 0 := by
    unfold evE
    rw [if_pos h3, if_pos (by unfold evenB; rw [List.all_eq_true]; intro l hl; rw [hh]; simpa using h l hl)]
  have hb : L.length * n ≤ 10 * 30 := Nat.mul_le_mul h1 hn
  refine ⟨?_, by unfold weL; rw [hh], ?_⟩
  · unfold weE
    rw [if_pos h4, if_neg (by omega), hh, if_neg (by omega)]
  · exact putE_0 (pw_ord L.length n) (flat_length L n h) (by omega) (flat_word hw)
end Go.Proofs.YtecpanppnljkhaaDoor
