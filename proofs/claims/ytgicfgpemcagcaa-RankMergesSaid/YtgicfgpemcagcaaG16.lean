/- Walks and mathematics of rank, part 16. -/
import Derived.Test.YtgicfgpemcagcaaG14
import Derived.Deep.DeepCutAuto
import Derived.Test.YtgicfgpemcagcaaG15
/- Walks of rank: slices.IsSorted, and the specification's isSorted. -/
namespace Go.Proofs.Ytgicfgpemcagcaa
set_option linter.unusedVariables false
set_option maxRecDepth 100000
open Go.RowKit Go.Shelf
theorem cisNaN_any (n : Int) (w : World) : Calls Try.prog 86 #[.int .i64 n] w fun e w' => e = .returned (.bool false) ∧ w = w' := by
  have h : (n != n) = false := by simp
  go_enter Try.func86, Try.ntmps86
  go_wp2
  go_ret
  exact ⟨rfl, rfl⟩
theorem cless_any (a b : Int) (w : World) : Calls Try.prog 77 #[.int .i64 a, .int .i64 b] w fun e w' => e = .returned (.bool (decide (a < b))) ∧ w = w' := by
  go_enter Try.func77, Try.ntmps77
  go_wp2_with (go_at_call 86; refine (cisNaN_any _ _).mono ?_; rintro e w' ⟨rfl, rfl⟩)
  go_ret
  exact ⟨rfl, rfl⟩
def Rising (zs : List Int) : Prop := ∀ j, j + 1 < zs.length → nth zs j ≤ nth zs (j + 1)
def risB (zs : List Int) : Bool := (List.range (zs.length - 1)).all fun j => decide (nth zs j ≤ nth zs (j + 1))
theorem risB_iff (zs : List Int) : risB zs = true ↔ Rising zs := by
  unfold risB Rising
  rw [List.all_eq_true]
  constructor
  · intro h j hj
    have := h j (List.mem_range.2 (by omega))
    simpa using this
  · intro h j hj
    have := h j (by have := List.mem_range.1 hj; omega)
    simpa using this
theorem risB_t {zs : List Int} (h : Rising zs) : risB zs = true := (risB_iff zs).2 h
theorem risB_f {zs : List Int} {j : Nat} (hj : j + 1 < zs.length) (h : nth zs (j + 1) < nth zs j) : risB zs = false := by
  cases e : risB zs with
  | false => rfl
  | true => have := (risB_iff zs).1 e j hj; omega
set_option maxRecDepth 100000 in
set_option maxHeartbeats 2000000 in
theorem isSorted_gen (A : Option Addr) (c : Nat) (zs : List Int) (w : World) (h : Sl w A zs) (hl : zs.length ≤ 1048577) :
    Calls Try.prog 59 #[.slice A zs.length c] w (Drew w (.bool (risB zs))) := by
  have HF := Lib.hid (fun j hj hh => risB_f (zs := zs) (j := j) hj hh)
  have HT := Lib.hid (fun hh => risB_t (zs := zs) hh)
  obtain ⟨r, hr⟩ : ∃ r, risB zs = r := ⟨_, rfl⟩
  simp only [hr] at HF HT
  rw [hr]
  clear hr
  go_enter Try.func59, Try.ntmps59
  go_wp2
  go_loopw [3] (fun i wr => ∃ (m : Nat) (x : Int), i = .int .i64 x ∧ -1 ≤ x ∧ x < (zs.length : Int) ∧ wr = w.drewN m ∧ Hid (∀ j : Nat, x ≤ (j : Int) → j + 1 < zs.length → nth zs j ≤ nth zs (j + 1))) (fun i _ => (intOf i).toNat)
  case atStart => exact ⟨0, (zs.length : Int) - 1, rfl, by omega, by omega, rfl, Lib.hid (fun j h1 h2 => absurd h2 (by omega))⟩
  case round =>
    obtain ⟨m, x, rfl, h1, h2, rfl, HA⟩ := hrel
    by_cases hp : 0 < x
    · obtain ⟨k, rfl⟩ : ∃ k : Nat, x = (k : Int) + 1 := ⟨(x - 1).toNat, by omega⟩
      obtain ⟨b, off, rfl, hb, hc⟩ := h (by omega)
      obtain ⟨W, HW⟩ : ∃ W, Hid (w.drewN m = W) := ⟨_, Lib.hid rfl⟩
      have hc1 : W.cell? ⟨b, off + k, none⟩ = some (.int .i64 (nth zs k)) := by rw [← HW.out]; exact hc k (by omega)
      have hc2 : W.cell? ⟨b, off + (k + 1), none⟩ = some (.int .i64 (nth zs (k + 1))) := by rw [← HW.out]; exact hc (k + 1) (by omega)
      rw [HW.out]
      clear hc
      have hw1 : IntKind.i64.wrap (k : Int) = (k : Int) := IntWalk.i64_in _ (by omega)
      have g1 : (0 : Int) ≤ (k : Int) + 1 := by omega
      have g2 : (k : Int) + 1 < (zs.length : Int) := by omega
      have g3 : ((k : Int) + 1).toNat = k + 1 := by omega
      have g4 : (0 : Int) ≤ (k : Int) := by omega
      have g5 : (k : Int) < (zs.length : Int) := by omega
      by_cases hle : nth zs (k + 1) < nth zs k
      · have HR := Lib.hid (HF.out k (by omega) hle)
        have C1 : ∀ W, Calls Try.prog 77 #[.int .i64 (nth zs (k + 1)), .int .i64 (nth zs k)] W fun e w' => e = .returned (.bool true) ∧ w' = W := fun W => by
          have := cless_any (nth zs (k + 1)) (nth zs k) W
          rw [decide_eq_true hle] at this
          exact this.mono fun _ _ ⟨a, b⟩ => ⟨a, b.symm⟩
        go_wp2
        go_quiet ((go_at_call 77; exact Calls.quiet_of_same (C1 _)))
        go_wp2
        go_ret
        exact ⟨by rw [HR.out]; rfl, _, by rw [← HW.out]; exact World.drewN_drewN _ _ _⟩
      · have HN : Hid (∀ j : Nat, (k : Int) ≤ (j : Int) → j + 1 < zs.length → nth zs j ≤ nth zs (j + 1)) := Lib.hid (fun j h1 h2 => by
          by_cases e : j = k
          · subst e; omega
          · exact HA.out j (by omega) h2)
        have C1 : ∀ W, Calls Try.prog 77 #[.int .i64 (nth zs (k + 1)), .int .i64 (nth zs k)] W fun e w' => e = .returned (.bool false) ∧ w' = W := fun W => by
          have := cless_any (nth zs (k + 1)) (nth zs k) W
          rw [decide_eq_false (by omega)] at this
          exact this.mono fun _ _ ⟨a, b⟩ => ⟨a, b.symm⟩
        go_wp2
        go_quiet ((go_at_call 77; exact Calls.quiet_of_same (C1 _)))
        go_wp2
        go_roundw
        case rel => exact ⟨_, (k : Int), by first | rfl | (congr 1; omega), by omega, by omega, by rw [← HW.out]; exact World.drewN_drewN _ _ _, HN⟩
        case measure => simp [intOf]
    · have HR := Lib.hid (HT.out (fun j hj => HA.out j (by omega) hj))
      go_wp2
      go_ret
      exact ⟨by rw [HR.out]; rfl, m, rfl⟩
set_option maxRecDepth 100000 in
set_option maxHeartbeats 2000000 in
theorem risSorted_gen (A : Option Addr) (c : Nat) (zs : List Int) (w : World) (h : Sl w A zs) (hl : zs.length ≤ 1048577) :
    Calls Try.prog 62 #[.slice A zs.length c] w (Drew w (.bool (risB zs))) := by
  have HF := Lib.hid (fun j hj hh => risB_f (zs := zs) (j := j) hj hh)
  have HT := Lib.hid (fun hh => risB_t (zs := zs) hh)
  obtain ⟨r, hr⟩ : ∃ r, risB zs = r := ⟨_, rfl⟩
  simp only [hr] at HF HT
  rw [hr]
  clear hr
  go_enter Try.func62, Try.ntmps62
  go_wp2
  go_loopw [3] (fun i wr => ∃ (m k : Nat), i = .int .i64 ((k : Int) + 1) ∧ k ≤ zs.length ∧ wr = w.drewN m ∧ Hid (∀ j : Nat, j < k → j + 1 < zs.length → nth zs j ≤ nth zs (j + 1))) (fun i _ => zs.length + 1 - (intOf i).toNat)
  case atStart => exact ⟨0, 0, rfl, Nat.zero_le _, rfl, Lib.hid (fun j h1 h2 => absurd h1 (by omega))⟩
  case round =>
    obtain ⟨m, k, rfl, h1, rfl, HA⟩ := hrel
    by_cases hp : k + 1 < zs.length
    · obtain ⟨b, off, rfl, hb, hc⟩ := h (by omega)
      obtain ⟨W, HW⟩ : ∃ W, Hid (w.drewN m = W) := ⟨_, Lib.hid rfl⟩
      have hc1 : W.cell? ⟨b, off + k, none⟩ = some (.int .i64 (nth zs k)) := by rw [← HW.out]; exact hc k (by omega)
      have hc2 : W.cell? ⟨b, off + (k + 1), none⟩ = some (.int .i64 (nth zs (k + 1))) := by rw [← HW.out]; exact hc (k + 1) (by omega)
      rw [HW.out]
      clear hc
      have hw1 : IntKind.i64.wrap (k : Int) = (k : Int) := IntWalk.i64_in _ (by omega)
      have g1 : (0 : Int) ≤ (k : Int) + 1 := by omega
      have g2 : (k : Int) + 1 < (zs.length : Int) := by omega
      have g3 : ((k : Int) + 1).toNat = k + 1 := by omega
      have g4 : (0 : Int) ≤ (k : Int) := by omega
      have g5 : (k : Int) < (zs.length : Int) := by omega
      by_cases hle : nth zs (k + 1) < nth zs k
      · have HR := Lib.hid (HF.out k (by omega) hle)
        go_wp2
        go_quiet (fail)
        go_wp2
        go_ret
        exact ⟨by rw [HR.out]; rfl, _, by rw [← HW.out]; exact World.drewN_drewN _ _ _⟩
      · have HN : Hid (∀ j : Nat, j < k + 1 → j + 1 < zs.length → nth zs j ≤ nth zs (j + 1)) := Lib.hid (fun j h1 h2 => by
          by_cases e : j = k
          · subst e; omega
          · exact HA.out j (by omega) h2)
        go_wp2
        go_quiet (fail)
        go_wp2
        go_roundw
        case rel => exact ⟨_, k + 1, by go_num, by omega, by rw [← HW.out]; exact World.drewN_drewN _ _ _, HN⟩
        case measure => simp [intOf]; omega
    · have HR := Lib.hid (HT.out (fun j hj => HA.out j (by omega) hj))
      have g2 : ¬ ((k : Int) + 1 < (zs.length : Int)) := by omega
      go_wp2
      go_ret
      exact ⟨by rw [HR.out]; rfl, m, rfl⟩
end Go.Proofs.Ytgicfgpemcagcaa
/- The mathematics of merging, ranks and firsts. -/
namespace Go.Proofs.Ytgicfgpemcagcaa
set_option linter.unusedVariables false
open Go.RowKit
/-! ### merging -/
def meE (a b : List Int) : Int := if a.length + b.length ≤ 1048576 then (if lsE [a, b] = 0 then (if (risB a && risB b) = true then 0 else 7) else lsE [a, b]) else 3
def amL (l o : List Int) (g : Int) : List Int := mk (fun i => ((i + o.countP (fun x => decide (x < nth l i + g)) : Nat) : Int)) l.length
theorem amL_len (l o : List Int) (g : Int) : (amL l o g).length = l.length := mk_length _ _
theorem ris_le {l : List Int} (h : Rising l) : ∀ (j i : Nat), i ≤ j → j < l.length → nth l i ≤ nth l j
  | 0, i, hi, hj => by obtain rfl : i = 0 := by omega
                       exact Int.le_refl _
  | j + 1, i, hi, hj => by
    by_cases e : i = j + 1
    · subst e; exact Int.le_refl _
    · exact Int.le_trans (ris_le h j i (by omega) (by omega)) (h j hj)
theorem pairwise_nth {r : Int → Int → Prop} {l : List Int} : l.Pairwise r ↔ ∀ i j, i < j → j < l.length → r (nth l i) (nth l j) := by
  rw [List.pairwise_iff_getElem]
  constructor
  · intro h i j hij hj
    rw [nth_eq l i (by omega), nth_eq l j hj]
    exact h i j (by omega) hj hij
  · intro h i j hi hj hij
    rw [← nth_eq l i hi, ← nth_eq l j hj]
    exact h i j hij hj
theorem ris_pairwise {l : List Int} (h : Rising l) : l.Pairwise (· ≤ ·) := pairwise_nth.2 fun i j hij hj => ris_le h j i (by omega) hj
/-! ### the different words of a list, in order -/
def insL (n : Int) : List Int → List Int
  | [] => [n]
  | x :: xs => if n < x then n :: x :: xs else if n = x then x :: xs else x :: insL n xs
theorem mem_insL {n y : Int} : ∀ {l : List Int}, y ∈ insL n l ↔ y = n ∨ y ∈ l
  | [] => by simp [insL]
  | x :: xs => by
    unfold insL
    split
    · simp
    · split
      · rename_i h; subst h; simp
      · rw [List.mem_cons, mem_insL (l := xs), List.mem_cons]; constructor <;> (intro h; rcases h with h | h | h <;> simp [h])
theorem insL_order {n : Int} : ∀ {l : List Int}, l.Pairwise (· < ·) → (insL n l).Pairwise (· < ·)
  | [], _ => by simp [insL]
  | x :: xs, h => by
    have h' := List.pairwise_cons.1 h
    unfold insL
    split
    · rename_i hn
      refine List.pairwise_cons.2 ⟨fun y hy => ?_, h⟩
      rcases List.mem_cons.1 hy with rfl | hy
      · exact hn
      · exact Int.lt_trans hn (h'.1 y hy)
    · split
      · exact h
      · refine List.pairwise_cons.2 ⟨fun y hy => ?_, insL_order h'.2⟩
        rcases mem_insL.1 hy with rfl | hy
        · omega
        · exact h'.1 y hy
def difL (l : List Int) : List Int := l.foldl (fun a n => insL n a) []
theorem dif_fold : ∀ (l a : List Int), a.Pairwise (· < ·) → (l.foldl (fun a n => insL n a) a).Pairwise (· < ·) ∧ ∀ y, y ∈ l.foldl (fun a n => insL n a) a ↔ y ∈ a ∨ y ∈ l
  | [], a, h => ⟨h, fun y => by simp⟩
  | x :: xs, a, h => by
    obtain ⟨h1, h2⟩ := dif_fold xs (insL x a) (insL_order h)
    refine ⟨h1, fun y => ?_⟩
    rw [List.foldl_cons, h2, mem_insL, List.mem_cons]
    exact ⟨fun h => (by rcases h with (h | h) | h <;> simp [h]), fun h => (by rcases h with h | h | h <;> simp [h])⟩
theorem difL_order (l : List Int) : (difL l).Pairwise (· < ·) := (dif_fold l [] List.Pairwise.nil).1
theorem mem_difL (l : List Int) (y : Int) : y ∈ difL l ↔ y ∈ l := by unfold difL; rw [(dif_fold l [] List.Pairwise.nil).2]; simp
theorem insL_len (n : Int) : ∀ l : List Int, (insL n l).length ≤ l.length + 1
  | [] => by simp [insL]
  | x :: xs => by
    have := insL_len n xs
    unfold insL
    split
    · simp
    · split
      · simp
      · simp only [List.length_cons]; omega
/-- How many different words of a list are less than a word. -/
def rkN (l : List Int) (x : Int) : Nat := (difL l).countP fun y => decide (y < x)
theorem countP_lt_at {U : List Int} (h : U.Pairwise (· < ·)) (j : Nat) (hj : j < U.length) : U.countP (fun y => decide (y < nth U j)) = j :=
  countP_at (fun a b => decide (a < b)) (fun a => by simp) (fun a b h => by simp at h ⊢; omega) U (h.imp (fun h => by simpa using h)) j hj
theorem rkN_least {l : List Int} {x : Int} (h : ∀ y ∈ l, x ≤ y) : rkN l x = 0 := by
  unfold rkN
  rw [List.countP_eq_zero]
  intro y hy
  have := h y ((mem_difL l y).1 hy)
  simp; omega
theorem rkN_next {l : List Int} {x z : Int} (hx : x ∈ l) (hxz : x < z) (hn : ∀ y ∈ l, y < z → y ≤ x) : rkN l z = rkN l x + 1 := by
  unfold rkN
  have hU := difL_order l
  obtain ⟨j, hj, hjx⟩ := List.mem_iff_getElem.1 ((mem_difL l x).2 hx)
  rw [← nth_eq _ _ hj] at hjx
  have h1 := countP_lt_at hU j hj
  rw [hjx] at h1
  rw [h1]
  have hlt := pairwise_nth.1 hU
  by_cases hj2 : j + 1 < (difL l).length
  · have h2 := countP_lt_at hU (j + 1) hj2
    have h3 := hlt j (j + 1) (by omega) hj2
    rw [hjx] at h3
    rw [← h2]
    refine List.countP_congr fun y hy => ?_
    have hyl := hn y ((mem_difL l y).1 hy)
    have hzl := hn _ ((mem_difL l _).1 (nth_mem (difL l) (j + 1) hj2))
    simp only [decide_eq_true_eq]
    constructor
    · intro h; have := hyl h; omega
    · intro h
      obtain ⟨i, hi, hiy⟩ := List.mem_iff_getElem.1 hy
      rw [← nth_eq _ _ hi] at hiy
      have : i ≤ j := by
        rcases Nat.lt_or_ge j i with h4 | h4
        · by_cases e : i = j + 1
          · subst e; omega
          · have := hlt (j + 1) i (by omega) hi; omega
        · exact h4
      by_cases e : i = j
      · subst e; omega
      · have := hlt i j (by omega) hj; omega
  · have hl : (difL l).length = j + 1 := by omega
    rw [← hl, List.countP_eq_length]
    intro y hy
    obtain ⟨i, hi, hiy⟩ := List.mem_iff_getElem.1 hy
    rw [← nth_eq _ _ hi] at hiy
    by_cases e : i = j
    · subst e; simp; omega
    · have := hlt i j (by omega) hj; simp; omega
/-- The rank of the number i of a list, in its segment. -/
def rkV (l : List Int) (lo hi : Nat) (i : Nat) : Int := ((rkN ((l.drop lo).take (hi - lo)) (nth l i) : Nat) : Int)
def rkS (l : List Int) (lo hi : Nat) : List Int := mk (fun j => rkV l lo hi (lo + j)) (hi - lo)
def rkL (l lens : List Int) (m : Nat) : List Int := glu (fun s => rkS l (ofs lens s) (ofs lens (s + 1))) m
theorem rkS_len (l : List Int) (lo hi : Nat) : (rkS l lo hi).length = hi - lo := mk_length _ _
theorem rkL_len {l lens : List Int} (hz : Segs l lens) : (rkL l lens lens.length).length = l.length := by
  rw [← hz.ofs_all]; exact glu_len hz _ (Nat.le_refl _) fun s _ => rkS_len _ _ _
theorem rkL_nth {l lens : List Int} (hz : Segs l lens) (s i : Nat) (hs : s < lens.length) (h1 : ofs lens s ≤ i) (h2 : i < ofs lens (s + 1)) : nth (rkL l lens lens.length) i = rkV l (ofs lens s) (ofs lens (s + 1)) i := by
  have := glu_nth hz (g := fun s => rkS l (ofs lens s) (ofs lens (s + 1))) lens.length (Nat.le_refl _) (fun s _ => rkS_len _ _ _) s (i - ofs lens s) hs (by omega)
  rw [show ofs lens s + (i - ofs lens s) = i by omega] at this
  unfold rkL
  rw [this]
  unfold rkS
  rw [nth_mk _ _ _ (by omega), show ofs lens s + (i - ofs lens s) = i by omega]
theorem mem_seg {l lens : List Int} (hz : Segs l lens) (s : Nat) (hs : s < lens.length) (y : Int) : y ∈ (l.drop (ofs lens s)).take (ofs lens (s + 1) - ofs lens s) ↔ ∃ k : Nat, ofs lens s ≤ k ∧ k < ofs lens (s + 1) ∧ nth l k = y := by
  have hl := sg_len hz s hs
  have h1 := hz.step s hs
  change y ∈ sgL l lens s ↔ _
  rw [List.mem_iff_getElem]
  constructor
  · rintro ⟨j, hj, e⟩
    rw [← nth_eq _ _ hj, seg_nth _ _ _ _ hj] at e
    exact ⟨ofs lens s + j, by omega, by omega, e⟩
  · rintro ⟨k, h2, h3, e⟩
    have hj : k - ofs lens s < (sgL l lens s).length := by omega
    refine ⟨k - ofs lens s, hj, ?_⟩
    rw [← nth_eq _ _ hj, seg_nth _ _ _ _ hj, show ofs lens s + (k - ofs lens s) = k by omega, e]
/-- Numbers in order of their words: the first one has the rank 0; the next one the same rank if its word is the same, else one more. -/
def wkey (l : List Int) (x : Int) : Int := nth l x.toNat
theorem rk_first {l lens S : List Int} (hn : S.length = l.length) (h : SInv (wkey l) lens S) (s : Nat) (hs : s < lens.length) (hj : ofs lens s < ofs lens (s + 1)) : rkV l (ofs lens s) (ofs lens (s + 1)) (nth S (ofs lens s)).toNat = 0 := by
  have hzl := sg_of_len h.segs (t := l) hn.symm
  unfold rkV
  rw [rkN_least]
  · rfl
  · intro y hy
    obtain ⟨k, h1, h2, rfl⟩ := (mem_seg hzl s hs y).1 hy
    have hl := sg_len h.segs s hs
    have hm : (k : Int) ∈ sgL S lens s := by rw [(h.perm s hs).mem_iff, mem_rgI]; exact ⟨k, rfl, h1, h2⟩
    obtain ⟨j, hj2, hjk⟩ := List.mem_iff_getElem.1 hm
    rw [← nth_eq _ _ hj2] at hjk
    rcases Nat.eq_zero_or_pos j with e | e
    · subst e
      rw [seg_nth _ _ _ _ hj2, Nat.add_zero] at hjk
      rw [hjk, Int.toNat_natCast]
      exact Int.le_refl _
    · have := pairwise_nth.1 (h.order s hs hs) 0 j e hj2
      rw [ltB_iff, hjk, seg_nth _ _ _ _ (by omega), Nat.add_zero] at this
      unfold wkey at this
      rw [Int.toNat_natCast] at this
      omega
theorem rk_next {l lens S : List Int} (hn : S.length = l.length) (h : SInv (wkey l) lens S) (s j : Nat) (hs : s < lens.length) (hj : j + 1 < ofs lens (s + 1) - ofs lens s) :
    rkV l (ofs lens s) (ofs lens (s + 1)) (nth S (ofs lens s + (j + 1))).toNat = rkV l (ofs lens s) (ofs lens (s + 1)) (nth S (ofs lens s + j)).toNat + (if nth l (nth S (ofs lens s + (j + 1))).toNat = nth l (nth S (ofs lens s + j)).toNat then 0 else 1) := by
  have hzl := sg_of_len h.segs (t := l) hn.symm
  have hl := sg_len h.segs s hs
  have hord := pairwise_nth.1 (h.order s hs hs)
  have key : ∀ i j, i < j → j < ofs lens (s + 1) - ofs lens s → nth l (nth S (ofs lens s + i)).toNat ≤ nth l (nth S (ofs lens s + j)).toNat := fun i j hij hj => by
    have := hord i j hij (by omega)
    rw [ltB_iff, seg_nth _ _ _ _ (by omega), seg_nth _ _ _ _ (by omega)] at this
    unfold wkey at this
    omega
  split
  · rename_i e
    unfold rkV
    rw [e, Int.add_zero]
  · rename_i e
    have h1 := key j (j + 1) (by omega) hj
    obtain ⟨x, hx, hx1, hx2⟩ := h.mem s j hs (by omega)
    unfold rkV
    rw [rkN_next (x := nth l (nth S (ofs lens s + j)).toNat) (z := nth l (nth S (ofs lens s + (j + 1))).toNat)]
    · omega
    · rw [mem_seg hzl s hs]
      exact ⟨x, hx1, hx2, by rw [hx, Int.toNat_natCast]⟩
    · omega
    · intro y hy hlt
      obtain ⟨k, g1, g2, rfl⟩ := (mem_seg hzl s hs y).1 hy
      have hm : (k : Int) ∈ sgL S lens s := by rw [(h.perm s hs).mem_iff, mem_rgI]; exact ⟨k, rfl, g1, g2⟩
      obtain ⟨i, hi, hik⟩ := List.mem_iff_getElem.1 hm
      rw [← nth_eq _ _ hi, seg_nth _ _ _ _ hi] at hik
      have e1 : nth l k = nth l (nth S (ofs lens s + i)).toNat := by rw [hik, Int.toNat_natCast]
      rw [e1] at hlt ⊢
      rcases Nat.lt_trichotomy i j with h3 | h3 | h3
      · exact key i j h3 (by omega)
      · subst h3; exact Int.le_refl _
      · by_cases e4 : i = j + 1
        · subst e4; omega
        · have := key (j + 1) i (by omega) (by omega); omega
/-! ### firsts -/
/-- No same word stands ahead of the number i, from lo on. -/
def fsB (l : List Int) (lo : Nat) (i : Nat) : Bool := (List.range (i - lo)).all fun k => decide (nth l (lo + k) ≠ nth l i)
theorem fsB_iff (l : List Int) (lo i : Nat) : fsB l lo i = true ↔ ∀ k, lo ≤ k → k < i → nth l k ≠ nth l i := by
  unfold fsB
  rw [List.all_eq_true]
  constructor
  · intro h k h1 h2
    have := h (k - lo) (List.mem_range.2 (by omega))
    rw [show lo + (k - lo) = k by omega] at this
    simpa using this
  · intro h k hk
    have := h (lo + k) (by omega) (by have := List.mem_range.1 hk; omega)
    simpa using this
/-- The first ones among the numbers from lo to just below hi. -/
def fsN (l : List Int) (lo : Nat) : Nat → List Int
  | 0 => []
  | j + 1 => if fsB l lo (lo + j) = true then fsN l lo j ++ [((lo + j : Nat) : Int)] else fsN l lo j
theorem fsN_len (l : List Int) (lo : Nat) : ∀ j, (fsN l lo j).length ≤ j
  | 0 => by simp [fsN]
  | j + 1 => by
    have := fsN_len l lo j
    unfold fsN
    split
    · simp; omega
    · omega
def fsP (l lens : List Int) (m : Nat) : List Int := glu (fun s => fsN l (ofs lens s) (ofs lens (s + 1) - ofs lens s)) m
def fsM (l lens : List Int) (m : Nat) : List Int := mk (fun s => ((fsN l (ofs lens s) (ofs lens (s + 1) - ofs lens s)).length : Int)) m
end Go.Proofs.Ytgicfgpemcagcaa
/- Memory words for slices of elements: pairs of a segment and a word. -/
namespace Go.Proofs.Ytgicfgpemcagcaa
set_option linter.unusedVariables false
open Go.RowKit Go.Shelf
/-- The cells of an element. -/
def encS (x : Int × Int) : List Value := [.int .i64 x.1, .int .i64 x.2]
def pth (ps : List (Int × Int)) (k : Nat) : Int × Int := ps.getD k (0, 0)
theorem pth_eq (ps : List (Int × Int)) (k : Nat) (h : k < ps.length) : pth ps k = ps[k] := by
  unfold pth; rw [List.getD_eq_getElem?_getD, List.getElem?_eq_getElem h]; rfl
def fl (ps : List (Int × Int)) : List Value := ps.flatMap encS
theorem fl_snoc (ps : List (Int × Int)) (x : Int × Int) : fl (ps ++ [x]) = fl ps ++ [.int .i64 x.1, .int .i64 x.2] := by simp [fl, encS]
theorem fl_length (ps : List (Int × Int)) : (fl ps).length = ps.length * 2 := by
  induction ps with
  | nil => rfl
  | cons x ps ih => rw [show fl (x :: ps) = encS x ++ fl ps from rfl, List.length_append, ih]; simp [encS]; omega
theorem fl_at : ∀ (ps : List (Int × Int)) (j : Nat), j < ps.length → (fl ps)[j * 2]? = some (.int .i64 (pth ps j).1) ∧ (fl ps)[j * 2 + 1]? = some (.int .i64 (pth ps j).2)
  | [], j, h => absurd h (by simp)
  | x :: ps, 0, h => by constructor <;> rfl
  | x :: ps, j + 1, h => by
    have ih := fl_at ps j (by simpa using h)
    have e : fl (x :: ps) = .int .i64 x.1 :: .int .i64 x.2 :: fl ps := rfl
    have e1 : (j + 1) * 2 = j * 2 + 1 + 1 := by omega
    refine ⟨?_, ?_⟩
    · rw [e, e1, List.getElem?_cons_succ, List.getElem?_cons_succ]; exact ih.1
    · rw [e, e1, List.getElem?_cons_succ, List.getElem?_cons_succ]; exact ih.2

/-- The slice value at A holds these spans. -/
def SlP (w : World) (A : Option Addr) (ps : List (Int × Int)) : Prop :=
  0 < ps.length → ∃ b off, A = some ⟨b, off, none⟩ ∧ b < w.heap.size ∧ ∀ j, j < ps.length → w.cell? ⟨b, off + j * 2, none⟩ = some (.int .i64 (pth ps j).1) ∧ w.cell? ⟨b, off + j * 2 + 1, none⟩ = some (.int .i64 (pth ps j).2)
theorem SlP.nil (w : World) (A : Option Addr) : SlP w A [] := fun h => absurd h (by simp)
theorem SlP.below {w w' : World} {B : Nat} {A : Option Addr} {ps : List (Int × Int)} (h : SlP w A ps) (hb : Below B w w') (hB : w.heap.size ≤ B) : SlP w' A ps := fun hl => by
  obtain ⟨b, off, e, hlt, hc⟩ := h hl
  have hlt' : b < B := Nat.lt_of_lt_of_le hlt hB
  exact ⟨b, off, e, Nat.lt_of_lt_of_le hlt hb.size, fun j hj => ⟨(hb.cell (p := ⟨b, off + j * 2, none⟩) hlt').trans (hc j hj).1, (hb.cell (p := ⟨b, off + j * 2 + 1, none⟩) hlt').trans (hc j hj).2⟩⟩
theorem SlP.step {w w' : World} {A : Option Addr} {ps : List (Int × Int)} (h : SlP w A ps) (hb : Below w.heap.size w w') : SlP w' A ps := h.below hb (Nat.le_refl _)
/-- A row of spans of the call's own. -/
def OwnP (w : World) (base : Nat) (v : Value) (ps : List (Int × Int)) : Prop := w.ownsRow base 72 2 v ps.length (fl ps)
theorem OwnP.nil (w : World) (base : Nat) : OwnP w base (.slice none 0 0) [] := World.ownsRow_nil w base 72 2
theorem OwnP.alloc {w : World} {base : Nat} {v : Value} {ps : List (Int × Int)} (h : OwnP w base v ps) (o : Obj) : OwnP (w.alloc o) base v ps := World.ownsRow.alloc h o
theorem OwnP.drew {w : World} {base : Nat} {v : Value} {ps : List (Int × Int)} (h : OwnP w base v ps) : OwnP w.drew base v ps := h
theorem OwnP.aside {X Y : World} {B base : Nat} {v : Value} {ps : List (Int × Int)} {row : Option Nat} (h : OwnP X base v ps) (hg : X.grownBy Y row) (hr : Aside B X row) : OwnP Y base v ps := own_aside h hg hr
theorem OwnP.kept {w w' : World} {base : Nat} {v : Value} {ps : List (Int × Int)} {row : Option Nat} (h : OwnP w base v ps) (hg : w.grownBy w' row) (hne : v.ownBlock = none ∨ v.ownBlock ≠ row) : OwnP w' base v ps := World.ownsRow.kept h hg hne
theorem OwnP.lt {w : World} {base : Nat} {v : Value} {ps : List (Int × Int)} (h : OwnP w base v ps) : ∀ k, v.ownBlock = some k → base ≤ k ∧ k < w.heap.size := World.ownsRow.lt h
theorem OwnP.snoc {w : World} {base : Nat} {v : Value} {ps : List (Int × Int)} {a b : Int} (h : w.ownsRow base 72 2 v (ps.length + 1) (fl ps ++ [.int .i64 a, .int .i64 b])) : OwnP w base v (ps ++ [(a, b)]) := by
  unfold OwnP
  rw [fl_snoc, List.length_append]
  exact h
theorem OwnP.form {w : World} {base : Nat} {v : Value} {ps : List (Int × Int)} (h : OwnP w base v ps) :
    (∃ c, ps = [] ∧ v = .slice none 0 c) ∨ ∃ g c, v = .slice (some ⟨g, 0, none⟩) ps.length c ∧ ps.length ≤ c ∧ base ≤ g ∧ g < w.heap.size ∧ (∀ j, j < ps.length → w.cell? ⟨g, j * 2, none⟩ = some (.int .i64 (pth ps j).1) ∧ w.cell? ⟨g, j * 2 + 1, none⟩ = some (.int .i64 (pth ps j).2)) ∧ ∀ j, w.frozen? ⟨g, j, none⟩ = false := by
  have hr := h
  rcases h.2 with ⟨rfl, h0⟩ | ⟨g, cap, cur, rfl, hb, hh, hnc, _⟩
  · exact .inl ⟨0, List.eq_nil_of_length_eq_zero h0, rfl⟩
  · refine .inr ⟨g, cap, rfl, hnc, hb, (h.lt g rfl).2, fun j hj => ?_, fun j => World.ownsRow.frozenAt hr j⟩
    have hf := fl_at ps j hj
    exact ⟨by rw [World.ownsRow.cellAt hr (j * 2) (by omega)]; exact hf.1, by rw [World.ownsRow.cellAt hr (j * 2 + 1) (by omega)]; exact hf.2⟩
theorem fl_set : ∀ (ps : List (Int × Int)) (j : Nat) (v : Int), j < ps.length → fl (ps.set j ((pth ps j).1, v)) = (fl ps).set (j * 2 + 1) (.int .i64 v)
  | [], j, v, h => absurd h (by simp)
  | x :: ps, 0, v, h => rfl
  | x :: ps, j + 1, v, h => by
    have ih := fl_set ps j v (by simpa using h)
    have e1 : (j + 1) * 2 + 1 = j * 2 + 1 + 1 + 1 := by omega
    rw [e1]
    show encS x ++ fl (ps.set j ((pth ps j).1, v)) = (.int .i64 x.1 :: .int .i64 x.2 :: fl ps).set (j * 2 + 1 + 1 + 1) (.int .i64 v)
    rw [ih]
    rfl
theorem OwnP.storedLen {w : World} {base g c : Nat} {ps : List (Int × Int)} (h : OwnP w base (.slice (some ⟨g, 0, none⟩) ps.length c) ps) (j : Nat) (hj : j < ps.length) (v : Int) :
    OwnP (w.setCell ⟨g, j * 2 + 1, none⟩ (.int .i64 v)) base (.slice (some ⟨g, 0, none⟩) ps.length c) (ps.set j ((pth ps j).1, v)) ∧ w.grownBy (w.setCell ⟨g, j * 2 + 1, none⟩ (.int .i64 v)) (some g) := by
  have := World.ownsRow.stored h (j * 2 + 1) (.int .i64 v)
  refine ⟨?_, this.2⟩
  unfold OwnP
  rw [List.length_set, fl_set ps j v hj]
  exact this.1
theorem OwnP.cellAt {w : World} {base g c : Nat} {ps : List (Int × Int)} (h : OwnP w base (.slice (some ⟨g, 0, none⟩) ps.length c) ps) (j : Nat) (hj : j < ps.length) : w.cell? ⟨g, j * 2, none⟩ = some (.int .i64 (pth ps j).1) ∧ w.cell? ⟨g, j * 2 + 1, none⟩ = some (.int .i64 (pth ps j).2) ∧ w.frozen? ⟨g, j * 2 + 1, none⟩ = false := by
  have hf := fl_at ps j hj
  exact ⟨by rw [World.ownsRow.cellAt h (j * 2) (by omega)]; exact hf.1, by rw [World.ownsRow.cellAt h (j * 2 + 1) (by omega)]; exact hf.2, World.ownsRow.frozenAt h _⟩
theorem OwnP.empty (w : World) (base : Nat) (hb : base ≤ w.heap.size) : OwnP (w.alloc (.cells #[] 72)) base (.slice (some ⟨w.heap.size, 0, none⟩) 0 0) [] :=
  World.ownsRow_lit w #[] 0 hb (by simp [maxLen]) rfl
theorem OwnP.sl {w : World} {base : Nat} {v : Value} {ps : List (Int × Int)} (h : OwnP w base v ps) : ∃ A c, v = .slice A ps.length c ∧ ps.length ≤ c ∧ SlP w A ps := by
  rcases h.form with ⟨c, rfl, rfl⟩ | ⟨g, c, rfl, h1, h2, h3, h4, h5⟩
  · exact ⟨none, c, rfl, Nat.zero_le _, SlP.nil _ _⟩
  · refine ⟨_, c, rfl, h1, fun hl => ⟨g, 0, rfl, h3, fun j hj => ?_⟩⟩
    have := h4 j hj
    simpa using this
theorem Blk.not_rowP {W : World} {base B : Nat} {t : TypeId} {cs : Array Value} {v : Value} {ps : List (Int × Int)} (h : Blk W B t cs) (ht : t ≠ 72) (hrow : OwnP W base v ps) : some B ≠ v.ownBlock := fun e => by
  rcases hrow.2 with ⟨rfl, _⟩ | ⟨g, cap, cur, rfl, _, hgb, _⟩
  · cases e
  · obtain rfl : B = g := by simpa [Value.ownBlock] using e
    rw [show W.heap[B]? = _ from h] at hgb
    cases hgb
    exact ht rfl
theorem ownsRow_succP {w : World} {base n : Nat} {v : Value} {xs : List Value} (h : w.ownsRow base 72 2 v (n + 1) xs) : ∃ g cap, v = .slice (some ⟨g, 0, none⟩) (n + 1) cap := by
  obtain ⟨g, cap, e, _⟩ := h.form (by omega)
  exact ⟨g, cap, e⟩
theorem cell_two_new (w : World) (t : TypeId) (u v : Value) : ∀ j x, [u, v][j]? = some x → (w.alloc (.cells #[u, v] t)).cell? ((⟨w.heap.size, 0, none⟩ : Addr).add j) = some x := by
  intro j x h
  match j with
  | 0 => simp at h; subst h; exact cell2a w t u v
  | 1 => simp at h; subst h; exact cell2b w t u v
  | j + 2 => simp at h

end Go.Proofs.Ytgicfgpemcagcaa
