/- Walks and mathematics of rank, part 19. -/
import Derived.Test.YtgicfgpemcagcaaG01
import Derived.Test.YtgicfgpemcagcaaG13
import Derived.Test.YtgicfgpemcagcaaG18
/- PrimMerged: what is packed by a list of flags and by its opposite, merged, is the list. -/
namespace Go.Proofs.Ytgicfgpemcagcaa
set_option linter.unusedVariables false
open Go.RowKit
def wlL (zs : List Int) (n : Nat) : List Int := mk (fun k => wrap32 (nth zs k)) (min zs.length n)
def flL (zs : List Int) (n : Nat) : List Int := mk (fun k => nth zs (k % zs.length) % 3 - 1) n
def opL (f : List Int) : List Int := mk (fun k => if nth f k = 0 then 1 else 0) f.length
def Opp (f g : List Int) : Prop := g.length = f.length ∧ ∀ k, k < f.length → (nth g k = 0 ↔ nth f k ≠ 0)
theorem Opp.symm {f g : List Int} (h : Opp f g) : Opp g f := ⟨h.1.symm, fun k hk => by
  have := h.2 k (by rw [← h.1]; exact hk)
  constructor
  · intro e e2; exact (this.1 e2) e
  · intro e; exact Classical.byContradiction fun e2 => e (this.2 e2)⟩
theorem opp_op (f : List Int) : Opp f (opL f) := ⟨by simp [opL, mk_length], fun k hk => by
  unfold opL; rw [nth_mk _ _ _ hk]; by_cases h : nth f k = 0 <;> simp [h]⟩
theorem Opp.cnt {f g : List Int} (h : Opp f g) (n : Nat) (hn : n ≤ f.length) : cnt g n = n - Go.Proofs.Ytgicfgpemcagcaa.cnt f n := by
  induction n with
  | zero => rfl
  | succ n ih =>
    have h1 := ih (by omega)
    have h2 := h.2 n (by omega)
    have h3 := cnt_le f n
    by_cases e : nth f n = 0
    · have e2 : nth g n ≠ 0 := fun x => (h2.1 x) e
      simp only [Go.Proofs.Ytgicfgpemcagcaa.cnt, e, e2, ne_eq, not_true_eq_false, not_false_eq_true, if_true, if_false, h1]; omega
    · have e2 : nth g n = 0 := h2.2 e
      simp only [Go.Proofs.Ytgicfgpemcagcaa.cnt, e, e2, ne_eq, not_true_eq_false, not_false_eq_true, if_true, if_false, h1]; omega
theorem pacK_cnt (f a : List Int) (n : Nat) : (pacK f a n).length = cnt f n := by
  induction n with
  | zero => rfl
  | succ n ih => simp only [pacK, cnt]; split <;> simp [ih]
theorem nth_left {xs ys : List Int} (k : Nat) (h : k < xs.length) : nth (xs ++ ys) k = nth xs k := by
  unfold nth; rw [List.getD_eq_getElem?_getD, List.getD_eq_getElem?_getD, List.getElem?_append_left h]
theorem nth_end (xs : List Int) (y : Int) : nth (xs ++ [y]) xs.length = y := by
  unfold nth; rw [List.getD_eq_getElem?_getD]; simp
theorem pacK_nth (f a : List Int) (k n : Nat) (hk : k < n) (h : nth f k ≠ 0) : nth (pacK f a n) (cnt f k) = nth a k := by
  induction n with
  | zero => omega
  | succ n ih =>
    simp only [pacK]
    by_cases e : k = n
    · subst e
      rw [if_pos h, ← pacK_cnt f a k, nth_end]
    · have h1 := ih (by omega)
      have hlt : cnt f k < (pacK f a n).length := by
        rw [pacK_cnt]
        have h2 : cnt f (k + 1) = cnt f k + 1 := by simp [cnt, h]
        have := (cnt_mono f (show k + 1 ≤ n by omega)).1
        omega
      split
      · rw [nth_left _ hlt]; exact h1
      · exact h1
theorem merK_take (f g a : List Int) (h : Opp f g) (hl : a.length = f.length) (k : Nat) (hk : k ≤ f.length) : merK f (pacL f a) (pacL g a) k = a.take k := by
  induction k with
  | zero => simp [merK]
  | succ k ih =>
    have h1 := ih (by omega)
    have ht : a.take (k + 1) = a.take k ++ [nth a k] := take_snoc a k (by omega)
    by_cases e : nth f k = 0
    · have e2 : nth g k ≠ 0 := fun x => (h.2 k (by omega)).1 x e
      simp only [merK, e, ne_eq, not_true_eq_false, if_false]
      rw [h1, ht, show nth (pacL g a) (k - cnt f k) = nth a k by
        rw [← h.cnt k (by omega)]
        exact pacK_nth g a k g.length (by rw [h.1]; omega) e2]
    · simp only [merK, e, ne_eq, not_false_eq_true, if_true]
      rw [h1, ht, show nth (pacL f a) (cnt f k) = nth a k from pacK_nth f a k f.length (by omega) e]
theorem pacL_len {f g a : List Int} (h : Opp f g) : (pacL f a).length = cnt f f.length ∧ (pacL g a).length = f.length - cnt f f.length := by
  constructor
  · exact pacK_cnt f a f.length
  · unfold pacL; rw [pacK_cnt, h.1]; exact h.cnt f.length (Nat.le_refl _)
theorem ls_of (L : List (List Int)) (h1 : ∀ l ∈ L, l.length ≤ 1048576) (h2 : ∀ l ∈ L, ∀ x ∈ l, isW x) : lsE L = 0 := by
  unfold lsE
  rw [if_pos (by rw [List.all_eq_true]; intro l hl; simpa [shortB] using h1 l hl), if_pos (by
    rw [List.all_eq_true]; intro l hl; unfold wordsB; rw [List.all_eq_true]; intro x hx; exact isWb_of x (h2 l hl x hx))]
theorem pac_mem (f a : List Int) (n : Nat) (hn : n ≤ a.length) : ∀ x ∈ pacK f a n, x ∈ a := by
  induction n with
  | zero => intro x hx; simp [pacK] at hx
  | succ n ih =>
    intro x hx
    simp only [pacK] at hx
    split at hx
    · rcases List.mem_append.1 hx with h | h
      · exact ih (by omega) x h
      · simp at h; subst h; exact nth_mem a n (by omega)
    · exact ih (by omega) x hx
theorem mk_all (f : Nat → Int) (n : Nat) (h : ∀ k, isW (f k)) : ∀ x ∈ mk f n, isW x := by
  intro x hx; unfold mk at hx; obtain ⟨k, _, rfl⟩ := List.mem_map.1 hx; exact h k
theorem wl_all (zs : List Int) (n : Nat) : ∀ x ∈ wlL zs n, isW x := mk_all _ _ fun k => wrap32_word _
theorem fl_all (zs : List Int) (n : Nat) : ∀ x ∈ flL zs n, isW x := mk_all _ _ fun k => by unfold isW; omega
theorem op_all (f : List Int) : ∀ x ∈ opL f, isW x := mk_all _ _ fun k => by unfold isW; split <;> omega
theorem wl_len (zs : List Int) (n : Nat) : (wlL zs n).length ≤ n := by unfold wlL; rw [mk_length]; omega
theorem fl_len (zs : List Int) (n : Nat) : (flL zs n).length = n := by unfold flL; rw [mk_length]
/-- Two lists of flags, each the other's opposite, and a list of as many words. -/
structure Merged (a f g : List Int) : Prop where
  opp : Opp f g
  len : a.length = f.length
  few : a.length ≤ 200
  wa : ∀ x ∈ a, isW x
  wf : ∀ x ∈ f, isW x
  wg : ∀ x ∈ g, isW x
theorem Merged.symm {a f g : List Int} (h : Merged a f g) : Merged a g f := ⟨h.opp.symm, by rw [h.len, h.opp.1], h.few, h.wa, h.wg, h.wf⟩
theorem Merged.pac {a f g : List Int} (h : Merged a f g) : pacE f a = 0 := by
  have hl := h.len; have hf := h.few
  have h1 : lsE [f, a] = 0 := ls_of _ (by simp; omega) (by intro l hl; simp at hl; rcases hl with rfl | rfl; exact h.wf; exact h.wa)
  unfold pacE evE
  rw [if_pos h1, if_pos (by simp [evenB, hl])]
theorem Merged.mer {a f g : List Int} (h : Merged a f g) : merE f (pacL f a) (pacL g a) = 0 ∧ merL f (pacL f a) (pacL g a) = a := by
  have hl := h.len; have hf := h.few
  obtain ⟨p1, p2⟩ := pacL_len (a := a) h.opp
  have hc := cnt_le f f.length
  have h1 : lsE [f, pacL f a, pacL g a] = 0 := ls_of _ (by simp; omega) (by
    intro l hl'; simp at hl'
    rcases hl' with rfl | rfl | rfl
    · exact h.wf
    · intro x hx; exact h.wa x (pac_mem f a f.length (by omega) x hx)
    · intro x hx; exact h.wa x (pac_mem g a g.length (by rw [h.opp.1]; omega) x hx))
  refine ⟨?_, ?_⟩
  · unfold merE; rw [if_pos h1, if_pos ⟨p1, p2⟩]
  · unfold merL; rw [merK_take f g a h.opp hl f.length (Nat.le_refl _), ← hl, List.take_length]
theorem Merged.sum {a f g : List Int} (h : Merged a f g) : (pacL f a).length + (pacL g a).length = a.length := by
  obtain ⟨p1, p2⟩ := pacL_len (a := a) h.opp
  have hc := cnt_le f f.length; have := h.len; omega
theorem merged_of (z0 z1 : List Int) : Merged (wlL z0 200) (flL z1 (wlL z0 200).length) (opL (flL z1 (wlL z0 200).length)) :=
  ⟨opp_op _, (fl_len _ _).symm, wl_len _ _, wl_all _ _, fl_all _ _, op_all _⟩
end Go.Proofs.Ytgicfgpemcagcaa
/- Walks of the specification: PrimMerged's helpers. -/
namespace Go.Proofs.Ytgicfgpemcagcaa
set_option linter.unusedVariables false
open Go.RowKit Go.Shelf
theorem retS_of {w W : World} {A : Option Addr} {c : Nat} {zs L : List Int} (e : zs = L) (hc : L.length ≤ c) (h : Sl W A L) (hB : Below w.heap.size w W) : RetS w zs (.returned (.slice A L.length c)) W := by
  subst e
  exact ⟨_, _, rfl, hc, h, hB⟩
set_option maxHeartbeats 4000000 in
theorem turn_nat (n m : Nat) (hm : 1 ≤ m) (hn : n ≤ 9223372036854775807) (hm2 : m ≤ 9223372036854775807) (w : World) : Calls Try.prog 33 #[.int .i64 (n : Int), .int .i64 (m : Int)] w fun e w' => e = .returned (.int .i64 ((n % m : Nat) : Int)) ∧ w = w' := by
  have hm0 : ¬ (m : Int) < 1 := by omega
  have hm1 : (m : Int) ≠ 0 := by omega
  have hr : ((n : Int)).tmod (m : Int) = ((n % m : Nat) : Int) := by rw [Int.tmod_eq_emod_of_nonneg (by omega)]; simp
  have hlt : n % m < m := Nat.mod_lt _ (by omega)
  obtain ⟨r, hr2⟩ : ∃ r, n % m = r := ⟨_, rfl⟩
  rw [hr2] at hr hlt
  rw [hr2]
  have hneg : ¬ (((n : Int)).tmod (m : Int) < 0) := by rw [hr]; omega
  have hb : -9223372036854775808 ≤ ((n : Int)).tmod (m : Int) := by rw [hr]; omega
  have hb2 : ((n : Int)).tmod (m : Int) ≤ 9223372036854775807 := by rw [hr]; omega
  have HR := Lib.hid hr; clear hr hr2
  go_enter Try.func33, Try.ntmps33
  go_wp2
  go_ret
  exact ⟨ret_int HR.out, rfl⟩
set_option maxHeartbeats 4000000 in
theorem bnth_any (A : Option Addr) (c : Nat) (zs : List Int) (k : Nat) (w : World) (h : Sl w A zs) (hl : zs.length ≤ 9223372036854775807) (hk : k ≤ 9223372036854775807) :
    Calls Try.prog 66 #[.slice A zs.length c, .int .i64 (k : Int)] w fun e w' => e = .returned (.int .i64 (nth zs (k % zs.length))) ∧ w = w' := by
  by_cases h0 : zs.length = 0
  · have hd : ((zs.length : Int) == 0) = true := by rw [beq_iff_eq]; omega
    have HE := Lib.hid (show 0 = nth zs (k % zs.length) by rw [List.eq_nil_of_length_eq_zero h0]; simp [nth])
    clear h0
    go_enter Try.func66, Try.ntmps66
    go_wp2
    go_ret
    exact ⟨ret_int HE.out, rfl⟩
  · have hd : ((zs.length : Int) == 0) = false := by rw [beq_eq_false_iff_ne]; omega
    have hj := Nat.mod_lt k (show 0 < zs.length by omega)
    have C2 := turn_nat k zs.length (by omega) hk hl w
    obtain ⟨j, hj2⟩ : ∃ j, k % zs.length = j := ⟨_, rfl⟩
    rw [hj2] at hj C2
    rw [hj2]
    obtain ⟨b, o, rfl, hb, hc⟩ := h.at_ hj
    have q1 : (0 : Int) ≤ (j : Int) := by omega
    have q2 : (j : Int) < (zs.length : Int) := by omega
    have C2 := Lib.hid C2
    obtain ⟨x, hx⟩ : ∃ x, nth zs j = x := ⟨_, rfl⟩
    rw [hx] at hc
    rw [hx]
    clear h0 hj2 hx
    go_enter Try.func66, Try.ntmps66
    go_wp2_with fail
    refine C2.out.mono ?_
    rintro e w' ⟨rfl, rfl⟩
    go_wp2
    go_ret
    exact ⟨rfl, rfl⟩
set_option maxHeartbeats 4000000 in
theorem wraps_any (A : Option Addr) (c : Nat) (zs : List Int) (n : Nat) (w : World) (h : Sl w A zs) (hl : zs.length ≤ 9223372036854775807) (hn : n ≤ 1048576) :
    Calls Try.prog 36 #[.slice A zs.length c, .int .i64 (n : Int)] w (RetS w (wlL zs n)) := by
  obtain ⟨i0, hi, hz0, hz1, hz2⟩ := info_parts int_info
  go_enter Try.func36, Try.ntmps36
  go_wp2
  go_loopw [5, 6] (fun v i wr => ∃ (k : Nat) (L : List Int), k ≤ min zs.length n ∧ i = .int .i64 k ∧ Hid (L = mk (fun k => wrap32 (nth zs k)) k) ∧ L.length ≤ k ∧ OwnI wr w.heap.size v L ∧ Below w.heap.size w wr) (fun _ i _ => min zs.length n - (intOf i).toNat)
  case atStart => exact ⟨0, [], Nat.zero_le _, rfl, Lib.hid rfl, by simp, OwnI.empty w _ (Nat.le_refl _), (Below.refl _ _).alloc (Nat.le_refl _) _⟩
  case round =>
    obtain ⟨k, L, hk, rfl, HL, hLl, hown, hBr⟩ := hrel
    by_cases hlt : k < min zs.length n
    · have hkz : k < zs.length := by omega
      have hkn : k < n := by omega
      obtain ⟨ba, oa, rfl, hba, hca⟩ := (h.step hBr).at_ hkz
      have q1 : (0 : Int) ≤ (k : Int) := by omega
      have q3 : (k : Int) < (zs.length : Int) := by omega
      have q4 : (k : Int) < (n : Int) := by omega
      have HS := Lib.hid (mk_succ (fun k => wrap32 (nth zs k)) k)
      obtain ⟨x, hx⟩ : ∃ x, nth zs k = x := ⟨_, rfl⟩
      rw [hx] at hca
      simp only [hx] at HS
      have C2 := bword_any x wr
      obtain ⟨y, hy⟩ : ∃ y, wrap32 x = y := ⟨_, rfl⟩
      rw [hy] at C2 HS
      have C2 := Lib.hid C2
      have Hlt := Lib.hid hlt
      clear hx hy hlt hk
      go_wp2_with (first | (go_at_call 67; refine C2.out.mono ?_; rintro e w' ⟨rfl, rfl⟩) | (at_builtin; refine wpList_append_own _ rfl _ _ 22 rfl w.heap.size 3 i0 (.int .i64 0) 1 8 Try.underlying22 hi hz0 hz1 hz2 rfl (by decide) _ _ _ rfl (hown.alloc _) ⟨wr.heap.size, 0, none⟩ 1 1 [.int .i64 y] rfl rfl (cell_one_new _ _ _) (by simp [Value.oneCell']) (by unfold maxLen; omega) (by omega) (by have := hBr.size; simp; omega) ?_; intro v' w2 hown' hgrow _; have hB2 := below_append hBr hBr.size hown hgrow))
      have hown2 := OwnI.snoc hown'
      clear hown' hgrow
      go_roundw
      case rel => exact ⟨k + 1, _, by omega, by go_num, Lib.hid (by rw [HS.out, ← HL.out]), by simp; omega, hown2, hB2⟩
      case measure => have := Hlt.out; simp [intOf]; omega
    · have HE : Hid (wlL zs n = L) := Lib.hid (by rw [HL.out, show k = min zs.length n by omega]; rfl)
      obtain ⟨A', c', rfl, hcc, hsl⟩ := hown.form
      by_cases hkz : k < zs.length
      · have hkn : ¬ k < n := by omega
        clear hlt hk
        go_wp2
        go_ret
        exact retS_of HE.out hcc hsl hBr
      · clear hlt hk
        go_wp2
        go_ret
        exact retS_of HE.out hcc hsl hBr
end Go.Proofs.Ytgicfgpemcagcaa
/- Walks of the specification: Copy, fits, Cat. -/
namespace Go.Proofs.Ytgicfgpemcagcaa
set_option linter.unusedVariables false
open Go.RowKit Go.Shelf
set_option maxHeartbeats 4000000 in
theorem copy_any (A : Option Addr) (c : Nat) (zs : List Int) (w : World) (h : Sl w A zs) (hn : A = none → c = 0) (hl : zs.length ≤ 1048576) :
    Calls Try.prog 40 #[.slice A zs.length c] w fun e w' => ∃ v, e = .returned v ∧ OwnI w' w.heap.size v zs ∧ Below w.heap.size w w' := by
  obtain ⟨i0, hi, hz0, hz1, hz2⟩ := info_parts int_info
  have hown := OwnI.empty w w.heap.size (Nat.le_refl _)
  have hB0 := (Below.refl w.heap.size w).alloc (Nat.le_refl _) (.cells #[] 3)
  have hS := h.step hB0
  go_enter Try.func40, Try.ntmps40
  cases A with
  | none =>
    obtain rfl := hn rfl
    obtain rfl := h.nil_of
    go_wp2
    go_ret
    exact ⟨_, rfl, hown, hB0⟩
  | some ad =>
    go_wp2_with (at_builtin; refine wpList_append_own _ rfl _ _ 22 rfl w.heap.size 3 i0 (.int .i64 0) 1 8 Try.underlying22 hi hz0 hz1 hz2 rfl (by decide) _ _ _ rfl hown ad zs.length c (zs.map (Value.int .i64)) rfl (by simp) (hS.news) (by simp [Value.oneCell']) (by show 0 + _ ≤ _; unfold maxLen; omega) (by show (0 + _) * _ ≤ _; omega) hB0.size ?_; intro v' w2 hown' hgrow _)
    go_ret
    have hown3 := OwnI.app (zs := []) hown' rfl rfl
    exact ⟨_, rfl, hown3, below_app hB0 hB0.size hown hgrow⟩
end Go.Proofs.Ytgicfgpemcagcaa
