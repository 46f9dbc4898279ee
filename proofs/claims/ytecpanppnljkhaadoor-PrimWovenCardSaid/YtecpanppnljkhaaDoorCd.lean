/- Walks of prim: check, checkEven, total. -/
import Derived.Test.YtecpanppnljkhaaDoorCb
import Derived.Deep.QuietTactic
import Derived.BigQuiet
namespace Go.Proofs.YtecpanppnljkhaaDoor
set_option linter.unusedVariables false
open Go.RowKit

theorem below_drewN' (w : World) (m : Nat) : Below w.heap.size w (w.drewN m) := below_drewN (Below.refl _ _) m
/-- 'Returned this value, and nothing of old is turned'. -/
theorem Drew.retV {w : World} {v : Value} {e : Ending} {w' : World} (h : Drew w v e w') : RetV w v e w' := by
  obtain ⟨h1, m, rfl⟩ := h
  exact ⟨h1, below_drewN' w m⟩
theorem Sll.drewN {w : World} {A : Option Addr} {L : List (List Int)} (h : Sll w A L) (m : Nat) : Sll (w.drewN m) A L := h
theorem Sll.len {w : World} {A : Option Addr} {L : List (List Int)} (h : Sll w A L) : True := trivial
theorem Sll.below {w w' : World} {A : Option Addr} {L : List (List Int)} (h : Sll w A L) (hb : Below w.heap.size w w') : Sll w' A L := fun hl => by
  obtain ⟨b, off, e, hlt, hc⟩ := h hl
  refine ⟨b, off, e, Nat.lt_of_lt_of_le hlt hb.size, fun j hj => ?_⟩
  obtain ⟨A', c', h1, h2, h3⟩ := hc j hj
  exact ⟨A', c', (hb.cell (p := ⟨b, off + j, none⟩) hlt).trans h1, h2, h3.step hb⟩
def AllShort (L : List (List Int)) : Prop := ∀ j, j < L.length → (nthL L j).length ≤ 9223372036854775807

set_option maxHeartbeats 1000000 in
theorem check_any (A : Option Addr) (c : Nat) (L : List (List Int)) (w : World) (h : Sll w A L) (hl : L.length ≤ 9223372036854775807) (hs : AllShort L) :
    Calls Tryd.prog 74 #[.slice A L.length c] w (RetV w (.int .i64 (lsE L))) := by
  have C1 := all_short shortB A c L w h hl (fun m A' c' k hk hS => (isShort_any A' _ c' (w.drewN m) (hs k hk)).mono fun e w' ⟨h1, h2⟩ => ⟨h1, 0, h2 ▸ rfl⟩)
  have C2 := fun m => all_haveWords wordsB A c L (w.drewN m) (h.drewN m) hl (fun m' A' c' k hk hS => (hasWords_any A' c' (nthL L k) ((w.drewN m).drewN m') hS (hs k hk)).mono fun e w' ⟨h1, h2⟩ => ⟨h1, 0, h2 ▸ rfl⟩)
  cases h1 : L.all shortB with
  | false =>
    rw [h1] at C1
    have HE := Lib.hid (show lsE L = 3 by simp [lsE, h1])
    have C1 := Lib.hid C1
    clear C2 h1
    go_enter Tryd.func74, Tryd.ntmps74
    go_wp2_with fail
    refine C1.out.mono ?_
    rintro e w' ⟨rfl, m, rfl⟩
    go_wp2
    go_ret
    rw [HE.out]
    exact ⟨rfl, below_drewN' w m⟩
  | true =>
    rw [h1] at C1
    cases h2 : L.all wordsB with
    | false =>
      rw [h2] at C2
      have HE := Lib.hid (show lsE L = 2 by simp only [lsE, h1, h2]; rfl)
      have C1 := Lib.hid C1
      have C2 := Lib.hid C2
      clear h1 h2
      go_enter Tryd.func74, Tryd.ntmps74
      go_wp2_with fail
      refine C1.out.mono ?_
      rintro e w' ⟨rfl, m, rfl⟩
      go_wp2_with fail
      refine (C2.out m).mono ?_
      rintro e w' ⟨rfl, m', rfl⟩
      go_wp2
      go_ret
      rw [HE.out]
      exact ⟨rfl, below_drewN' w _⟩
    | true =>
      rw [h2] at C2
      have HE := Lib.hid (show lsE L = 0 by simp only [lsE, h1, h2]; rfl)
      have C1 := Lib.hid C1
      have C2 := Lib.hid C2
      clear h1 h2
      go_enter Tryd.func74, Tryd.ntmps74
      go_wp2_with fail
      refine C1.out.mono ?_
      rintro e w' ⟨rfl, m, rfl⟩
      go_wp2_with fail
      refine (C2.out m).mono ?_
      rintro e w' ⟨rfl, m', rfl⟩
      go_wp2
      go_ret
      rw [HE.out]
      exact ⟨rfl, below_drewN' w _⟩

set_option maxHeartbeats 1000000 in
theorem even_any (g b0 o0 : Nat) (A A' A0 : Option Addr) (n m m0 c c' c0 : Nat) (w : World) (hn : n ≤ 9223372036854775807) (hm : m ≤ 9223372036854775807) (hm0 : m0 ≤ 9223372036854775807) (hl : 0 < m) (hA : A = some ⟨b0, o0, none⟩)
    (hg : w.cell? ⟨g, 0, none⟩ = some (.slice A m c)) (h0 : w.cell? ⟨b0, o0, none⟩ = some (.slice A0 m0 c0)) :
    Calls Tryd.prog 75 #[.slice A' n c', .pointer (some ⟨g, 0, none⟩)] w fun e w' => e = .returned (.bool (decide (n = m0))) ∧ w = w' := by
  subst hA
  by_cases hd : n = m0
  · have h1 : ((n : Int) == (m0 : Int)) = true := by rw [beq_iff_eq]; omega
    have HD := Lib.hid (show decide (n = m0) = true by simpa using hd)
    clear hd
    go_enter Tryd.func75, Tryd.ntmps75
    go_wp2
    go_ret
    exact ⟨ret_bool HD.out.symm, rfl⟩
  · have h1 : ((n : Int) == (m0 : Int)) = false := by rw [beq_eq_false_iff_ne]; omega
    have HD := Lib.hid (show decide (n = m0) = false by simpa using hd)
    clear hd
    go_enter Tryd.func75, Tryd.ntmps75
    go_wp2
    go_ret
    exact ⟨ret_bool HD.out.symm, rfl⟩
theorem headD_nthL (L : List (List Int)) : L.headD [] = nthL L 0 := by cases L <;> rfl
set_option maxHeartbeats 1000000 in
theorem checkEven_any (A : Option Addr) (c : Nat) (L : List (List Int)) (w : World) (h : Sll w A L) (hl : L.length ≤ 9223372036854775807) (hs : AllShort L) :
    Calls Tryd.prog 33 #[.slice A L.length c] w (RetV w (.int .i64 (evE L))) := by
  have hW : Sll (w.alloc (.cells #[.slice A L.length c] 25)) A L := h.below ((Below.refl _ _).alloc (Nat.le_refl _) _)
  have C1 := check_any A c L _ hW hl hs
  have bG := Blk.new w 25 #[.slice A L.length c]
  have hsz : w.heap.size < (w.alloc (.cells #[.slice A L.length c] 25)).heap.size := by simp
  have hB0 : Below w.heap.size w (w.alloc (.cells #[.slice A L.length c] 25)) := (Below.refl _ _).alloc (Nat.le_refl _) _
  have C2 : ∀ w1, Below (w.alloc (.cells #[.slice A L.length c] 25)).heap.size (w.alloc (.cells #[.slice A L.length c] 25)) w1 → Calls Tryd.prog 76 #[.func (.func 75) #[] #[.pointer (some ⟨w.heap.size, 0, none⟩)], .slice A L.length c] w1 (Drew w1 (.bool (evenB L (L.headD []).length))) := fun w1 hb => by
    have hW1 := hW.below hb
    have bG1 := bG.below hb hsz
    refine all_even ⟨w.heap.size, 0, none⟩ (fun l => decide (l.length = (L.headD []).length)) A c L w1 hW1 hl (fun m A' c' k hk hS => ?_)
    obtain ⟨b0, o0, hA, hb0, hcs⟩ := hW1 (by omega)
    obtain ⟨A0, c0, h0, h01, h02⟩ := hcs 0 (by omega)
    have := even_any w.heap.size b0 o0 A A' A0 (nthL L k).length L.length (nthL L 0).length c c' c0 (w1.drewN m) (hs k hk) hl (hs 0 (by omega)) (by omega) hA ((bG1.drewN m).cell 0) h0
    rw [headD_nthL]
    exact this.mono fun e w' ⟨h1, h2⟩ => ⟨h1, 0, h2 ▸ rfl⟩
  have bG0 := bG.cell 0
  simp at bG0
  by_cases he : lsE L = 0
  · rw [he] at C1
    cases h2 : evenB L (L.headD []).length with
    | true =>
      rw [h2] at C2
      have HE := Lib.hid (show evE L = 0 by simp only [evE, he, h2]; rfl)
      have C1 := Lib.hid C1
      have C2 := Lib.hid C2
      clear he h2
      go_enter Tryd.func33, Tryd.ntmps33
      go_wp2_with fail
      refine C1.out.mono ?_
      rintro e w1 ⟨rfl, hB⟩
      have bG1 := (bG.below hB hsz).cell 0
      simp at bG1
      go_wp2_with fail
      refine (C2.out w1 hB).mono ?_
      rintro e w' ⟨rfl, m, rfl⟩
      go_wp2
      go_ret
      rw [HE.out]
      exact ⟨rfl, hB0.trans ((hB.trans ((below_drewN' w1 m).mono hB.size)).mono (by simp))⟩
    | false =>
      rw [h2] at C2
      have HE := Lib.hid (show evE L = 6 by simp only [evE, he, h2]; rfl)
      have C1 := Lib.hid C1
      have C2 := Lib.hid C2
      clear he h2
      go_enter Tryd.func33, Tryd.ntmps33
      go_wp2_with fail
      refine C1.out.mono ?_
      rintro e w1 ⟨rfl, hB⟩
      have bG1 := (bG.below hB hsz).cell 0
      simp at bG1
      go_wp2_with fail
      refine (C2.out w1 hB).mono ?_
      rintro e w' ⟨rfl, m, rfl⟩
      go_wp2
      go_ret
      rw [HE.out]
      exact ⟨rfl, hB0.trans ((hB.trans ((below_drewN' w1 m).mono hB.size)).mono (by simp))⟩
  · have HE := Lib.hid (evE_ne he)
    have hd : (lsE L != 0) = true := by rw [bne_iff_ne]; exact he
    obtain ⟨z, hz⟩ : ∃ z, lsE L = z := ⟨_, rfl⟩
    rw [hz] at C1 hd HE
    have C1 := Lib.hid C1
    clear he hz C2
    go_enter Tryd.func33, Tryd.ntmps33
    go_wp2_with fail
    refine C1.out.mono ?_
    rintro e w1 ⟨rfl, hB⟩
    go_wp2
    go_ret
    rw [HE.out]
    exact ⟨rfl, hB0.trans (hB.mono (by simp))⟩

/-! ### at their lists -/
theorem sll1 {w : World} {g : Nat} {A1 : Option Addr} {c1 : Nat} {l1 : List Int} (hb : Blk w g 22 #[.slice A1 l1.length c1]) (h1 : Sl w A1 l1) (hc1 : l1.length ≤ c1) : Sll w (some ⟨g, 0, none⟩) [l1] := fun _ =>
  ⟨g, 0, rfl, hb.lt, fun j hj => by
    match j, hj with
    | 0, _ => exact ⟨A1, c1, (hb.cell 0), hc1, h1⟩⟩
theorem sll2 {w : World} {g : Nat} {A1 A2 : Option Addr} {c1 c2 : Nat} {l1 l2 : List Int} (hb : Blk w g 22 #[.slice A1 l1.length c1, .slice A2 l2.length c2]) (h1 : Sl w A1 l1) (h2 : Sl w A2 l2) (hc1 : l1.length ≤ c1) (hc2 : l2.length ≤ c2) : Sll w (some ⟨g, 0, none⟩) [l1, l2] := fun _ =>
  ⟨g, 0, rfl, hb.lt, fun j hj => by
    match j, hj with
    | 0, _ => exact ⟨A1, c1, (hb.cell 0), hc1, h1⟩
    | 1, _ => exact ⟨A2, c2, (hb.cell 1), hc2, h2⟩⟩
theorem sll3 {w : World} {g : Nat} {A1 A2 A3 : Option Addr} {c1 c2 c3 : Nat} {l1 l2 l3 : List Int} (hb : Blk w g 22 #[.slice A1 l1.length c1, .slice A2 l2.length c2, .slice A3 l3.length c3]) (h1 : Sl w A1 l1) (h2 : Sl w A2 l2) (h3 : Sl w A3 l3) (hc1 : l1.length ≤ c1) (hc2 : l2.length ≤ c2) (hc3 : l3.length ≤ c3) : Sll w (some ⟨g, 0, none⟩) [l1, l2, l3] := fun _ =>
  ⟨g, 0, rfl, hb.lt, fun j hj => by
    match j, hj with
    | 0, _ => exact ⟨A1, c1, (hb.cell 0), hc1, h1⟩
    | 1, _ => exact ⟨A2, c2, (hb.cell 1), hc2, h2⟩
    | 2, _ => exact ⟨A3, c3, (hb.cell 2), hc3, h3⟩⟩
theorem allShort_of {L : List (List Int)} (h : ∀ l ∈ L, l.length ≤ 9223372036854775807) : AllShort L := fun j hj => h _ (nthL_mem L j hj)
def Ok (l : List Int) : Prop := l.length ≤ 9223372036854775807
theorem check1 (g : Nat) (A1 : Option Addr) (c1 : Nat) (l1 : List Int) (w : World) (hb : Blk w g 22 #[.slice A1 l1.length c1]) (h1 : Sl w A1 l1) (hc1 : l1.length ≤ c1) (k1 : Ok l1) :
    Calls Tryd.prog 74 #[.slice (some ⟨g, 0, none⟩) 1 1] w (RetV w (.int .i64 (lsE [l1]))) := check_any _ 1 [l1] w (sll1 hb h1 hc1) (by simp) (allShort_of (by unfold Ok at k1; simpa using k1))
theorem check2 (g : Nat) (A1 A2 : Option Addr) (c1 c2 : Nat) (l1 l2 : List Int) (w : World) (hb : Blk w g 22 #[.slice A1 l1.length c1, .slice A2 l2.length c2]) (h1 : Sl w A1 l1) (h2 : Sl w A2 l2) (hc1 : l1.length ≤ c1) (hc2 : l2.length ≤ c2) (k1 : Ok l1) (k2 : Ok l2) :
    Calls Tryd.prog 74 #[.slice (some ⟨g, 0, none⟩) 2 2] w (RetV w (.int .i64 (lsE [l1, l2]))) := check_any _ 2 [l1, l2] w (sll2 hb h1 h2 hc1 hc2) (by simp) (allShort_of (by unfold Ok at k1 k2; simpa using ⟨k1, k2⟩))
theorem check3 (g : Nat) (A1 A2 A3 : Option Addr) (c1 c2 c3 : Nat) (l1 l2 l3 : List Int) (w : World) (hb : Blk w g 22 #[.slice A1 l1.length c1, .slice A2 l2.length c2, .slice A3 l3.length c3]) (h1 : Sl w A1 l1) (h2 : Sl w A2 l2) (h3 : Sl w A3 l3) (hc1 : l1.length ≤ c1) (hc2 : l2.length ≤ c2) (hc3 : l3.length ≤ c3) (k1 : Ok l1) (k2 : Ok l2) (k3 : Ok l3) :
    Calls Tryd.prog 74 #[.slice (some ⟨g, 0, none⟩) 3 3] w (RetV w (.int .i64 (lsE [l1, l2, l3]))) := check_any _ 3 [l1, l2, l3] w (sll3 hb h1 h2 h3 hc1 hc2 hc3) (by simp) (allShort_of (by unfold Ok at k1 k2 k3; simpa using ⟨k1, k2, k3⟩))
theorem even2 (g : Nat) (A1 A2 : Option Addr) (c1 c2 : Nat) (l1 l2 : List Int) (w : World) (hb : Blk w g 22 #[.slice A1 l1.length c1, .slice A2 l2.length c2]) (h1 : Sl w A1 l1) (h2 : Sl w A2 l2) (hc1 : l1.length ≤ c1) (hc2 : l2.length ≤ c2) (k1 : Ok l1) (k2 : Ok l2) :
    Calls Tryd.prog 33 #[.slice (some ⟨g, 0, none⟩) 2 2] w (RetV w (.int .i64 (evE [l1, l2]))) := checkEven_any _ 2 [l1, l2] w (sll2 hb h1 h2 hc1 hc2) (by simp) (allShort_of (by unfold Ok at k1 k2; simpa using ⟨k1, k2⟩))
theorem even3 (g : Nat) (A1 A2 A3 : Option Addr) (c1 c2 c3 : Nat) (l1 l2 l3 : List Int) (w : World) (hb : Blk w g 22 #[.slice A1 l1.length c1, .slice A2 l2.length c2, .slice A3 l3.length c3]) (h1 : Sl w A1 l1) (h2 : Sl w A2 l2) (h3 : Sl w A3 l3) (hc1 : l1.length ≤ c1) (hc2 : l2.length ≤ c2) (hc3 : l3.length ≤ c3) (k1 : Ok l1) (k2 : Ok l2) (k3 : Ok l3) :
    Calls Tryd.prog 33 #[.slice (some ⟨g, 0, none⟩) 3 3] w (RetV w (.int .i64 (evE [l1, l2, l3]))) := checkEven_any _ 3 [l1, l2, l3] w (sll3 hb h1 h2 h3 hc1 hc2 hc3) (by simp) (allShort_of (by unfold Ok at k1 k2 k3; simpa using ⟨k1, k2, k3⟩))

/-! ### total -/
theorem totE_neg {l : List Int} (h : posB l = false) : totE l = 14 := by simp [totE, h]
theorem sum_bound (l : List Int) (hw : ∀ j, j < l.length → isW (nth l j)) (k : Nat) (hk : k ≤ l.length) : -2147483648 * (k : Int) ≤ psum l k ∧ psum l k ≤ 2147483648 * (k : Int) := by
  induction k with
  | zero => simp [psum_zero]
  | succ k ih =>
    have := ih (by omega)
    have h1 := hw k (by omega)
    unfold isW at h1
    rw [psum_succ l k (by omega)]
    omega
set_option maxHeartbeats 1000000 in
theorem total_any (A : Option Addr) (c : Nat) (zs : List Int) (w : World) (h : Sl w A zs) (hl : zs.length ≤ 1048576) (hw : ∀ j, j < zs.length → isW (nth zs j)) :
    Calls Tryd.prog 85 #[.slice A zs.length c] w fun e w' => e = .returned (.tuple #[.int .i64 (totN zs), .int .i64 (totE zs)]) ∧ w = w' := by
  have C1 := all_times (fun n => decide (0 ≤ n)) A c zs w h (by omega) (fun n => isTimes_any n w)
  cases hp : posB zs with
  | false =>
    have HE := Lib.hid (totE_neg hp)
    have HN := Lib.hid (show totN zs = 0 by simp [totN, totE_neg hp])
    rw [show (zs.all fun n => decide (0 ≤ n)) = false from hp] at C1
    have C1 := Lib.hid C1
    clear hp
    go_enter Tryd.func85, Tryd.ntmps85
    go_wp2_with fail
    refine C1.out.mono ?_
    rintro e w' ⟨rfl, rfl⟩
    go_wp2
    go_ret2
    rw [HE.out, HN.out]
    exact ⟨rfl, rfl⟩
  | true =>
    rw [show (zs.all fun n => decide (0 ≤ n)) = true from hp] at C1
    have C1 := Lib.hid C1
    have HB := Lib.hid (sum_bound zs hw)
    have HW := Lib.hid hw
    have HP := Lib.hid hp
    clear hp hw
    go_enter Tryd.func85, Tryd.ntmps85
    go_wp2_with fail
    refine C1.out.mono ?_
    rintro e w' ⟨rfl, rfl⟩
    go_wp2
    go_loop [4, 12] (fun t i => ∃ k : Nat, k ≤ zs.length ∧ i = .int .i64 k ∧ t = .int .i64 (psum zs k)) (fun _ i => zs.length - (intOf i).toNat)
    case atStart => exact ⟨0, Nat.zero_le _, rfl, by rw [psum_zero]⟩
    case round =>
      obtain ⟨k, hk, rfl, rfl⟩ := hrel
      have hb := HB.out k hk
      by_cases hlt : k < zs.length
      · obtain ⟨bl, off, rfl, hbl, hc⟩ := h.at_ hlt
        have hs' := Lib.hid (psum_succ zs k hlt)
        have h2 := HW.out k hlt
        unfold isW at h2
        go_wp2
        go_round
        case rel => exact ⟨k + 1, by omega, by go_num, by rw [hs'.out]⟩
        case measure => simp [intOf]; omega
      · obtain rfl : k = zs.length := by omega
        have HS := Lib.hid (psum_all zs)
        rw [HS.out] at hb ⊢
        by_cases hbig : 1048576 < zs.sum
        · have HE := Lib.hid (show totE zs = 9 by simp [totE, HP.out, hbig])
          have HN := Lib.hid (show totN zs = 0 by simp [totN, HE.out])
          go_wp2
          go_ret2
          rw [HE.out, HN.out]
          exact ⟨rfl, rfl⟩
        · have HE := Lib.hid (show totE zs = 0 by simp only [totE, HP.out, if_neg hbig]; rfl)
          have HN := Lib.hid (show totN zs = zs.sum by simp [totN, HE.out])
          go_wp2
          go_ret2
          rw [HE.out, HN.out]
          exact ⟨rfl, rfl⟩
end Go.Proofs.YtecpanppnljkhaaDoor
