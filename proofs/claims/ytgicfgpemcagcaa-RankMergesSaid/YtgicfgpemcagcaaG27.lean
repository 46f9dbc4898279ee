/- Walks and mathematics of rank, part 27. -/
import Derived.Test.YtgicfgpemcagcaaG24
import Derived.Deep.Quiet
import Derived.Laws.BitsLemmas
import Derived.Test.YtgicfgpemcagcaaG17
import Derived.Test.YtgicfgpemcagcaaG26
/- Walks of rank's specification: less. -/
namespace Go.Proofs.Ytgicfgpemcagcaa
set_option linter.unusedVariables false
set_option maxRecDepth 100000
open Go.RowKit Go.Shelf
theorem pow_b (b : Nat) (hb : b ≤ 32) : wrap64 (wrap64 (2 ^ b) - 1) = 2 ^ b - 1 := by
  have h1 : 1 ≤ 2 ^ b := Nat.one_le_two_pow
  have h2 : 2 ^ b ≤ 2 ^ 32 := Nat.pow_le_pow_right (by decide) hb
  have e : ((2 : Int) ^ b) = ((2 ^ b : Nat) : Int) := by push_cast; rfl
  rw [e]
  unfold wrap64
  omega
theorem mask_i64 (b : Nat) (hb : b ≤ 32) (x : Int) (h0 : 0 ≤ x) (h1 : x < 9223372036854775808) : Go.bits .and .i64 x (wrap64 (wrap64 (2 ^ b) - 1)) = x % 2 ^ b := by
  rw [pow_b b hb]
  exact bits_mask .i64 63 (by decide) (fun n h0 h1 => by rw [IntKind.wrap_i64]; omega) b (by omega) x h0 (by simpa using h1)
set_option maxHeartbeats 2000000 in
theorem rless_any (A : Option Addr) (c : Nat) (l : List Int) (i k bits : Nat) (w : World) (h : Sl w A l) (hi : i < l.length) (hk : k < l.length) (hb : bits ≤ 32) (hl : l.length ≤ 1048576) (hwi : isW (nth l i)) (hwk : isW (nth l k)) :
    Calls Try.prog 71 #[.slice A l.length c, .int .i64 (i : Int), .int .i64 (k : Int), .int .i64 (bits : Int)] w (RetV w (.bool (ltB (keyK l bits) (i : Int) (k : Int)))) := by
  obtain ⟨ba, oa, rfl, hba, hca⟩ := h (by omega)
  have c1 := hca i hi
  have c2 := hca k hk
  obtain ⟨x, hx⟩ : ∃ x, nth l i = x := ⟨_, rfl⟩
  obtain ⟨y, hy⟩ : ∃ y, nth l k = y := ⟨_, rfl⟩
  rw [hx] at c1 hwi
  rw [hy] at c2 hwk
  have HX := Lib.hid hx
  have HY := Lib.hid hy
  unfold isW at hwi hwk
  have g1 : (0 : Int) ≤ (i : Int) := by omega
  have g2 : (i : Int) < (l.length : Int) := by omega
  have g3 : (0 : Int) ≤ (k : Int) := by omega
  have g4 : (k : Int) < (l.length : Int) := by omega
  have m1 := mask_i64 bits hb (x + 2147483648) (by omega) (by omega)
  have m2 := mask_i64 bits hb (y + 2147483648) (by omega) (by omega)
  have k1 : keyK l bits (i : Int) = (x + 2147483648) % 2 ^ bits := by unfold keyK; rw [Int.toNat_natCast, hx]
  have k2 : keyK l bits (k : Int) = (y + 2147483648) % 2 ^ bits := by unfold keyK; rw [Int.toNat_natCast, hy]
  have HK : Hid (ltB (keyK l bits) (i : Int) (k : Int) = decide ((x + 2147483648) % 2 ^ bits < (y + 2147483648) % 2 ^ bits ∨ (x + 2147483648) % 2 ^ bits = (y + 2147483648) % 2 ^ bits ∧ (i : Int) < (k : Int))) := Lib.hid (by unfold ltB; rw [k1, k2])
  have M1 := Lib.hid m1
  have M2 := Lib.hid m2
  obtain ⟨a, ha⟩ : ∃ a, (x + 2147483648) % 2 ^ bits = a := ⟨_, rfl⟩
  obtain ⟨b, hb'⟩ : ∃ b, (y + 2147483648) % 2 ^ bits = b := ⟨_, rfl⟩
  rw [ha, hb'] at HK
  rw [ha] at M1
  rw [hb'] at M2
  clear hx hy hca k1 k2 m1 m2 ha hb'
  go_enter Try.func71, Try.ntmps71
  go_wp2
  go_quiet (fail)
  rw [M1.out, M2.out]
  have hB : Below w.heap.size w (w.drewN nq) := below_dN w nq
  have HI : Hid (((i : Int) < (k : Int)) ↔ i < k) := Lib.hid (by omega)
  by_cases h1 : a < b
  · have E : Hid (ltB (keyK l bits) (i : Int) (k : Int) = true) := Lib.hid (by rw [HK.out]; simp [h1])
    go_wp2
    go_ret
    exact ⟨by rw [E.out]; rfl, hB⟩
  · by_cases h2 : a = b
    · by_cases h3 : i < k
      · have E : Hid (ltB (keyK l bits) (i : Int) (k : Int) = true) := Lib.hid (by rw [HK.out]; simp [h2, h3])
        have h3' : (i : Int) < (k : Int) := by omega
        go_wp2
        go_ret
        exact ⟨by rw [E.out]; rfl, hB⟩
      · have E : Hid (ltB (keyK l bits) (i : Int) (k : Int) = false) := Lib.hid (by rw [HK.out]; simp [h1, h3])
        have h3' : ¬ (i : Int) < (k : Int) := by omega
        go_wp2
        go_ret
        exact ⟨by rw [E.out]; rfl, hB⟩
    · have E : Hid (ltB (keyK l bits) (i : Int) (k : Int) = false) := Lib.hid (by rw [HK.out]; simp [h1, h2])
      go_wp2
      go_ret
      exact ⟨by rw [E.out]; rfl, hB⟩
end Go.Proofs.Ytgicfgpemcagcaa
/- Walks of rank's specification: sorted. -/
namespace Go.Proofs.Ytgicfgpemcagcaa
set_option linter.unusedVariables false
set_option maxRecDepth 100000
open Go.RowKit Go.Shelf
theorem rgI_snoc (lo hi : Nat) (h : lo ≤ hi) : rgI lo (hi + 1) = rgI lo hi ++ [(hi : Int)] := by
  unfold rgI
  rw [show hi + 1 - lo = (hi - lo) + 1 by omega, mk_succ, show lo + (hi - lo) = hi by omega]
theorem rgI_self (lo : Nat) : rgI lo lo = [] := by unfold rgI; rw [Nat.sub_self]; rfl
/-- How many of the numbers from lo to just below k go ahead of i. -/
def ahN (key : Int → Int) (lo k : Nat) (i : Int) : Nat := (rgI lo k).countP (fun a => ltB key a i)
theorem ahN_self (key : Int → Int) (lo : Nat) (i : Int) : ahN key lo lo i = 0 := by unfold ahN; rw [rgI_self]; rfl
theorem ahN_succ (key : Int → Int) (lo k : Nat) (i : Int) (h : lo ≤ k) : ahN key lo (k + 1) i = ahN key lo k i + (if ltB key (k : Int) i = true then 1 else 0) := by
  unfold ahN
  rw [rgI_snoc lo k h, List.countP_append, List.countP_singleton]
theorem ahN_le (key : Int → Int) (lo k : Nat) (i : Int) : ahN key lo k i ≤ k - lo := by
  unfold ahN
  have := List.countP_le_length (p := fun a => ltB key a i) (l := rgI lo k)
  rwa [rgI_len] at this
/-- The places of the numbers from lo to just below k, the segment being from lo to just below hi. -/
def plM (key : Int → Int) (lo hi k : Nat) : List Int := mk (fun j => ((plc key lo hi ((lo + j : Nat) : Int) : Nat) : Int)) (k - lo)
theorem plM_self (key : Int → Int) (lo hi : Nat) : plM key lo hi lo = [] := by unfold plM; rw [Nat.sub_self]; rfl
theorem plM_succ (key : Int → Int) (lo hi k : Nat) (h : lo ≤ k) : plM key lo hi (k + 1) = plM key lo hi k ++ [((lo + ahN key lo hi (k : Int) : Nat) : Int)] := by
  unfold plM
  rw [show k + 1 - lo = (k - lo) + 1 by omega, mk_succ, show lo + (k - lo) = k by omega]
  rfl
theorem plM_all (key : Int → Int) (lo hi : Nat) : plM key lo hi hi = plcS key lo hi := rfl
set_option maxHeartbeats 8000000 in
theorem sorted_any (A A' : Option Addr) (c cl : Nat) (l lens : List Int) (bits : Nat) (w : World) (h : Sl w A l) (h' : Sl w A' lens) (hz : Segs l lens) (hb : bits ≤ 32) (hw : ∀ j, j < l.length → isW (nth l j)) :
    Calls Try.prog 54 #[.slice A l.length cl, .slice A' lens.length c, .int .i64 (bits : Int)] w (RetS w (plcL (keyK l bits) lens lens.length)) := by
  have hlen := hz.few
  have hll := hz.short
  have C := Lib.hid (fun (W : World) (i k : Nat) (hB : Below w.heap.size w W) (hi : i < l.length) (hk : k < l.length) => rless_any A cl l i k bits W (h.step hB) hi hk hb hll (hw i hi) (hw k hk))
  obtain ⟨key, hkey⟩ : ∃ key, keyK l bits = key := ⟨_, rfl⟩
  rw [hkey] at C ⊢
  clear hkey hb hw
  have hst : Hid (∀ s, s < lens.length → ∃ nn : Nat, nth lens s = (nn : Int) ∧ ofs lens (s + 1) = ofs lens s + nn ∧ ofs lens s + nn ≤ l.length) := Lib.hid (fun s hs => by
    obtain ⟨e1, e2, e3, e4, e5⟩ := hz.step s hs
    exact ⟨(nth lens s).toNat, by omega, by omega, by omega⟩)
  have hB1 := (Below.refl w.heap.size w).alloc (Nat.le_refl _) (.cells #[] 3)
  have ow0 := OwnI.empty w w.heap.size (Nat.le_refl _)
  obtain ⟨i0, hi, hz0, hz1, hz2⟩ := info_parts int_info
  clear hz
  go_enter Try.func54, Try.ntmps54
  go_wp2
  go_loopw [7, 8, 9] (fun v a i wr => ∃ (s lo : Nat) (L : List Int), s ≤ lens.length ∧ i = .int .i64 (s : Int) ∧ a = .int .i64 (lo : Int) ∧ Hid (lo = ofs lens s) ∧ Hid (L = plcL key lens s) ∧ L.length = lo ∧ OwnI wr w.heap.size v L ∧ Below w.heap.size w wr) (fun _ _ i _ => lens.length - (intOf i).toNat)
  case atStart => exact ⟨0, 0, [], Nat.zero_le _, rfl, rfl, Lib.hid (ofs_zero _).symm, Lib.hid rfl, rfl, ow0, hB1⟩
  case round =>
    obtain ⟨s, lo, L, hs, rfl, rfl, HLo, HL, hLl, hown, hB⟩ := hrel
    by_cases hsl : s < lens.length
    · obtain ⟨b1, o1, rfl, hb1, hc1⟩ := h' (by omega)
      have k1 := (hB.cell (p := ⟨b1, o1 + s, none⟩) hb1).trans (hc1 s hsl)
      obtain ⟨nn, hn1, hn2, hn3⟩ := hst.out s hsl
      rw [← HLo.out] at hn2 hn3
      have HN2 := Lib.hid hn2
      rw [hn1] at k1
      have HYtgicfgpemcagcaa := Lib.hid hn1
      clear hn1 hn2
      have g0 : (0 : Int) ≤ (s : Int) := by omega
      have g1 : (s : Int) < (lens.length : Int) := by omega
      go_wp2
      rename World => wo
      go_loopw [7, 10] (fun v i wr => ∃ (ii : Nat) (M : List Int), lo ≤ ii ∧ ii ≤ lo + nn ∧ i = .int .i64 (ii : Int) ∧ Hid (M = L ++ plM key lo (lo + nn) ii) ∧ M.length = ii ∧ OwnI wr w.heap.size v M ∧ Below w.heap.size w wr) (fun _ i _ => lo + nn - (intOf i).toNat)
      case atStart => exact ⟨lo, L, Nat.le_refl _, by omega, rfl, Lib.hid (by rw [plM_self, List.append_nil]), hLl, hown, hB⟩
      case round =>
        clear hown hB k1
        obtain ⟨ii, M, h1, h2, rfl, HM, hMl, hown, hB⟩ := hrel
        have k1 := (hB.cell (p := ⟨b1, o1 + s, none⟩) hb1).trans (hc1 s hsl)
        rw [HYtgicfgpemcagcaa.out] at k1
        by_cases hil : ii < lo + nn
        · have g2 : (ii : Int) < (lo : Int) + (nn : Int) := by omega
          go_wp2
          rename World => wi
          go_loopw [11, 12] (fun p k wr => ∃ (kk pp : Nat), lo ≤ kk ∧ kk ≤ lo + nn ∧ k = .int .i64 (kk : Int) ∧ p = .int .i64 (pp : Int) ∧ Hid (pp = lo + ahN key lo kk (ii : Int)) ∧ pp ≤ kk ∧ OwnI wr w.heap.size _ M ∧ Below w.heap.size w wr) (fun _ k _ => lo + nn - (intOf k).toNat)
          case atStart => exact ⟨lo, lo, Nat.le_refl _, by omega, rfl, rfl, Lib.hid (by rw [ahN_self]; rfl), Nat.le_refl _, hown, hB⟩
          case round =>
            clear hown hB k1
            obtain ⟨kk, pp, h3, h4, rfl, rfl, HP, hp, hown, hB⟩ := hrel
            have k1 := (hB.cell (p := ⟨b1, o1 + s, none⟩) hb1).trans (hc1 s hsl)
            rw [HYtgicfgpemcagcaa.out] at k1
            by_cases hkl : kk < lo + nn
            · have g3 : (kk : Int) < (lo : Int) + (nn : Int) := by omega
              by_cases hki : kk = ii
              · have HP2 : Hid (pp = lo + ahN key lo (kk + 1) (ii : Int)) := Lib.hid (by rw [ahN_succ key lo kk _ h3, hki, ltB_irr, HP.out, hki]; rfl)
                go_wp2
                go_roundw
                case rel => exact ⟨kk + 1, pp, by omega, by omega, by go_num, rfl, HP2, by omega, hown, hB⟩
                case measure => simp [intOf]; omega
              · have hne : ¬ ((kk : Int) = (ii : Int)) := by omega
                have C1 := C.out wr kk ii hB (by omega) (by omega)
                cases hlt : ltB key (kk : Int) (ii : Int) with
                | true =>
                  rw [hlt] at C1
                  have CC := Lib.hid C1
                  have HP2 : Hid (pp + 1 = lo + ahN key lo (kk + 1) (ii : Int)) := Lib.hid (by rw [ahN_succ key lo kk _ h3, hlt, if_pos rfl, HP.out]; omega)
                  clear C1 hlt
                  go_wp2_with (go_at_call 71; refine CC.out.mono ?_; rintro e w' ⟨rfl, hBc⟩; have k2 := (hBc.cell (p := ⟨b1, o1 + s, none⟩) (Nat.lt_of_lt_of_le hb1 hB.size)).trans k1; have hBn := hB.trans (hBc.mono hB.size); have ow := hown.below hBc (Nat.le_refl _); clear hBc hown hB k1)
                  go_roundw
                  case rel => exact ⟨kk + 1, pp + 1, by omega, by omega, by go_num, by go_num, HP2, by omega, ow, hBn⟩
                  case measure => simp [intOf]; omega
                | false =>
                  rw [hlt] at C1
                  have CC := Lib.hid C1
                  have HP2 : Hid (pp = lo + ahN key lo (kk + 1) (ii : Int)) := Lib.hid (by rw [ahN_succ key lo kk _ h3, hlt, HP.out]; rfl)
                  clear C1 hlt
                  go_wp2_with (go_at_call 71; refine CC.out.mono ?_; rintro e w' ⟨rfl, hBc⟩; have k2 := (hBc.cell (p := ⟨b1, o1 + s, none⟩) (Nat.lt_of_lt_of_le hb1 hB.size)).trans k1; have hBn := hB.trans (hBc.mono hB.size); have ow := hown.below hBc (Nat.le_refl _); clear hBc hown hB k1)
                  go_roundw
                  case rel => exact ⟨kk + 1, pp, by omega, by omega, by go_num, rfl, HP2, by omega, ow, hBn⟩
                  case measure => simp [intOf]; omega
            · have hkk : kk = lo + nn := by omega
              have HM2 : Hid (M ++ [(pp : Int)] = L ++ plM key lo (lo + nn) (ii + 1)) := Lib.hid (by rw [plM_succ key lo (lo + nn) ii h1, ← List.append_assoc, ← HM.out, HP.out, hkk])
              have g3 : ¬ ((kk : Int) < (lo : Int) + (nn : Int)) := by omega
              clear hkk
              go_wp2_with (at_builtin; refine wpList_append_own _ rfl _ _ 22 rfl w.heap.size 3 i0 (.int .i64 0) 1 8 Try.underlying22 hi hz0 hz1 hz2 rfl (by decide) _ _ _ rfl (hown.alloc _) ⟨wr.heap.size, 0, none⟩ 1 1 [.int .i64 (pp : Int)] rfl rfl (cell_one_new _ _ _) (by simp [Value.oneCell']) (by unfold maxLen; omega) (by omega) (by have := hB.size; simp; omega) ?_; intro v' w1 hown' hgrow _; have hB1 := below_append hB hB.size hown hgrow)
              have hown1 := OwnI.snoc hown'
              clear hown' hgrow
              go_roundw
              case rel => exact ⟨ii + 1, _, by omega, by omega, by go_num, HM2, by simp; omega, hown1, hB1⟩
              case measure => simp [intOf]; omega
        · have g2 : ¬ ((ii : Int) < (lo : Int) + (nn : Int)) := by omega
          have hii : ii = lo + nn := by omega
          have HL2 : Hid (M = plcL key lens (s + 1)) := Lib.hid (by
            rw [HM.out, hii, plM_all, HL.out]
            show _ = plcL key lens s ++ plcS key (ofs lens s) (ofs lens (s + 1))
            rw [HN2.out, ← HLo.out])
          have HLo2 : Hid (lo + nn = ofs lens (s + 1)) := Lib.hid HN2.out.symm
          clear hii
          go_wp2
          go_roundw
          case rel => exact ⟨s + 1, lo + nn, M, by omega, by go_num, by go_num, HLo2, HL2, by omega, hown, hB⟩
          case measure => simp [intOf]; omega
    · obtain rfl : s = lens.length := by omega
      have g1 : ¬ ((lens.length : Int) < (lens.length : Int)) := by omega
      obtain ⟨A3, c3, rfl, hcc, hsl3⟩ := hown.form
      go_wp2
      go_ret
      rw [← HL.out]
      exact ⟨A3, c3, by rw [hLl]; rfl, hcc, hsl3, hB⟩
end Go.Proofs.Ytgicfgpemcagcaa
/- Walks of rank's specification: Split, Passes, Order. -/
namespace Go.Proofs.Ytgicfgpemcagcaa
set_option linter.unusedVariables false
set_option maxRecDepth 100000
open Go.RowKit Go.Shelf
theorem retL_err {w w1 : World} {xs : List Int} {er : Int} (h : er ≠ 0) (hB : Below w.heap.size w w1) : RetL w (orL er xs) er (.returned (.tuple #[.slice none 0 0, .int .i64 er])) w1 := by
  rw [orL_err _ h]
  exact ⟨none, 0, rfl, Nat.le_refl _, Sl.nil _ _, hB⟩
set_option maxHeartbeats 2000000 in
theorem rOrder_any (A A' : Option Addr) (c cl : Nat) (l lens : List Int) (w : World) (h : Sl w A l) (k : Ok l) (h' : Sl w A' lens) (k' : Ok lens) :
    Calls Try.prog 26 #[.slice A l.length cl, .slice A' lens.length c] w (RetL w (orL (sgE l lens) (plcL (keyK l 32) lens lens.length)) (sgE l lens)) := by
  have C1 := rsg_any A A' c cl l lens w h k h' k'
  by_cases he : sgE l lens = 0
  · obtain ⟨h0, hz⟩ := sgE_ok he
    have C2 := Lib.hid (fun W (hW : Sl W A l) (hW' : Sl W A' lens) => sorted_any A A' c cl l lens 32 W hW hW' hz (Nat.le_refl _) (sgE_words he))
    rw [he] at C1
    rw [he, orL_ok]
    have C1 := Lib.hid C1
    clear he h0 hz
    go_enter Try.func26, Try.ntmps26
    go_wp2_with fail
    refine C1.out.mono ?_
    rintro e w1 ⟨rfl, hB⟩
    go_wp2_with fail
    refine (C2.out _ (h.step hB) (h'.step hB)).mono ?_
    rintro e w2 ⟨A2, c2, rfl, hc2, h2, hBx⟩
    go_wp2
    go_ret2
    exact ⟨A2, c2, rfl, hc2, h2, hB.trans (hBx.mono hB.size)⟩
  · have hd : (sgE l lens != 0) = true := by rw [bne_iff_ne]; exact he
    have C1 := Lib.hid C1
    have HE := Lib.hid he
    clear he
    go_enter Try.func26, Try.ntmps26
    go_wp2_with fail
    refine C1.out.mono ?_
    rintro e w1 ⟨rfl, hB⟩
    go_wp2
    go_ret2
    exact retL_err HE.out hB
set_option maxHeartbeats 2000000 in
theorem rPasses_any (A A' : Option Addr) (c cl : Nat) (l lens : List Int) (bits : Int) (w : World) (h : Sl w A l) (k : Ok l) (h' : Sl w A' lens) (k' : Ok lens) :
    Calls Try.prog 24 #[.slice A l.length cl, .slice A' lens.length c, .int .i64 bits] w (RetL w (orL (paE l lens bits) (plcL (keyK l bits.toNat) lens lens.length)) (paE l lens bits)) := by
  have C1 := rsg_any A A' c cl l lens w h k h' k'
  by_cases he : sgE l lens = 0
  · obtain ⟨h0, hz⟩ := sgE_ok he
    have hd : (sgE l lens != 0) = false := by rw [he]; rfl
    rw [he] at C1
    have C1 := Lib.hid C1
    have C3 := Lib.hid (fun W => lies_any bits 0 32 W)
    by_cases hb : 0 ≤ bits ∧ bits ≤ 32
    · obtain ⟨m, rfl⟩ : ∃ m : Nat, bits = (m : Int) := ⟨bits.toNat, by omega⟩
      rw [paE_0 he hb, orL_ok, Int.toNat_natCast]
      have C2 := Lib.hid (fun W (hW : Sl W A l) (hW' : Sl W A' lens) => sorted_any A A' c cl l lens m W hW hW' hz (by omega) (sgE_words he))
      have hdl : decide (0 ≤ (m : Int) ∧ (m : Int) ≤ 32) = true := by rw [decide_eq_true_iff]; exact hb
      rw [hdl] at C3
      clear he h0 hz hd hdl
      go_enter Try.func24, Try.ntmps24
      go_wp2_with fail
      refine C1.out.mono ?_
      rintro e w1 ⟨rfl, hB⟩
      go_wp2_with fail
      refine (C3.out _).mono ?_
      rintro e w2 ⟨rfl, rfl⟩
      go_wp2_with fail
      refine (C2.out _ (h.step hB) (h'.step hB)).mono ?_
      rintro e w2 ⟨A2, c2, rfl, hc2, h2, hBx⟩
      go_wp2
      go_ret2
      exact ⟨A2, c2, rfl, hc2, h2, hB.trans (hBx.mono hB.size)⟩
    · rw [paE_2 he hb]
      have hdl : decide (0 ≤ bits ∧ bits ≤ 32) = false := by rw [decide_eq_false_iff_not]; exact hb
      rw [hdl] at C3
      clear he h0 hz hd hdl hb
      go_enter Try.func24, Try.ntmps24
      go_wp2_with fail
      refine C1.out.mono ?_
      rintro e w1 ⟨rfl, hB⟩
      go_wp2_with fail
      refine (C3.out _).mono ?_
      rintro e w2 ⟨rfl, rfl⟩
      go_wp2
      go_ret2
      exact retL_err (by decide) hB
  · have hd : (sgE l lens != 0) = true := by rw [bne_iff_ne]; exact he
    have C1 := Lib.hid C1
    have HE := Lib.hid he
    rw [paE_e he]
    clear he
    go_enter Try.func24, Try.ntmps24
    go_wp2_with fail
    refine C1.out.mono ?_
    rintro e w1 ⟨rfl, hB⟩
    go_wp2
    go_ret2
    exact retL_err HE.out hB
/-- One bit for each element. -/
def b01L (l : List Int) (k : Nat) : List Int := mk (fun j => if nth l j ≠ 0 then 1 else 0) k
theorem b01L_len (l : List Int) (k : Nat) : (b01L l k).length = k := mk_length _ _
theorem b01L_succ (l : List Int) (k : Nat) : b01L l (k + 1) = b01L l k ++ [if nth l k ≠ 0 then 1 else 0] := mk_succ _ _
theorem b01_key {l : List Int} (x : Nat) (hx : x < l.length) : keyK (b01L l l.length) 1 (x : Int) = fl01 l (x : Int) := by
  unfold keyK fl01 b01L
  rw [Int.toNat_natCast, nth_mk _ _ _ hx]
  split <;> decide
set_option maxHeartbeats 2000000 in
theorem rSplit_any (A A' : Option Addr) (c cl : Nat) (l lens : List Int) (w : World) (h : Sl w A l) (k : Ok l) (h' : Sl w A' lens) (k' : Ok lens) :
    Calls Try.prog 22 #[.slice A l.length cl, .slice A' lens.length c] w (RetL w (orL (sgE l lens) (plcL (fl01 l) lens lens.length)) (sgE l lens)) := by
  have C1 := rsg_any A A' c cl l lens w h k h' k'
  by_cases he : sgE l lens = 0
  · obtain ⟨h0, hz⟩ := sgE_ok he
    have hll := hz.short
    have hzb : Segs (b01L l l.length) lens := sg_of_len hz (b01L_len _ _)
    have HKEY : Hid (plcL (keyK (b01L l l.length) 1) lens lens.length = plcL (fl01 l) lens lens.length) := Lib.hid (plcL_congr hz (fun a b ha hb => by
      unfold ltB
      rw [b01_key a ha, b01_key b hb]))
    have C2 := Lib.hid (fun W A3 c3 (hW : Sl W A3 (b01L l l.length)) (hW' : Sl W A' lens) => sorted_any A3 A' c c3 (b01L l l.length) lens 1 W hW hW' hzb (by omega) (fun j hj => by
      rw [b01L_len] at hj
      unfold b01L
      rw [nth_mk _ _ _ hj]
      split <;> (unfold isW; omega)))
    rw [b01L_len] at C2
    rw [he] at C1
    rw [he, orL_ok]
    have C1 := Lib.hid C1
    have HB1 := Lib.hid (b01L_succ l)
    have HBL := Lib.hid (b01L_len l)
    obtain ⟨i0, hi, hz0, hz1, hz2⟩ := info_parts int_info
    clear he h0 hz hzb
    go_enter Try.func22, Try.ntmps22
    go_wp2_with fail
    refine C1.out.mono ?_
    rintro e w1 ⟨rfl, hB⟩
    have ow0 := OwnI.empty w1 w.heap.size hB.size
    have hB1 := hB.alloc hB.size (.cells #[] 3)
    go_wp2
    go_loopw [7, 8] (fun v i wr => ∃ (j : Nat) (M : List Int), j ≤ l.length ∧ i = .int .i64 (j : Int) ∧ Hid (M = b01L l j) ∧ M.length = j ∧ OwnI wr w.heap.size v M ∧ Below w.heap.size w wr) (fun _ i _ => l.length - (intOf i).toNat)
    case atStart => exact ⟨0, [], Nat.zero_le _, rfl, Lib.hid rfl, rfl, ow0, hB1⟩
    case round =>
      clear ow0 hB1 C1 hB
      obtain ⟨j, M, hj, rfl, HM, hMl, hown, hB⟩ := hrel
      by_cases hjl : j < l.length
      · obtain ⟨b1, o1, rfl, hb1, hc1⟩ := (h.step hB).at_ hjl
        have g0 : (0 : Int) ≤ (j : Int) := by omega
        have g1 : (j : Int) < (l.length : Int) := by omega
        have HS := Lib.hid (HB1.out j)
        rw [← HM.out] at HS
        obtain ⟨x, hx⟩ : ∃ x, nth l j = x := ⟨_, rfl⟩
        rw [hx] at hc1 HS
        clear hx
        by_cases hx0 : x = 0
        · have hd : (x != 0) = false := by rw [hx0]; rfl
          have HS2 : Hid (M ++ [0] = b01L l (j + 1)) := Lib.hid (by rw [HS.out, if_neg (by simpa using hx0)])
          go_wp2_with (at_builtin; refine wpList_append_own _ rfl _ _ 22 rfl w.heap.size 3 i0 (.int .i64 0) 1 8 Try.underlying22 hi hz0 hz1 hz2 rfl (by decide) _ _ _ rfl (hown.alloc _) ⟨wr.heap.size, 0, none⟩ 1 1 [.int .i64 0] rfl rfl (cell_one_new _ _ _) (by simp [Value.oneCell']) (by unfold maxLen; omega) (by omega) (by have := hB.size; simp; omega) ?_; intro v' w1 hown' hgrow _; have hB1 := below_append hB hB.size hown hgrow)
          have hown1 := OwnI.snoc hown'
          clear hown' hgrow
          go_roundw
          case rel => exact ⟨j + 1, _, by omega, by go_num, HS2, by simp; omega, hown1, hB1⟩
          case measure => simp [intOf]; omega
        · have hd : (x != 0) = true := by rw [bne_iff_ne]; exact hx0
          have HS2 : Hid (M ++ [1] = b01L l (j + 1)) := Lib.hid (by rw [HS.out, if_pos hx0])
          go_wp2_with (at_builtin; refine wpList_append_own _ rfl _ _ 22 rfl w.heap.size 3 i0 (.int .i64 0) 1 8 Try.underlying22 hi hz0 hz1 hz2 rfl (by decide) _ _ _ rfl (hown.alloc _) ⟨wr.heap.size, 0, none⟩ 1 1 [.int .i64 1] rfl rfl (cell_one_new _ _ _) (by simp [Value.oneCell']) (by unfold maxLen; omega) (by omega) (by have := hB.size; simp; omega) ?_; intro v' w1 hown' hgrow _; have hB1 := below_append hB hB.size hown hgrow)
          have hown1 := OwnI.snoc hown'
          clear hown' hgrow
          go_roundw
          case rel => exact ⟨j + 1, _, by omega, by go_num, HS2, by simp; omega, hown1, hB1⟩
          case measure => simp [intOf]; omega
      · obtain rfl : j = l.length := by omega
        obtain ⟨A3, c3, rfl, hcc, hsl3⟩ := hown.form
        rw [HM.out] at hsl3
        have C3 := Lib.hid (C2.out wr A3 c3 hsl3 (h'.step hB))
        go_wp2_with fail
        refine C3.out.mono ?_
        rintro e w2 ⟨A2, c2, rfl, hc2, h2, hBx⟩
        go_wp2
        go_ret2
        rw [HKEY.out] at h2 hc2
        exact ⟨A2, c2, by rw [HKEY.out]; rfl, hc2, h2, hB.trans (hBx.mono hB.size)⟩
  · have hd : (sgE l lens != 0) = true := by rw [bne_iff_ne]; exact he
    have C1 := Lib.hid C1
    have HE := Lib.hid he
    clear he
    go_enter Try.func22, Try.ntmps22
    go_wp2_with fail
    refine C1.out.mono ?_
    rintro e w1 ⟨rfl, hB⟩
    go_wp2
    go_ret2
    exact retL_err HE.out hB
end Go.Proofs.Ytgicfgpemcagcaa
