/- Walks and mathematics of rank, part 14. -/
import Derived.Test.YtgicfgpemcagcaaG13
import Derived.Test.YtgicfgpemcagcaaG05
/- Walks of rank: Compose, the program's and the specification's. -/
namespace Go.Proofs.Ytgicfgpemcagcaa
set_option linter.unusedVariables false
set_option maxRecDepth 100000
open Go.RowKit Go.Shelf
theorem coE_1 {p q : List Int} (h : chE p ≠ 0) : coE p q = chE p := by unfold coE; rw [if_neg h]
theorem coE_2 {p q : List Int} (h : chE p = 0) (h2 : chE q ≠ 0) : coE p q = chE q := by unfold coE; rw [if_pos h, if_neg h2]
theorem coE_3 {p q : List Int} (h : chE p = 0) (h2 : chE q = 0) (h3 : ¬ p.length = q.length) : coE p q = 6 := by unfold coE; rw [if_pos h, if_pos h2, if_neg h3]
theorem coE_0 {p q : List Int} (h : chE p = 0) (h2 : chE q = 0) (h3 : p.length = q.length) : coE p q = 0 := by unfold coE; rw [if_pos h, if_pos h2, if_pos h3]
/-- A made list of which the first k are set. -/
def preK (f : Nat → Int) (n k : Nat) : List Int := mk (fun j => if j < k then f j else 0) n
theorem preK_len (f : Nat → Int) (n k : Nat) : (preK f n k).length = n := mk_length _ _
theorem preK_zero (f : Nat → Int) (n : Nat) : preK f n 0 = List.replicate n 0 := by
  unfold preK mk
  apply List.ext_getElem
  · simp
  · intro i h1 h2; simp
theorem preK_set (f : Nat → Int) (n k : Nat) : (preK f n k).set k (f k) = preK f n (k + 1) := by
  unfold preK mk
  apply List.ext_getElem
  · simp
  · intro i h1 h2
    simp only [List.getElem_set, List.getElem_map, List.getElem_range]
    by_cases e : k = i
    · subst e; simp
    · rw [if_neg e]
      by_cases h : i < k
      · rw [if_pos h, if_pos (by omega)]
      · rw [if_neg h, if_neg (by omega)]
theorem preK_all (f : Nat → Int) (n : Nat) : preK f n n = mk f n := by
  unfold preK mk
  apply List.map_congr_left
  intro j hj
  rw [if_pos (List.mem_range.1 hj)]
set_option maxRecDepth 100000 in
set_option maxHeartbeats 4000000 in
theorem rCompose_any (A A' : Option Addr) (c c' : Nat) (p q : List Int) (w : World) (h : Sl w A p) (h' : Sl w A' q) (kp : Ok p) (kq : Ok q) :
    Calls Try.prog 16 #[.slice A p.length c, .slice A' q.length c'] w (RetL w (orL (coE p q) (coL p q)) (coE p q)) := by
  have C1 := rchk_any A c p w h kp
  by_cases he : chE p = 0
  case neg =>
    have hd : (chE p != 0) = true := by rw [bne_iff_ne]; exact he
    rw [coE_1 he]
    have C1 := Lib.hid C1
    have HE := Lib.hid he
    clear he
    go_enter Try.func16, Try.ntmps16
    go_wp2_with fail
    refine C1.out.mono ?_
    rintro e w1 ⟨rfl, hB⟩
    go_wp2
    go_ret2
    exact retL_none HE.out hB
  rw [he] at C1
  have C2 := fun W hW => rchk_any A' c' q W hW kq
  by_cases he2 : chE q = 0
  case neg =>
    have hd : (chE q != 0) = true := by rw [bne_iff_ne]; exact he2
    rw [coE_2 he he2]
    have C1 := Lib.hid C1
    have C2 := Lib.hid C2
    have HE := Lib.hid he2
    clear he he2
    go_enter Try.func16, Try.ntmps16
    go_wp2_with fail
    refine C1.out.mono ?_
    rintro e w1 ⟨rfl, hB⟩
    go_wp2_with fail
    refine (C2.out _ (h'.step hB)).mono ?_
    rintro e w2 ⟨rfl, hBx⟩
    replace hB := hB.trans (hBx.mono hB.size)
    go_wp2
    go_ret2
    exact retL_none HE.out hB
  rw [he2] at C2
  by_cases hn : p.length = q.length
  case neg =>
    have hd : ((p.length : Int) != (q.length : Int)) = true := by rw [bne_iff_ne]; omega
    rw [coE_3 he he2 hn]
    have C1 := Lib.hid C1
    have C2 := Lib.hid C2
    clear he he2 hn
    go_enter Try.func16, Try.ntmps16
    go_wp2_with fail
    refine C1.out.mono ?_
    rintro e w1 ⟨rfl, hB⟩
    go_wp2_with fail
    refine (C2.out _ (h'.step hB)).mono ?_
    rintro e w2 ⟨rfl, hBx⟩
    replace hB := hB.trans (hBx.mono hB.size)
    go_wp2
    go_ret2
    exact retL_none (by decide) hB
  obtain ⟨hl, ho⟩ := chE_ok he
  have hlq : q.length ≤ 1048576 := by omega
  have hp : ∀ k, k < p.length → 0 ≤ nth p k ∧ nth p k < q.length := fun k hk => by rw [← hn]; exact ordB_at ho k hk
  have hd : ((p.length : Int) != (q.length : Int)) = false := by rw [bne_eq_false_iff_eq]; omega
  rw [coE_0 he he2 hn, orL_ok]
  have C1 := Lib.hid C1
  have C2 := Lib.hid C2
  have HNQ := Lib.hid hn
  clear he he2 ho hn
  have C3 := Lib.hid (fun W hW hW' => rthen_any A A' c c' p q W hW hW' hl hlq hp)
  clear hp
  go_enter Try.func16, Try.ntmps16
  go_wp2_with fail
  refine C1.out.mono ?_
  rintro e w1 ⟨rfl, hB⟩
  go_wp2_with fail
  refine (C2.out _ (h'.step hB)).mono ?_
  rintro e w2 ⟨rfl, hBx⟩
  replace hB := hB.trans (hBx.mono hB.size)
  clear hBx
  go_wp2_with fail
  refine (C3.out _ (h.step hB) (h'.step hB)).mono ?_
  rintro e w3 ⟨A3, c3, rfl, hc3, h3, hBx⟩
  go_wp2
  go_ret2
  exact ⟨A3, c3, rfl, hc3, h3, hB.trans (hBx.mono hB.size)⟩
set_option maxRecDepth 100000 in
set_option maxHeartbeats 4000000 in
theorem Compose_any (A A' : Option Addr) (c c' : Nat) (p q : List Int) (w : World) (h : Sl w A p) (h' : Sl w A' q) (kp : Ok p) (kq : Ok q) :
    Calls Try.prog 15 #[.slice A p.length c, .slice A' q.length c'] w (RetL w (orL (coE p q) (coL p q)) (coE p q)) := by
  have C1 := chk_any A c p w h kp
  by_cases he : chE p = 0
  case neg =>
    have hd : (chE p != 0) = true := by rw [bne_iff_ne]; exact he
    rw [coE_1 he]
    have C1 := Lib.hid C1
    have HE := Lib.hid he
    clear he
    go_enter Try.func15, Try.ntmps15
    go_wp2_with fail
    refine C1.out.mono ?_
    rintro e w1 ⟨rfl, hB⟩
    go_wp2
    go_ret2
    exact retL_none HE.out hB
  rw [he] at C1
  have C2 := fun W hW => chk_any A' c' q W hW kq
  by_cases he2 : chE q = 0
  case neg =>
    have hd : (chE q != 0) = true := by rw [bne_iff_ne]; exact he2
    rw [coE_2 he he2]
    have C1 := Lib.hid C1
    have C2 := Lib.hid C2
    have HE := Lib.hid he2
    clear he he2
    go_enter Try.func15, Try.ntmps15
    go_wp2_with fail
    refine C1.out.mono ?_
    rintro e w1 ⟨rfl, hB⟩
    go_wp2_with fail
    refine (C2.out _ (h'.step hB)).mono ?_
    rintro e w2 ⟨rfl, hBx⟩
    replace hB := hB.trans (hBx.mono hB.size)
    go_wp2
    go_ret2
    exact retL_none HE.out hB
  rw [he2] at C2
  by_cases hn : p.length = q.length
  case neg =>
    have hd : ((p.length : Int) != (q.length : Int)) = true := by rw [bne_iff_ne]; omega
    rw [coE_3 he he2 hn]
    have C1 := Lib.hid C1
    have C2 := Lib.hid C2
    clear he he2 hn
    go_enter Try.func15, Try.ntmps15
    go_wp2_with fail
    refine C1.out.mono ?_
    rintro e w1 ⟨rfl, hB⟩
    go_wp2_with fail
    refine (C2.out _ (h'.step hB)).mono ?_
    rintro e w2 ⟨rfl, hBx⟩
    replace hB := hB.trans (hBx.mono hB.size)
    go_wp2
    go_ret2
    exact retL_none (by decide) hB
  obtain ⟨hl, ho⟩ := chE_ok he
  have hlq : q.length ≤ 1048576 := by omega
  have hp : ∀ k, k < p.length → 0 ≤ nth p k ∧ nth p k < q.length := fun k hk => by rw [← hn]; exact ordB_at ho k hk
  have hd : ((p.length : Int) != (q.length : Int)) = false := by rw [bne_eq_false_iff_eq]; omega
  rw [coE_0 he he2 hn, orL_ok]
  have C1 := Lib.hid C1
  have C2 := Lib.hid C2
  have HNQ := Lib.hid hn
  clear he he2 ho hn
  obtain ⟨i0, hi, hz0, hz1, hz2⟩ := info_parts int_info
  have hmk := fun W => run_make_row (P := Try.prog) 22 3 i0 (.int .i64 0) Try.underlying22 hi hz0 hz1 rfl .i64 .i64 p.length (by rw [hz2]; omega) (by omega) W
  have HP := Lib.hid hp
  clear hp
  go_enter Try.func15, Try.ntmps15
  go_wp2_with fail
  refine C1.out.mono ?_
  rintro e w1 ⟨rfl, hB⟩
  go_wp2_with fail
  refine (C2.out _ (h'.step hB)).mono ?_
  rintro e w2 ⟨rfl, hBx⟩
  replace hB := hB.trans (hBx.mono hB.size)
  clear hBx C1 C2
  have hs2 := hB.size
  have fR := Full.made w2 p.length (by unfold maxLen; omega)
  have hB1 := hB.alloc hB.size (.cells (madeCells #[.int .i64 0] p.length) 3)
  go_wp2
  go_loopw [31] (fun i wr => ∃ k : Nat, k ≤ p.length ∧ i = .int .i64 k ∧ Full wr w2.heap.size (preK (fun k => nth q (nth p k).toNat) p.length k) ∧ Below w.heap.size w wr) (fun i _ => p.length - (intOf i).toNat)
  case atStart => exact ⟨0, Nat.zero_le _, rfl, by rw [preK_zero]; exact fR, hB1⟩
  case round =>
    clear fR hB1 hmk hB
    obtain ⟨k, hk, rfl, fR, hBr⟩ := hrel
    by_cases hlt : k < p.length
    · obtain ⟨bp, op, rfl, hbp, hcp⟩ := (h.step hBr).at_ hlt
      have k3 : (0 : Int) ≤ (k : Int) := by omega
      have k4 : (k : Int) < (p.length : Int) := by omega
      obtain ⟨q0, q1⟩ := HP.out k hlt
      have HK := Lib.hid (preK_set (fun k => nth q (nth p k).toNat) p.length k)
      have HL := Lib.hid (preK_len (fun k => nth q (nth p k).toNat) p.length k)
      obtain ⟨j, hj⟩ : ∃ j : Nat, nth p k = (j : Int) := ⟨(nth p k).toNat, by omega⟩
      have HJ := Lib.hid hj
      rw [hj] at hcp q1
      clear hj q0
      have hj : j < q.length := by omega
      have k6 : (0 : Int) ≤ (j : Int) := by omega
      obtain ⟨bq, oq, rfl, hbq, hcq⟩ := (h'.step hBr).at_ hj
      obtain ⟨x, hx⟩ : ∃ x, nth q j = x := ⟨_, rfl⟩
      have HX := Lib.hid hx
      rw [hx] at hcq
      clear hx
      have dR := fR.cell k (by rw [HL.out]; exact hlt)
      have fr := fR.frozen k
      go_wp2
      go_roundw
      case rel => exact ⟨k + 1, by omega, by go_num, (by rw [← HK.out, HJ.out, Int.toNat_natCast, HX.out]; exact fR.set_ k x), hBr.setCell (p := ⟨w2.heap.size, k, none⟩) hs2 _⟩
      case measure => simp [intOf]; omega
    · obtain rfl : k = p.length := by omega
      have HE := Lib.hid (preK_all (fun k => nth q (nth p k).toNat) p.length)
      have hcl : Hid ((coL p q).length = p.length) := Lib.hid (mk_length _ _)
      go_wp2
      go_ret2
      exact ⟨some ⟨w2.heap.size, 0, none⟩, p.length, by rw [hcl.out]; rfl, by rw [hcl.out]; exact Nat.le_refl _, (by unfold coL; rw [← HE.out]; exact fR.sl), hBr⟩
end Go.Proofs.Ytgicfgpemcagcaa
/- Walks of rank: check. -/
namespace Go.Proofs.Ytgicfgpemcagcaa
set_option linter.unusedVariables false
set_option maxRecDepth 100000
open Go.RowKit Go.Shelf
theorem all_nthL {f : List Int → Bool} {L : List (List Int)} (h : ∀ j, j < L.length → f (nthL L j) = true) : L.all f = true := List.all_eq_true.2 fun l hl => by
  obtain ⟨j, hj, rfl⟩ := List.getElem_of_mem hl
  rw [← nthL_eq L j hj]; exact h j hj
theorem nthL_all {f : List Int → Bool} {L : List (List Int)} (h : L.all f = true) (j : Nat) (hj : j < L.length) : f (nthL L j) = true := List.all_eq_true.1 h _ (nthL_mem L j hj)
theorem wordsB_nth {l : List Int} (h : ∀ t, t < l.length → isWb (nth l t) = true) : wordsB l = true := List.all_eq_true.2 fun x hx => by
  obtain ⟨j, hj, rfl⟩ := List.getElem_of_mem hx
  rw [← nth_eq l j hj]; exact h j hj
theorem lsE_3 {L : List (List Int)} {k : Nat} (hk : k < L.length) (h : ¬ (nthL L k).length ≤ 1048576) : lsE L = 3 := by
  unfold lsE
  rw [if_neg]
  intro hall
  have := nthL_all hall k hk
  unfold shortB at this
  exact h (by simpa using this)
theorem lsE_2 {L : List (List Int)} (hs : ∀ j, j < L.length → shortB (nthL L j) = true) {k t : Nat} (hk : k < L.length) (ht : t < (nthL L k).length) (h : isWb (nth (nthL L k) t) = false) : lsE L = 2 := by
  unfold lsE
  rw [if_pos (all_nthL hs), if_neg]
  intro hall
  have h1 := nthL_all hall k hk
  unfold wordsB at h1
  have := List.all_eq_true.1 h1 (nth (nthL L k) t) (by rw [nth_eq _ t ht]; exact List.getElem_mem ht)
  rw [h] at this
  exact absurd this (by decide)
theorem lsE_0 {L : List (List Int)} (hs : ∀ j, j < L.length → shortB (nthL L j) = true) (hw : ∀ j, j < L.length → wordsB (nthL L j) = true) : lsE L = 0 := by
  unfold lsE
  rw [if_pos (all_nthL hs), if_pos (all_nthL hw)]
set_option maxRecDepth 100000 in
set_option maxHeartbeats 4000000 in
theorem rkcheck_any (A : Option Addr) (c : Nat) (L : List (List Int)) (w : World) (h : Sll w A L) (hl : L.length ≤ 1000) :
    Calls Try.prog 58 #[.slice A L.length c] w (RetV w (.int .i64 (lsE L))) := by
  have H3 := Lib.hid (fun k hk hs => lsE_3 (L := L) (k := k) hk hs)
  have H2 := Lib.hid (fun hs k t hk ht hi => lsE_2 (L := L) hs (k := k) (t := t) hk ht hi)
  have H0 := Lib.hid (fun hs hw => lsE_0 (L := L) hs hw)
  obtain ⟨E, hE⟩ : ∃ E, lsE L = E := ⟨_, rfl⟩
  simp only [hE] at H3 H2 H0
  rw [hE]
  clear hE
  go_enter Try.func58, Try.ntmps58
  go_wp2
  go_loopw [11] (fun i wr => ∃ k : Nat, k ≤ L.length ∧ i = .int .i64 k ∧ Hid (∀ j, j < k → shortB (nthL L j) = true) ∧ Below w.heap.size w wr) (fun i _ => L.length - (intOf i).toNat)
  case atStart => exact ⟨0, Nat.zero_le _, rfl, Lib.hid (fun j hj => absurd hj (by omega)), Below.refl _ _⟩
  case round =>
    obtain ⟨k, hk, rfl, HA, hBr⟩ := hrel
    by_cases hlt : k < L.length
    · obtain ⟨b, o, rfl, hb, hc⟩ := h (by omega)
      obtain ⟨A1, c1, hcell, hcl, h1⟩ := hc k hlt
      have hq := (hBr.cell (p := ⟨b, o + k, none⟩) hb).trans hcell
      have k3 : (0 : Int) ≤ (k : Int) := by omega
      have k4 : (k : Int) < (L.length : Int) := by omega
      have HE := Lib.hid (H3.out k hlt)
      have HN : Hid (((nthL L k).length ≤ 1048576) → ∀ j, j < k + 1 → shortB (nthL L j) = true) := Lib.hid (fun hm j hj => by
        by_cases e : j = k
        · subst e; unfold shortB; simpa using hm
        · exact HA.out j (by omega))
      obtain ⟨m, hm⟩ : ∃ m, (nthL L k).length = m := ⟨_, rfl⟩
      rw [hm] at hq HE HN
      clear hm hcell hcl h1 hc
      by_cases hb : m ≤ 1048576
      · have hb' : ¬ ((1048576 : Int) < (m : Int)) := by omega
        go_wp2
        go_roundw
        case rel => exact ⟨k + 1, by omega, by go_num, Lib.hid (HN.out hb), hBr⟩
        case measure => simp [intOf]; omega
      · have hb' : (1048576 : Int) < (m : Int) := by omega
        have HE' := Lib.hid (HE.out hb)
        go_wp2
        go_ret
        exact ⟨by rw [HE'.out]; rfl, hBr⟩
    · obtain rfl : k = L.length := by omega
      clear H3
      rename World => wo
      go_wp2
      go_loopw [21] (fun i wr => ∃ k : Nat, k ≤ L.length ∧ i = .int .i64 k ∧ Hid (∀ j, j < k → wordsB (nthL L j) = true) ∧ Below w.heap.size w wr) (fun i _ => L.length - (intOf i).toNat)
      case atStart => exact ⟨0, Nat.zero_le _, rfl, Lib.hid (fun j hj => absurd hj (by omega)), hBr⟩
      case round =>
        clear hBr
        obtain ⟨k, hk, rfl, HB, hBr⟩ := hrel
        by_cases hlt : k < L.length
        · obtain ⟨b, o, rfl, hb, hc⟩ := h (by omega)
          obtain ⟨A1, c1, hcell, hcl, h1⟩ := hc k hlt
          have hq := (hBr.cell (p := ⟨b, o + k, none⟩) hb).trans hcell
          have k3 : (0 : Int) ≤ (k : Int) := by omega
          have k4 : (k : Int) < (L.length : Int) := by omega
          have HE := Lib.hid (fun t ht hi => H2.out HA.out k t hlt ht hi)
          have HN : Hid ((wordsB (nthL L k) = true) → ∀ j, j < k + 1 → wordsB (nthL L j) = true) := Lib.hid (fun hm j hj => by
            by_cases e : j = k
            · subst e; exact hm
            · exact HB.out j (by omega))
          obtain ⟨l, hm⟩ : ∃ l, nthL L k = l := ⟨_, rfl⟩
          have hsm : l.length ≤ 1048576 := by rw [← hm]; have := HA.out k hlt; unfold shortB at this; simpa using this
          rw [hm] at hq HE HN h1
          clear hm hcell hcl hc
          rename World => wo2
          go_wp2
          go_loopw [27] (fun i wr => ∃ t : Nat, t ≤ l.length ∧ i = .int .i64 t ∧ Hid (∀ j, j < t → isWb (nth l j) = true) ∧ Below w.heap.size w wr) (fun i _ => l.length - (intOf i).toNat)
          case atStart => exact ⟨0, Nat.zero_le _, rfl, Lib.hid (fun j hj => absurd hj (by omega)), hBr⟩
          case round =>
            clear hBr
            obtain ⟨t, ht, rfl, HT, hBr⟩ := hrel
            by_cases hlt2 : t < l.length
            · obtain ⟨b1, o1, rfl, hb1, hc1⟩ := (h1.step hBr).at_ hlt2
              have t3 : (0 : Int) ≤ (t : Int) := by omega
              have t4 : (t : Int) < (l.length : Int) := by omega
              have HE2 := Lib.hid (HE.out t hlt2)
              have HN2 : Hid ((isWb (nth l t) = true) → ∀ j, j < t + 1 → isWb (nth l j) = true) := Lib.hid (fun hm j hj => by
                by_cases e : j = t
                · subst e; exact hm
                · exact HT.out j (by omega))
              obtain ⟨x, hx⟩ : ∃ x, nth l t = x := ⟨_, rfl⟩
              rw [hx] at hc1 HE2 HN2
              clear hx
              have C := is_any x wr
              cases hi : isWb x with
              | true =>
                rw [hi] at C
                have C := Lib.hid C
                have HN3 := Lib.hid (HN2.out hi)
                clear hi
                go_wp2_with fail
                refine C.out.mono ?_
                rintro e w' ⟨rfl, rfl⟩
                go_wp2
                go_roundw
                case rel => exact ⟨t + 1, by omega, by go_num, HN3, hBr⟩
                case measure => simp [intOf]; omega
              | false =>
                rw [hi] at C
                have C := Lib.hid C
                have HE3 := Lib.hid (HE2.out hi)
                clear hi
                go_wp2_with fail
                refine C.out.mono ?_
                rintro e w' ⟨rfl, rfl⟩
                go_wp2
                go_ret
                exact ⟨by rw [HE3.out]; rfl, hBr⟩
            · obtain rfl : t = l.length := by omega
              have HN4 := Lib.hid (HN.out (wordsB_nth HT.out))
              go_wp2
              go_roundw
              case rel => exact ⟨k + 1, by omega, by go_num, HN4, hBr⟩
              case measure => simp [intOf]; omega
        · obtain rfl : k = L.length := by omega
          have HE := Lib.hid (H0.out HA.out HB.out)
          go_wp2
          go_ret
          exact ⟨by rw [HE.out]; rfl, hBr⟩
end Go.Proofs.Ytgicfgpemcagcaa
/- Walks of rank: word.Key of a word, hasBit. -/
namespace Go.Proofs.Ytgicfgpemcagcaa
set_option linter.unusedVariables false
set_option maxRecDepth 100000
open Go.RowKit Go.Shelf
theorem key_t (n : Int) (w : World) (h : isW n) : Calls Try.prog 72 #[.int .i64 n] w fun e w' => e = .returned (.tuple #[.int .i64 (n + 2147483648), .int .i64 0]) ∧ w = w' := by
  have C := Lib.hid (is_t n w (isWb_of n h))
  unfold isW at h
  go_enter Try.func72, Try.ntmps72
  go_wp2_with fail
  refine C.out.mono ?_
  rintro e w' ⟨rfl, rfl⟩
  go_wp2
  go_ret2
  exact ⟨rfl, rfl⟩
/-- Whether the bit k of a word's key is set. -/
def bitB (n : Int) (k : Nat) : Bool := decide ((n + 2147483648) / 2 ^ k % 2 = 1)
theorem hasBit_any (n : Int) (k : Nat) (w : World) (h : isW n) (hk : k < 32) : Calls Try.prog 56 #[.int .i64 n, .int .i64 (k : Int)] w fun e w' => e = .returned (.bool (bitB n k)) ∧ w = w' := by
  have C := Lib.hid (key_t n w h)
  have HW := Lib.hid h
  obtain ⟨m, hm⟩ : ∃ m : Nat, n + 2147483648 = (m : Int) := ⟨(n + 2147483648).toNat, by unfold isW at h; omega⟩
  have hm4 : m < 4294967296 := by unfold isW at h; omega
  have HB : Hid (bitB n k = decide (((m / 2 ^ k : Nat) : Int) % 2 = 1)) := Lib.hid (by unfold bitB; rw [hm]; norm_cast)
  rw [hm] at C
  clear h hm
  go_enter Try.func56, Try.ntmps56
  go_wp2_with fail
  refine C.out.mono ?_
  rintro e w' ⟨rfl, rfl⟩
  go_wp2
  have hq : ((m : Int) / 2 ^ k) = ((m / 2 ^ k : Nat) : Int) := by push_cast; rfl
  have hr : (((m : Int) / 2 ^ k).tmod 2 == 1) = bitB n k := by
    rw [HB.out, hq, Int.tmod_eq_emod_of_nonneg (Int.natCast_nonneg _), Bool.eq_iff_iff]
    simp
  go_ret
  exact ⟨ret_bool hr, rfl⟩
end Go.Proofs.Ytgicfgpemcagcaa
