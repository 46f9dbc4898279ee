/- Walks of scan: Down. -/
import Derived.Test.YtecpanppnljkhaaGreatDoorEw
import Derived.Test.YtecpanppnljkhaaGreatDoorEt
namespace Go.Proofs.YtecpanppnljkhaaGreatDoor
set_option linter.unusedVariables false
set_option maxRecDepth 100000
open Go.RowKit Go.Shelf
/-- A slice cut up to a place, with no room behind it. -/
theorem slice_hm (A : Option Addr) (n c p : Nat) (hp : p ≤ n) (hc : n ≤ c) (W : World) :
    (Instr.sliceAt 22 (.slice A n c) none (some (.int .i64 (p : Int))) (some (.int .i64 (p : Int)))).run Tryz.prog W = .ok (.slice A p p) W := by
  obtain ⟨i0, hi, hz0, hz1, hz2⟩ := info_parts int_info
  have he : Tryz.prog.elem 22 = 3 := by kernel_rfl
  have hrun : (Instr.slice 22 (.slice A n c) none (some (.int .i64 (p : Int))) (some (.int .i64 (p : Int)))).run Tryz.prog W = .ok (sliced A 0 p p 1) W := by
    rw [run_slice_hm W 22 A n c (by rw [he]; exact Tryz.underlying22) .i64 .i64 (p : Int) (p : Int) (by omega) (by omega) (by omega), he]
    simp [sizeOf, typeInfo, hi, hz1, Result.andThen]
  refine (run_sliceAt_slice W 22 _ _ _ _ (by kernel_rfl)).trans (hrun.trans ?_)
  unfold sliced
  by_cases h0 : p = 0
  · subst h0; simp
  · rw [if_neg (by omega)]
    cases A with
    | none => simp
    | some a => simp [Addr.add]
theorem sl_take {w : World} {A : Option Addr} {zs : List Int} (h : Sl w A zs) (p : Nat) : Sl w A (zs.take p) := fun hl => by
  rw [List.length_take] at hl
  obtain ⟨b, o, e, hb, hc⟩ := h (by omega)
  refine ⟨b, o, e, hb, fun j hj => ?_⟩
  rw [List.length_take] at hj
  rw [nth_take zs p j (by omega)]
  exact hc j (by omega)
set_option maxHeartbeats 4000000 in
theorem down_ok (op : Int) (d many : Nat) (A : Option Addr) (c : Nat) (L : List (List Int)) (w : World) (hI : Inv w) (h : Sll w A L) (hcL : L.length ≤ c) (hs : AllShort L) (hne : neE op = 0) (h0 : L ≠ []) (hle : lsE [nthL L 0] = 0) (hd : IsD (nthL L 0).length d) (hlv : L = lvs (doN op) (padL (neN op) d (nthL L 0)) d) (hmany : many ≤ 2 ^ d) :
    Calls Tryz.prog 22 #[.int .i64 op, .slice A L.length c, .int .i64 (many : Int)] w fun e w' => ∃ A' c', e = .returned (.tuple #[.slice A' many c', .int .i64 0]) ∧ many ≤ c' ∧ Sl w' A' ((dnL (doN op) (neN op) L d).take many) ∧ Below w.heap.size w w' := by
  have C1 := operationOf_any op w hI
  rw [hne] at C1
  have C1 := Lib.hid C1
  have hA := padL_len (x := neN op) hd
  have hLl : L.length = d + 1 := by rw [hlv, lvs_len]
  have hn0 : nthL L 0 = padL (neN op) d (nthL L 0) := by
    have h1 : nthL L 0 = nthL (lvs (doN op) (padL (neN op) d (nthL L 0)) d) 0 := congrArg (fun M => nthL M 0) hlv
    exact h1.trans (lvs_nth _ _ _ _ (by omega))
  have hpow : 2 ^ d ≤ 1048576 := by
    have h1 := hd.2.2
    have : 2 ^ d ≤ 2 ^ 20 := Nat.pow_le_pow_right (by omega) h1
    omega
  have hl0 : (nthL L 0).length = 2 ^ d := by rw [hn0]; exact hA
  have hlens : ∀ j, j ≤ d → (nthL L j).length = 2 ^ (d - j) := fun j hj => by
    rw [hlv, lvs_nth _ _ _ _ (by omega)]; exact lv_length _ hA j hj
  have hAre : AreLv (doN op) (neN op) L := ⟨d, h0, hle, hd, hlv⟩
  have C2 := fun g c W (hg : Blk W g 3 #[.int .i64 op]) (hS : Sll W A L) => areLevels_any op (neN op) g A c L W hg hS (by rw [hLl]; have := hd.2.2; omega) hs
  have C3 := fun g W (hg : Blk W g 3 #[.int .i64 op]) (hS : Sll W A L) => down_any op (neN op) g d A c L W hg hS hLl (by omega) hd.2.2 hlens
  have hDl := dnL_len (doN op) (neN op) L d
  obtain ⟨b, off, rfl, hb, hcs⟩ := h (by omega)
  obtain ⟨A0, c0, q0, hc0, _⟩ := hcs 0 (by omega)
  have q0 : w.cell? ⟨b, off, none⟩ = some (.slice A0 (nthL L 0).length c0) := by rw [← q0]; rfl
  rw [hl0] at q0
  have HAre := Lib.hid hAre
  have H := Lib.hid h
  rw [hLl] at C2 ⊢
  have hd20 := hd.2.2
  obtain ⟨d1, hd1⟩ : ∃ d1, d + 1 = d1 := ⟨_, rfl⟩
  obtain ⟨N, hN⟩ : ∃ N, 2 ^ d = N := ⟨_, rfl⟩
  rw [hd1] at C2 C3 ⊢
  rw [hN] at q0 hmany hpow hDl
  obtain ⟨D, hD⟩ : ∃ D, dnL (doN op) (neN op) L d = D := ⟨_, rfl⟩
  rw [hD] at C3 hDl ⊢
  have m1 : ¬ ((many : Int) < 0) := by omega
  have m2 : (many : Int) ≤ (N : Int) := by omega
  have m3 : (0 : Int) < (d1 : Int) := by omega
  have HDl := Lib.hid hDl
  have C2 := Lib.hid C2
  have C3 := Lib.hid C3
  clear hAre hlv hn0 hl0 hlens hA hd hle h0 hLl hd1 hN hD hDl hs h hcs
  go_enter Tryz.func22, Tryz.ntmps22
  go_wp2_with fail
  refine C1.out.mono ?_
  rintro e w1 ⟨n, f, rfl, hB, hg, hz⟩
  obtain ⟨rfl, g, rfl, hgl, hgb⟩ := hg rfl
  clear hz
  have hB2 := hB.alloc hB.size (.cells #[.int .i64 (neN op), .func (.func 87) #[] #[.pointer (some ⟨g, 0, none⟩)]] 58)
  have hgb2 := hgb.alloc (.cells #[.int .i64 (neN op), .func (.func 87) #[] #[.pointer (some ⟨g, 0, none⟩)]] 58)
  have b6 := Blk.new w1 58 #[.int .i64 (neN op), .func (.func 87) #[] #[.pointer (some ⟨g, 0, none⟩)]]
  have k60 := b6.cell 0
  have k61 := b6.cell 1
  simp at k60 k61
  have C2' := Lib.hid (C2.out g c _ hgb2 (H.out.below hB2))
  go_wp2_with fail
  refine C2'.out.mono ?_
  rintro e w2 ⟨bb, rfl, hbb, hBc⟩
  obtain rfl : bb = true := hbb.2 HAre.out
  clear hbb
  have hB3 := hB2.trans (hBc.mono hB2.size)
  have b7 := b6.below hBc b6.lt
  have k70 := b7.cell 0
  have k71 := b7.cell 1
  simp at k70 k71
  have q3 := (hB3.cell (p := ⟨b, off, none⟩) hb).trans q0
  have hgb3 := hgb2.below hBc hgb2.lt
  have C3' := Lib.hid (C3.out g w2 hgb3 (H.out.below hB3))
  go_wp2_with fail
  refine C3'.out.mono ?_
  rintro e w3 ⟨A3, c3, rfl, hc3, hs3, hBd⟩
  have hB4 := hB3.trans (hBd.mono hB3.size)
  rw [HDl.out] at hc3 ⊢
  have hrun := fun W => slice_hm A3 N c3 many hmany hc3 W
  go_wp2
  go_ret2
  exact ⟨A3, many, rfl, Nat.le_refl _, sl_take hs3 many, hB4⟩
end Go.Proofs.YtecpanppnljkhaaGreatDoor
