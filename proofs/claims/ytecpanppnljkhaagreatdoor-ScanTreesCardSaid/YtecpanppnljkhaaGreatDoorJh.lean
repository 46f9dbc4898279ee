/- Walks of scan: Down where something fails. -/
import Derived.Test.YtecpanppnljkhaaGreatDoorEx
namespace Go.Proofs.YtecpanppnljkhaaGreatDoor
set_option linter.unusedVariables false
set_option maxRecDepth 100000
open Go.RowKit Go.Shelf
set_option maxHeartbeats 4000000 in
theorem down_err1 (op : Int) (m : Int) (u : Value) (w : World) (hI : Inv w) (hne : neE op ≠ 0) :
    Calls Tryz.prog 22 #[.int .i64 op, u, .int .i64 m] w fun e w' => e = .returned (.tuple #[.slice none 0 0, .int .i64 (neE op)]) ∧ Below w.heap.size w w' := by
  have C1 := operationOf_any op w hI
  have hd : (neE op != 0) = true := by rw [bne_iff_ne]; exact hne
  have HE := Lib.hid hne
  obtain ⟨y, hy⟩ : ∃ y, neE op = y := ⟨_, rfl⟩
  rw [hy] at C1 hd HE ⊢
  have C1 := Lib.hid C1
  clear hne hy
  go_enter Tryz.func22, Tryz.ntmps22
  go_wp2_with fail
  refine C1.out.mono ?_
  rintro e w1 ⟨n, f, rfl, hB, hg, hz⟩
  obtain ⟨rfl, rfl⟩ := hz HE.out
  clear hg hz
  have hB2 := hB.alloc hB.size (.cells #[.int .i64 0, .nilFunc] 58)
  go_wp2
  go_ret2
  exact ⟨rfl, hB2⟩
set_option maxHeartbeats 4000000 in
theorem down_err2 (op m : Int) (A : Option Addr) (c : Nat) (L : List (List Int)) (w : World) (hI : Inv w) (h : Sll w A L) (hn : L.length ≤ 9223372036854775807) (hs : AllShort L) (hne : neE op = 0) (hA : ¬ AreLv (doN op) (neN op) L) :
    Calls Tryz.prog 22 #[.int .i64 op, .slice A L.length c, .int .i64 m] w fun e w' => e = .returned (.tuple #[.slice none 0 0, .int .i64 8]) ∧ Below w.heap.size w w' := by
  have C1 := operationOf_any op w hI
  rw [hne] at C1
  have C1 := Lib.hid C1
  have HAre := Lib.hid hA
  have H := Lib.hid h
  have C2 := Lib.hid (fun g W (hg : Blk W g 3 #[.int .i64 op]) (hS : Sll W A L) => areLevels_any op (neN op) g A c L W hg hS hn hs)
  clear hA h hne
  go_enter Tryz.func22, Tryz.ntmps22
  go_wp2_with fail
  refine C1.out.mono ?_
  rintro e w1 ⟨n, f, rfl, hB, hg, hz⟩
  obtain ⟨rfl, g, rfl, hgl, hgb⟩ := hg rfl
  clear hz
  have hB2 := hB.alloc hB.size (.cells #[.int .i64 (neN op), .func (.func 87) #[] #[.pointer (some ⟨g, 0, none⟩)]] 58)
  have hgb2 := hgb.alloc (.cells #[.int .i64 (neN op), .func (.func 87) #[] #[.pointer (some ⟨g, 0, none⟩)]] 58)
  have b6 := Blk.new w1 58 #[.int .i64 (neN op), .func (.func 87) #[] #[.pointer (some ⟨g, 0, none⟩)]]
  have k60 := b6.cell 0
  have k61 := b6.cell 1
  simp at k60 k61
  have C2' := Lib.hid (C2.out g _ hgb2 (H.out.below hB2))
  go_wp2_with fail
  refine C2'.out.mono ?_
  rintro e w2 ⟨bb, rfl, hbb, hBc⟩
  obtain rfl : bb = false := by
    cases bb with
    | false => rfl
    | true => exact absurd (hbb.1 rfl) HAre.out
  clear hbb
  have hB3 := hB2.trans (hBc.mono hB2.size)
  go_wp2
  go_ret2
  exact ⟨rfl, hB3⟩
set_option maxHeartbeats 4000000 in
theorem down_err3 (op m : Int) (d : Nat) (A : Option Addr) (c : Nat) (L : List (List Int)) (w : World) (hI : Inv w) (h : Sll w A L) (hn : L.length ≤ 9223372036854775807) (hs : AllShort L) (hne : neE op = 0) (h0 : L ≠ []) (hA : AreLv (doN op) (neN op) L) (hm : m < 0 ∨ ((nthL L 0).length : Int) < m) :
    Calls Tryz.prog 22 #[.int .i64 op, .slice A L.length c, .int .i64 m] w fun e w' => e = .returned (.tuple #[.slice none 0 0, .int .i64 2]) ∧ Below w.heap.size w w' := by
  have C1 := operationOf_any op w hI
  rw [hne] at C1
  have C1 := Lib.hid C1
  have HAre := Lib.hid hA
  have H := Lib.hid h
  have C2 := Lib.hid (fun g W (hg : Blk W g 3 #[.int .i64 op]) (hS : Sll W A L) => areLevels_any op (neN op) g A c L W hg hS hn hs)
  have hl0 : 0 < L.length := List.length_pos_iff.2 h0
  obtain ⟨b, off, rfl, hb, hcs⟩ := h hl0
  obtain ⟨A0, c0, q0, hc0, _⟩ := hcs 0 hl0
  have q0 : w.cell? ⟨b, off, none⟩ = some (.slice A0 (nthL L 0).length c0) := by rw [← q0]; rfl
  obtain ⟨N, hN⟩ : ∃ N, (nthL L 0).length = N := ⟨_, rfl⟩
  rw [hN] at q0 hm
  have m3 : (0 : Int) < (L.length : Int) := by omega
  clear hA hne hcs hN h0 h
  go_enter Tryz.func22, Tryz.ntmps22
  go_wp2_with fail
  refine C1.out.mono ?_
  rintro e w1 ⟨n, f, rfl, hB, hg, hz⟩
  obtain ⟨rfl, g, rfl, hgl, hgb⟩ := hg rfl
  clear hz
  have hB2 := hB.alloc hB.size (.cells #[.int .i64 (neN op), .func (.func 87) #[] #[.pointer (some ⟨g, 0, none⟩)]] 58)
  have hgb2 := hgb.alloc (.cells #[.int .i64 (neN op), .func (.func 87) #[] #[.pointer (some ⟨g, 0, none⟩)]] 58)
  have b6 := Blk.new w1 58 #[.int .i64 (neN op), .func (.func 87) #[] #[.pointer (some ⟨g, 0, none⟩)]]
  have k60 := b6.cell 0
  have k61 := b6.cell 1
  simp at k60 k61
  have C2' := Lib.hid (C2.out g _ hgb2 (H.out.below hB2))
  go_wp2_with fail
  refine C2'.out.mono ?_
  rintro e w2 ⟨bb, rfl, hbb, hBc⟩
  obtain rfl : bb = true := hbb.2 HAre.out
  clear hbb
  have hB3 := hB2.trans (hBc.mono hB2.size)
  have q3 := (hB3.cell (p := ⟨b, off, none⟩) hb).trans q0
  by_cases hneg : m < 0
  · have hd1 : decide (m < 0) = true := decide_eq_true hneg
    clear hneg hm
    go_wp2
    go_ret2
    exact ⟨rfl, hB3⟩
  · have hd1 : decide (m < 0) = false := decide_eq_false hneg
    have hbig : (N : Int) < m := by omega
    have hd2 : decide ((N : Int) < m) = true := decide_eq_true hbig
    clear hm hbig hneg
    go_wp2
    go_ret2
    exact ⟨rfl, hB3⟩
end Go.Proofs.YtecpanppnljkhaaGreatDoor
