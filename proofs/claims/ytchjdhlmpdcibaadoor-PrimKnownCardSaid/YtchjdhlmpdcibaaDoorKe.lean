/- PrimKnown: its walk. -/
import Derived.Test.YtchjdhlmpdcibaaDoorKb
namespace Go.Proofs.YtchjdhlmpdcibaaDoor
set_option linter.unusedVariables false
open Go.RowKit Go.Shelf
set_option maxRecDepth 100000 in
set_option maxHeartbeats 400000000 in
theorem known_walk (w : World) (hI : Inv w) : Calls Tryd.prog 12 #[] w (Good w) := by
  obtain ⟨O, Z, hZ, hmk0, hSZ⟩ := big_made 1048577 (by omega)
  have hmk : ∀ W : World, (Instr.makeSlice 22 (.int .i64 1048577) (.int .i64 1048577)).run Tryd.prog W = .ok (.slice (some ⟨W.heap.size, 0, none⟩) 1048577 1048577) (W.alloc O) := hmk0
  clear hmk0
  have hz := hSZ w
  have hBB : Below w.heap.size w w := Below.refl _ _
  have hBB := hBB.alloc hBB.size O
  clear hSZ
  go_enter Tryd.func12, Tryd.ntmps12
  go_wp2_with fail
  have hz := hz.al (.cells #[.int .i64 2147483648] 3)
  have hb : Sl (World.alloc (World.alloc w O) (.cells #[.int .i64 2147483648] 3)) (some ⟨w.heap.size + 1, 0, none⟩) [2147483648] := Sl.lit' (World.alloc w O) [2147483648] (w.heap.size + 1) #[.int .i64 2147483648] (by simp) rfl
  have hBB := hBB.alloc hBB.size (.cells #[.int .i64 2147483648] 3)
  refine (kz2 hZ _ _ _ (hI.below hBB) hz hb).mono ?_
  rintro e w1 ⟨Aq1, cq1, rfl, hB⟩
  have hz := hz.step hB
  have hb := hb.step hB
  have hBB := hBB.trans (hB.mono hBB.size)
  go_wp2_with fail
  refine (kn3 _ (hI.below hBB)).mono ?_
  rintro e w2 ⟨Aq2, cq2, rfl, hB⟩
  have hz := hz.step hB
  have hb := hb.step hB
  have hBB := hBB.trans (hB.mono hBB.size)
  go_wp2_with fail
  refine (kz4 hZ _ _ _ (hI.below hBB) hb hz).mono ?_
  rintro e w3 ⟨Aq3, cq3, rfl, hB⟩
  have hz := hz.step hB
  have hb := hb.step hB
  have hBB := hBB.trans (hB.mono hBB.size)
  go_wp2_with fail
  refine (kn5 _ _ (hI.below hBB) hb).mono ?_
  rintro e w4 ⟨Aq4, cq4, rfl, hB⟩
  have hz := hz.step hB
  have hb := hb.step hB
  have hBB := hBB.trans (hB.mono hBB.size)
  go_wp2_with fail
  have hz := hz.al (.cells #[.int .i64 1, .int .i64 2] 3)
  have hb := hb.al (.cells #[.int .i64 1, .int .i64 2] 3)
  have u1 : Sl (World.alloc w4 (.cells #[.int .i64 1, .int .i64 2] 3)) (some ⟨w4.heap.size, 0, none⟩) [1, 2] := Sl.lit' w4 [1, 2] (w4.heap.size) #[.int .i64 1, .int .i64 2] (by simp) rfl
  have hBB := hBB.alloc hBB.size (.cells #[.int .i64 1, .int .i64 2] 3)
  have hz := hz.al (.cells #[.int .i64 0] 3)
  have hb := hb.al (.cells #[.int .i64 0] 3)
  have u1 := u1.al (.cells #[.int .i64 0] 3)
  have u2 : Sl (World.alloc (World.alloc w4 (.cells #[.int .i64 1, .int .i64 2] 3)) (.cells #[.int .i64 0] 3)) (some ⟨w4.heap.size + 1, 0, none⟩) [0] := Sl.lit' (World.alloc w4 (.cells #[.int .i64 1, .int .i64 2] 3)) [0] (w4.heap.size + 1) #[.int .i64 0] (by simp) rfl
  have hBB := hBB.alloc hBB.size (.cells #[.int .i64 0] 3)
  refine (kn6 _ _ _ (hI.below hBB) u1 u2).mono ?_
  clear u1
  clear u2
  rintro e w5 ⟨Aq5, cq5, rfl, hB⟩
  have hz := hz.step hB
  have hb := hb.step hB
  have hBB := hBB.trans (hB.mono hBB.size)
  go_wp2_with fail
  have hz := hz.al (.cells #[.int .i64 1, .int .i64 2] 3)
  have hb := hb.al (.cells #[.int .i64 1, .int .i64 2] 3)
  have u3 : Sl (World.alloc w5 (.cells #[.int .i64 1, .int .i64 2] 3)) (some ⟨w5.heap.size, 0, none⟩) [1, 2] := Sl.lit' w5 [1, 2] (w5.heap.size) #[.int .i64 1, .int .i64 2] (by simp) rfl
  have hBB := hBB.alloc hBB.size (.cells #[.int .i64 1, .int .i64 2] 3)
  have hz := hz.al (.cells #[.int .i64 1, .int .i64 0] 3)
  have hb := hb.al (.cells #[.int .i64 1, .int .i64 0] 3)
  have u3 := u3.al (.cells #[.int .i64 1, .int .i64 0] 3)
  have u4 : Sl (World.alloc (World.alloc w5 (.cells #[.int .i64 1, .int .i64 2] 3)) (.cells #[.int .i64 1, .int .i64 0] 3)) (some ⟨w5.heap.size + 1, 0, none⟩) [1, 0] := Sl.lit' (World.alloc w5 (.cells #[.int .i64 1, .int .i64 2] 3)) [1, 0] (w5.heap.size + 1) #[.int .i64 1, .int .i64 0] (by simp) rfl
  have hBB := hBB.alloc hBB.size (.cells #[.int .i64 1, .int .i64 0] 3)
  refine (kn7 _ _ _ (hI.below hBB) u3 u4).mono ?_
  clear u3
  clear u4
  rintro e w6 ⟨Aq6, cq6, rfl, hB⟩
  have hz := hz.step hB
  have hb := hb.step hB
  have hBB := hBB.trans (hB.mono hBB.size)
  go_wp2_with fail
  refine (kn8 _).mono ?_
  rintro e w7 ⟨Aq7, cq7, rfl, hB⟩
  have hz := hz.step hB
  have hb := hb.step hB
  have hBB := hBB.trans (hB.mono hBB.size)
  go_wp2_with fail
  refine (kz9 hZ _ _ hz).mono ?_
  rintro e w8 ⟨Aq8, cq8, rfl, hB⟩
  have hz := hz.step hB
  have hb := hb.step hB
  have hBB := hBB.trans (hB.mono hBB.size)
  go_wp2_with fail
  have hz := hz.al (.cells #[.int .i64 1] 3)
  have hb := hb.al (.cells #[.int .i64 1] 3)
  have u5 : Sl (World.alloc w8 (.cells #[.int .i64 1] 3)) (some ⟨w8.heap.size, 0, none⟩) [1] := Sl.lit' w8 [1] (w8.heap.size) #[.int .i64 1] (by simp) rfl
  have hBB := hBB.alloc hBB.size (.cells #[.int .i64 1] 3)
  have hz := hz.al (.cells #[.int .i64 1] 3)
  have hb := hb.al (.cells #[.int .i64 1] 3)
  have u5 := u5.al (.cells #[.int .i64 1] 3)
  have u6 : Sl (World.alloc (World.alloc w8 (.cells #[.int .i64 1] 3)) (.cells #[.int .i64 1] 3)) (some ⟨w8.heap.size + 1, 0, none⟩) [1] := Sl.lit' (World.alloc w8 (.cells #[.int .i64 1] 3)) [1] (w8.heap.size + 1) #[.int .i64 1] (by simp) rfl
  have hBB := hBB.alloc hBB.size (.cells #[.int .i64 1] 3)
  refine (kn10 _ _ _ u5 u6).mono ?_
  clear u5
  clear u6
  rintro e w9 ⟨Aq9, cq9, rfl, hB⟩
  have hz := hz.step hB
  have hb := hb.step hB
  have hBB := hBB.trans (hB.mono hBB.size)
  go_wp2_with fail
  have hz := hz.al (.cells #[.int .i64 1] 3)
  have hb := hb.al (.cells #[.int .i64 1] 3)
  have u7 : Sl (World.alloc w9 (.cells #[.int .i64 1] 3)) (some ⟨w9.heap.size, 0, none⟩) [1] := Sl.lit' w9 [1] (w9.heap.size) #[.int .i64 1] (by simp) rfl
  have hBB := hBB.alloc hBB.size (.cells #[.int .i64 1] 3)
  refine (kn11 _ _ u7).mono ?_
  clear u7
  rintro e w10 ⟨Aq10, cq10, rfl, hB⟩
  have hz := hz.step hB
  have hb := hb.step hB
  have hBB := hBB.trans (hB.mono hBB.size)
  go_wp2_with fail
  have hz := hz.al (.cells #[.int .i64 0, .int .i64 1] 3)
  have hb := hb.al (.cells #[.int .i64 0, .int .i64 1] 3)
  have u8 : Sl (World.alloc w10 (.cells #[.int .i64 0, .int .i64 1] 3)) (some ⟨w10.heap.size, 0, none⟩) [0, 1] := Sl.lit' w10 [0, 1] (w10.heap.size) #[.int .i64 0, .int .i64 1] (by simp) rfl
  have hBB := hBB.alloc hBB.size (.cells #[.int .i64 0, .int .i64 1] 3)
  have hz := hz.al (.cells #[.int .i64 1, .int .i64 2] 3)
  have hb := hb.al (.cells #[.int .i64 1, .int .i64 2] 3)
  have u8 := u8.al (.cells #[.int .i64 1, .int .i64 2] 3)
  have u9 : Sl (World.alloc (World.alloc w10 (.cells #[.int .i64 0, .int .i64 1] 3)) (.cells #[.int .i64 1, .int .i64 2] 3)) (some ⟨w10.heap.size + 1, 0, none⟩) [1, 2] := Sl.lit' (World.alloc w10 (.cells #[.int .i64 0, .int .i64 1] 3)) [1, 2] (w10.heap.size + 1) #[.int .i64 1, .int .i64 2] (by simp) rfl
  have hBB := hBB.alloc hBB.size (.cells #[.int .i64 1, .int .i64 2] 3)
  have hz := hz.al (.cells #[.int .i64 3] 3)
  have hb := hb.al (.cells #[.int .i64 3] 3)
  have u8 := u8.al (.cells #[.int .i64 3] 3)
  have u9 := u9.al (.cells #[.int .i64 3] 3)
  have u10 : Sl (World.alloc (World.alloc (World.alloc w10 (.cells #[.int .i64 0, .int .i64 1] 3)) (.cells #[.int .i64 1, .int .i64 2] 3)) (.cells #[.int .i64 3] 3)) (some ⟨w10.heap.size + 2, 0, none⟩) [3] := Sl.lit' (World.alloc (World.alloc w10 (.cells #[.int .i64 0, .int .i64 1] 3)) (.cells #[.int .i64 1, .int .i64 2] 3)) [3] (w10.heap.size + 2) #[.int .i64 3] (by simp) rfl
  have hBB := hBB.alloc hBB.size (.cells #[.int .i64 3] 3)
  refine (kn12 _ _ _ _ u8 u9 u10).mono ?_
  clear u8
  clear u9
  clear u10
  rintro e w11 ⟨Aq11, cq11, rfl, hB⟩
  have hz := hz.step hB
  have hb := hb.step hB
  have hBB := hBB.trans (hB.mono hBB.size)
  go_wp2_with fail
  have hz := hz.al (.cells #[.int .i64 1] 3)
  have hb := hb.al (.cells #[.int .i64 1] 3)
  have u11 : Sl (World.alloc w11 (.cells #[.int .i64 1] 3)) (some ⟨w11.heap.size, 0, none⟩) [1] := Sl.lit' w11 [1] (w11.heap.size) #[.int .i64 1] (by simp) rfl
  have hBB := hBB.alloc hBB.size (.cells #[.int .i64 1] 3)
  have hz := hz.al (.cells #[.int .i64 1] 3)
  have hb := hb.al (.cells #[.int .i64 1] 3)
  have u11 := u11.al (.cells #[.int .i64 1] 3)
  have u12 : Sl (World.alloc (World.alloc w11 (.cells #[.int .i64 1] 3)) (.cells #[.int .i64 1] 3)) (some ⟨w11.heap.size + 1, 0, none⟩) [1] := Sl.lit' (World.alloc w11 (.cells #[.int .i64 1] 3)) [1] (w11.heap.size + 1) #[.int .i64 1] (by simp) rfl
  have hBB := hBB.alloc hBB.size (.cells #[.int .i64 1] 3)
  refine (kn13 _ _ _ u11 u12).mono ?_
  clear u11
  clear u12
  rintro e w12 ⟨Aq12, cq12, rfl, hB⟩
  have hz := hz.step hB
  have hb := hb.step hB
  have hBB := hBB.trans (hB.mono hBB.size)
  go_wp2_with fail
  have hz := hz.al (.cells #[.int .i64 1] 3)
  have hb := hb.al (.cells #[.int .i64 1] 3)
  have u13 : Sl (World.alloc w12 (.cells #[.int .i64 1] 3)) (some ⟨w12.heap.size, 0, none⟩) [1] := Sl.lit' w12 [1] (w12.heap.size) #[.int .i64 1] (by simp) rfl
  have hBB := hBB.alloc hBB.size (.cells #[.int .i64 1] 3)
  have hz := hz.al (.cells #[.int .i64 (-1)] 3)
  have hb := hb.al (.cells #[.int .i64 (-1)] 3)
  have u13 := u13.al (.cells #[.int .i64 (-1)] 3)
  have u14 : Sl (World.alloc (World.alloc w12 (.cells #[.int .i64 1] 3)) (.cells #[.int .i64 (-1)] 3)) (some ⟨w12.heap.size + 1, 0, none⟩) [-1] := Sl.lit' (World.alloc w12 (.cells #[.int .i64 1] 3)) [-1] (w12.heap.size + 1) #[.int .i64 (-1)] (by simp) rfl
  have hBB := hBB.alloc hBB.size (.cells #[.int .i64 (-1)] 3)
  refine (kn14 _ _ _ u13 u14).mono ?_
  clear u13
  clear u14
  rintro e w13 ⟨Aq13, cq13, rfl, hB⟩
  have hz := hz.step hB
  have hb := hb.step hB
  have hBB := hBB.trans (hB.mono hBB.size)
  go_wp2_with fail
  have hz := hz.al (.cells #[.int .i64 1, .int .i64 2] 3)
  have hb := hb.al (.cells #[.int .i64 1, .int .i64 2] 3)
  have u15 : Sl (World.alloc w13 (.cells #[.int .i64 1, .int .i64 2] 3)) (some ⟨w13.heap.size, 0, none⟩) [1, 2] := Sl.lit' w13 [1, 2] (w13.heap.size) #[.int .i64 1, .int .i64 2] (by simp) rfl
  have hBB := hBB.alloc hBB.size (.cells #[.int .i64 1, .int .i64 2] 3)
  have hz := hz.al (.cells #[.int .i64 0] 3)
  have hb := hb.al (.cells #[.int .i64 0] 3)
  have u15 := u15.al (.cells #[.int .i64 0] 3)
  have u16 : Sl (World.alloc (World.alloc w13 (.cells #[.int .i64 1, .int .i64 2] 3)) (.cells #[.int .i64 0] 3)) (some ⟨w13.heap.size + 1, 0, none⟩) [0] := Sl.lit' (World.alloc w13 (.cells #[.int .i64 1, .int .i64 2] 3)) [0] (w13.heap.size + 1) #[.int .i64 0] (by simp) rfl
  have hBB := hBB.alloc hBB.size (.cells #[.int .i64 0] 3)
  refine (kn15 _ _ _ u15 u16).mono ?_
  clear u15
  clear u16
  rintro e w14 ⟨Aq14, cq14, rfl, hB⟩
  have hz := hz.step hB
  have hb := hb.step hB
  have hBB := hBB.trans (hB.mono hBB.size)
  go_wp2_with fail
  have hz := hz.al (.cells #[.int .i64 1, .int .i64 2] 3)
  have hb := hb.al (.cells #[.int .i64 1, .int .i64 2] 3)
  have u17 : Sl (World.alloc w14 (.cells #[.int .i64 1, .int .i64 2] 3)) (some ⟨w14.heap.size, 0, none⟩) [1, 2] := Sl.lit' w14 [1, 2] (w14.heap.size) #[.int .i64 1, .int .i64 2] (by simp) rfl
  have hBB := hBB.alloc hBB.size (.cells #[.int .i64 1, .int .i64 2] 3)
  have hz := hz.al (.cells #[.int .i64 0, .int .i64 0] 3)
  have hb := hb.al (.cells #[.int .i64 0, .int .i64 0] 3)
  have u17 := u17.al (.cells #[.int .i64 0, .int .i64 0] 3)
  have u18 : Sl (World.alloc (World.alloc w14 (.cells #[.int .i64 1, .int .i64 2] 3)) (.cells #[.int .i64 0, .int .i64 0] 3)) (some ⟨w14.heap.size + 1, 0, none⟩) [0, 0] := Sl.lit' (World.alloc w14 (.cells #[.int .i64 1, .int .i64 2] 3)) [0, 0] (w14.heap.size + 1) #[.int .i64 0, .int .i64 0] (by simp) rfl
  have hBB := hBB.alloc hBB.size (.cells #[.int .i64 0, .int .i64 0] 3)
  refine (kn16 _ _ _ u17 u18).mono ?_
  clear u17
  clear u18
  rintro e w15 ⟨Aq15, cq15, rfl, hB⟩
  have hz := hz.step hB
  have hb := hb.step hB
  have hBB := hBB.trans (hB.mono hBB.size)
  go_wp2_with fail
  have hz := hz.al (.cells #[.int .i64 1, .int .i64 2] 3)
  have hb := hb.al (.cells #[.int .i64 1, .int .i64 2] 3)
  have u19 : Sl (World.alloc w15 (.cells #[.int .i64 1, .int .i64 2] 3)) (some ⟨w15.heap.size, 0, none⟩) [1, 2] := Sl.lit' w15 [1, 2] (w15.heap.size) #[.int .i64 1, .int .i64 2] (by simp) rfl
  have hBB := hBB.alloc hBB.size (.cells #[.int .i64 1, .int .i64 2] 3)
  have hz := hz.al (.cells #[.int .i64 0, .int .i64 2] 3)
  have hb := hb.al (.cells #[.int .i64 0, .int .i64 2] 3)
  have u19 := u19.al (.cells #[.int .i64 0, .int .i64 2] 3)
  have u20 : Sl (World.alloc (World.alloc w15 (.cells #[.int .i64 1, .int .i64 2] 3)) (.cells #[.int .i64 0, .int .i64 2] 3)) (some ⟨w15.heap.size + 1, 0, none⟩) [0, 2] := Sl.lit' (World.alloc w15 (.cells #[.int .i64 1, .int .i64 2] 3)) [0, 2] (w15.heap.size + 1) #[.int .i64 0, .int .i64 2] (by simp) rfl
  have hBB := hBB.alloc hBB.size (.cells #[.int .i64 0, .int .i64 2] 3)
  refine (kn17 _ _ _ u19 u20).mono ?_
  clear u19
  clear u20
  rintro e w16 ⟨Aq16, cq16, rfl, hB⟩
  have hz := hz.step hB
  have hb := hb.step hB
  have hBB := hBB.trans (hB.mono hBB.size)
  go_wp2_with fail
  have hz := hz.al (.cells #[.int .i64 5, .int .i64 (-1)] 3)
  have hb := hb.al (.cells #[.int .i64 5, .int .i64 (-1)] 3)
  have u21 : Sl (World.alloc w16 (.cells #[.int .i64 5, .int .i64 (-1)] 3)) (some ⟨w16.heap.size, 0, none⟩) [5, -1] := Sl.lit' w16 [5, -1] (w16.heap.size) #[.int .i64 5, .int .i64 (-1)] (by simp) rfl
  have hBB := hBB.alloc hBB.size (.cells #[.int .i64 5, .int .i64 (-1)] 3)
  refine (kn20 _ _ u21).mono ?_
  clear u21
  rintro e w17 ⟨Aq17, cq17, rfl, hB⟩
  have hz := hz.step hB
  have hb := hb.step hB
  have hBB := hBB.trans (hB.mono hBB.size)
  go_wp2_with fail
  have hz := hz.al (.cells #[.int .i64 2147483647] 3)
  have hb := hb.al (.cells #[.int .i64 2147483647] 3)
  have u22 : Sl (World.alloc w17 (.cells #[.int .i64 2147483647] 3)) (some ⟨w17.heap.size, 0, none⟩) [2147483647] := Sl.lit' w17 [2147483647] (w17.heap.size) #[.int .i64 2147483647] (by simp) rfl
  have hBB := hBB.alloc hBB.size (.cells #[.int .i64 2147483647] 3)
  refine (kn21 _ _ u22).mono ?_
  clear u22
  rintro e w18 ⟨Aq18, cq18, rfl, hB⟩
  have hz := hz.step hB
  have hb := hb.step hB
  have hBB := hBB.trans (hB.mono hBB.size)
  go_wp2_with fail
  have hz := hz.al (.cells #[.int .i64 2147483647, .int .i64 (-1)] 3)
  have hb := hb.al (.cells #[.int .i64 2147483647, .int .i64 (-1)] 3)
  have u23 : Sl (World.alloc w18 (.cells #[.int .i64 2147483647, .int .i64 (-1)] 3)) (some ⟨w18.heap.size, 0, none⟩) [2147483647, -1] := Sl.lit' w18 [2147483647, -1] (w18.heap.size) #[.int .i64 2147483647, .int .i64 (-1)] (by simp) rfl
  have hBB := hBB.alloc hBB.size (.cells #[.int .i64 2147483647, .int .i64 (-1)] 3)
  refine (kn22 _ _ u23).mono ?_
  clear u23
  rintro e w19 ⟨Aq19, cq19, rfl, hB⟩
  have hz := hz.step hB
  have hb := hb.step hB
  have hBB := hBB.trans (hB.mono hBB.size)
  go_wp2_with fail
  have hz := hz.al (.cells #[.int .i64 1] 3)
  have hb := hb.al (.cells #[.int .i64 1] 3)
  have u24 : Sl (World.alloc w19 (.cells #[.int .i64 1] 3)) (some ⟨w19.heap.size, 0, none⟩) [1] := Sl.lit' w19 [1] (w19.heap.size) #[.int .i64 1] (by simp) rfl
  have hBB := hBB.alloc hBB.size (.cells #[.int .i64 1] 3)
  have hz := hz.al (.cells #[.int .i64 2, .int .i64 3] 3)
  have hb := hb.al (.cells #[.int .i64 2, .int .i64 3] 3)
  have u24 := u24.al (.cells #[.int .i64 2, .int .i64 3] 3)
  have u25 : Sl (World.alloc (World.alloc w19 (.cells #[.int .i64 1] 3)) (.cells #[.int .i64 2, .int .i64 3] 3)) (some ⟨w19.heap.size + 1, 0, none⟩) [2, 3] := Sl.lit' (World.alloc w19 (.cells #[.int .i64 1] 3)) [2, 3] (w19.heap.size + 1) #[.int .i64 2, .int .i64 3] (by simp) rfl
  have hBB := hBB.alloc hBB.size (.cells #[.int .i64 2, .int .i64 3] 3)
  refine (kn23 _ _ _ u24 u25).mono ?_
  clear u24
  clear u25
  rintro e w20 ⟨Aq20, cq20, rfl, hB⟩
  have hz := hz.step hB
  have hb := hb.step hB
  have hBB := hBB.trans (hB.mono hBB.size)
  go_wp2_with fail
  have hz := hz.al (.cells #[.int .i64 1] 3)
  have hb := hb.al (.cells #[.int .i64 1] 3)
  have u26 : Sl (World.alloc w20 (.cells #[.int .i64 1] 3)) (some ⟨w20.heap.size, 0, none⟩) [1] := Sl.lit' w20 [1] (w20.heap.size) #[.int .i64 1] (by simp) rfl
  have hBB := hBB.alloc hBB.size (.cells #[.int .i64 1] 3)
  have hz := hz.al (.cells #[.int .i64 (-1)] 3)
  have hb := hb.al (.cells #[.int .i64 (-1)] 3)
  have u26 := u26.al (.cells #[.int .i64 (-1)] 3)
  have u27 : Sl (World.alloc (World.alloc w20 (.cells #[.int .i64 1] 3)) (.cells #[.int .i64 (-1)] 3)) (some ⟨w20.heap.size + 1, 0, none⟩) [-1] := Sl.lit' (World.alloc w20 (.cells #[.int .i64 1] 3)) [-1] (w20.heap.size + 1) #[.int .i64 (-1)] (by simp) rfl
  have hBB := hBB.alloc hBB.size (.cells #[.int .i64 (-1)] 3)
  refine (kn24 _ _ _ u26 u27).mono ?_
  clear u26
  clear u27
  rintro e w21 ⟨Aq21, cq21, rfl, hB⟩
  have hz := hz.step hB
  have hb := hb.step hB
  have hBB := hBB.trans (hB.mono hBB.size)
  go_wp2_with fail
  have hz := hz.al (.cells #[.int .i64 1] 3)
  have hb := hb.al (.cells #[.int .i64 1] 3)
  have u28 : Sl (World.alloc w21 (.cells #[.int .i64 1] 3)) (some ⟨w21.heap.size, 0, none⟩) [1] := Sl.lit' w21 [1] (w21.heap.size) #[.int .i64 1] (by simp) rfl
  have hBB := hBB.alloc hBB.size (.cells #[.int .i64 1] 3)
  have hz := hz.al (.cells #[.int .i64 1048577] 3)
  have hb := hb.al (.cells #[.int .i64 1048577] 3)
  have u28 := u28.al (.cells #[.int .i64 1048577] 3)
  have u29 : Sl (World.alloc (World.alloc w21 (.cells #[.int .i64 1] 3)) (.cells #[.int .i64 1048577] 3)) (some ⟨w21.heap.size + 1, 0, none⟩) [1048577] := Sl.lit' (World.alloc w21 (.cells #[.int .i64 1] 3)) [1048577] (w21.heap.size + 1) #[.int .i64 1048577] (by simp) rfl
  have hBB := hBB.alloc hBB.size (.cells #[.int .i64 1048577] 3)
  refine (kn25 _ _ _ u28 u29).mono ?_
  clear u28
  clear u29
  rintro e w22 ⟨Aq22, cq22, rfl, hB⟩
  have hz := hz.step hB
  have hb := hb.step hB
  have hBB := hBB.trans (hB.mono hBB.size)
  obtain ⟨B1, hs1, ht⟩ := slice_to' _ 1048577 1048576 Z _ hz (by rw [hZ.len]; omega) (by rw [hZ.len]; omega)
  rw [hZ.len] at hs1
  obtain ⟨B2, hs2, hh⟩ := slice_to' _ 1048577 524288 Z _ hz (by rw [hZ.len]; omega) (by rw [hZ.len]; omega)
  rw [hZ.len] at hs2
  have hZ1 := hZ.take 1048576 (by omega)
  have hZ2 := hZ.take 524288 (by omega)
  have hs1 : ∀ W, (Instr.sliceAt 22 (.slice (some ⟨w.heap.size, 0, none⟩) 1048577 1048577) none (some (.int .i64 1048576)) none).run Tryd.prog W = .ok (.slice (some B1) 1048576 1048577) W := hs1
  have hs2 : ∀ W, (Instr.sliceAt 22 (.slice (some ⟨w.heap.size, 0, none⟩) 1048577 1048577) none (some (.int .i64 524288)) none).run Tryd.prog W = .ok (.slice (some B2) 524288 1048577) W := hs2
  go_wp2_with fail
  have hz := hz.al (.cells #[.int .i64 1] 3)
  have hb := hb.al (.cells #[.int .i64 1] 3)
  have ht := ht.al (.cells #[.int .i64 1] 3)
  have hh := hh.al (.cells #[.int .i64 1] 3)
  have u30 : Sl (World.alloc w22 (.cells #[.int .i64 1] 3)) (some ⟨w22.heap.size, 0, none⟩) [1] := Sl.lit' w22 [1] (w22.heap.size) #[.int .i64 1] (by simp) rfl
  have hBB := hBB.alloc hBB.size (.cells #[.int .i64 1] 3)
  refine (kz26 hZ1 _ _ _ ht u30).mono ?_
  clear u30
  rintro e w23 ⟨Aq23, cq23, rfl, hB⟩
  have hz := hz.step hB
  have hb := hb.step hB
  have ht := ht.step hB
  have hh := hh.step hB
  have hBB := hBB.trans (hB.mono hBB.size)
  go_wp2_with fail
  refine (kz27 hZ _ _ hz).mono ?_
  rintro e w24 ⟨Aq24, cq24, rfl, hB⟩
  have hz := hz.step hB
  have hb := hb.step hB
  have ht := ht.step hB
  have hh := hh.step hB
  have hBB := hBB.trans (hB.mono hBB.size)
  go_wp2_with fail
  refine (kn28 _ _ hb).mono ?_
  rintro e w25 ⟨Aq25, cq25, rfl, hB⟩
  have hz := hz.step hB
  have hb := hb.step hB
  have ht := ht.step hB
  have hh := hh.step hB
  have hBB := hBB.trans (hB.mono hBB.size)
  go_wp2_with fail
  refine (kn29 _ _ hb).mono ?_
  rintro e w26 ⟨Aq26, cq26, rfl, hB⟩
  have hz := hz.step hB
  have hb := hb.step hB
  have ht := ht.step hB
  have hh := hh.step hB
  have hBB := hBB.trans (hB.mono hBB.size)
  go_wp2_with fail
  have hz := hz.al (.cells #[.int .i64 1] 3)
  have hb := hb.al (.cells #[.int .i64 1] 3)
  have ht := ht.al (.cells #[.int .i64 1] 3)
  have hh := hh.al (.cells #[.int .i64 1] 3)
  have u31 : Sl (World.alloc w26 (.cells #[.int .i64 1] 3)) (some ⟨w26.heap.size, 0, none⟩) [1] := Sl.lit' w26 [1] (w26.heap.size) #[.int .i64 1] (by simp) rfl
  have hBB := hBB.alloc hBB.size (.cells #[.int .i64 1] 3)
  have hz := hz.al (.cells #[.slice (some ⟨w26.heap.size, 0, none⟩) 1 1, .slice none 0 0] 22)
  have hb := hb.al (.cells #[.slice (some ⟨w26.heap.size, 0, none⟩) 1 1, .slice none 0 0] 22)
  have ht := ht.al (.cells #[.slice (some ⟨w26.heap.size, 0, none⟩) 1 1, .slice none 0 0] 22)
  have hh := hh.al (.cells #[.slice (some ⟨w26.heap.size, 0, none⟩) 1 1, .slice none 0 0] 22)
  have u31 := u31.al (.cells #[.slice (some ⟨w26.heap.size, 0, none⟩) 1 1, .slice none 0 0] 22)
  have hBB := hBB.alloc hBB.size (.cells #[.slice (some ⟨w26.heap.size, 0, none⟩) 1 1, .slice none 0 0] 22)
  have hg : Blk (World.alloc (World.alloc w26 (.cells #[.int .i64 1] 3)) (.cells #[.slice (some ⟨w26.heap.size, 0, none⟩) 1 1, .slice none 0 0] 22)) (w26.heap.size + 1) 22 #[.slice (some ⟨w26.heap.size, 0, none⟩) 1 1, .slice none 0 0] := Blk.new' (World.alloc w26 (.cells #[.int .i64 1] 3)) 22 #[.slice (some ⟨w26.heap.size, 0, none⟩) 1 1, .slice none 0 0] (w26.heap.size + 1) (by simp)
  refine (kn30 _ _ _ hg u31).mono ?_
  clear u31
  rintro e w27 ⟨Aq27, cq27, rfl, hB⟩
  have hz := hz.step hB
  have hb := hb.step hB
  have ht := ht.step hB
  have hh := hh.step hB
  have hBB := hBB.trans (hB.mono hBB.size)
  clear hg
  have C31 : ∀ W g, Below w27.heap.size w27 W → Blk W g 22 #[.slice (some B2) 524288 1048577, .slice (some B2) 524288 1048577, .slice (some B2) 524288 1048577] → Calls Tryd.prog 27 #[.slice (some ⟨g, 0, none⟩) 3 3] W fun e w' => ∃ A c, e = .returned (.tuple #[.slice A 0 c, .int .i64 9]) ∧ Below w27.heap.size w27 w' := fun W g hb hg => (kn31 hZ2 _ g W hg (hh.step hb)).mono fun e w' ⟨A, c, h1, h2⟩ => ⟨A, c, h1, below_step hb h2⟩
  go_upto_region 31 with fail
  go_cut [26] from 256 to 266 (fun s wx => s = .int .i64 9 ∧ Below w27.heap.size w27 wx)
  case first =>
    go_region_with (go_at_call 27; refine (C31 _ _ (by repeat (first | exact Below.refl _ _ | refine Below.drew ?_ | refine Below.alloc ?_ (by simp) _)) (by first | exact Blk.at (by simp) | exact (Blk.at (by simp)).drew)).mono ?_; rintro e w9 ⟨A9, c9, rfl, hb9⟩)
    all_goals (go_wp2_with fail; go_meet; exact ⟨rfl, hb9⟩)
  case rest =>
    obtain ⟨rfl, hB⟩ := hcut
    clear C31
    have hz := hz.step hB
    have hb := hb.step hB
    have ht := ht.step hB
    have hBB := hBB.trans (hB.mono hBB.size)
    go_wp2_with fail
    have hz := hz.al (.cells #[.slice none 0 0, .slice (some ⟨w.heap.size + 1, 0, none⟩) 1 1] 22)
    have hb := hb.al (.cells #[.slice none 0 0, .slice (some ⟨w.heap.size + 1, 0, none⟩) 1 1] 22)
    have ht := ht.al (.cells #[.slice none 0 0, .slice (some ⟨w.heap.size + 1, 0, none⟩) 1 1] 22)
    have hBB := hBB.alloc hBB.size (.cells #[.slice none 0 0, .slice (some ⟨w.heap.size + 1, 0, none⟩) 1 1] 22)
    have hg : Blk (World.alloc wc (.cells #[.slice none 0 0, .slice (some ⟨w.heap.size + 1, 0, none⟩) 1 1] 22)) (wc.heap.size) 22 #[.slice none 0 0, .slice (some ⟨w.heap.size + 1, 0, none⟩) 1 1] := Blk.new' wc 22 #[.slice none 0 0, .slice (some ⟨w.heap.size + 1, 0, none⟩) 1 1] (wc.heap.size) (by simp)
    refine (kn32 _ _ _ hg hb).mono ?_
    rintro e w28 ⟨Aq28, cq28, rfl, hB⟩
    have hz := hz.step hB
    have hb := hb.step hB
    have ht := ht.step hB
    have hBB := hBB.trans (hB.mono hBB.size)
    clear hg
    go_wp2_with fail
    refine (kn35 _).mono ?_
    rintro e w29 ⟨Ahe, che, rfl, hche, he, hB⟩
    have hz := hz.step hB
    have hb := hb.step hB
    have ht := ht.step hB
    have hBB := hBB.trans (hB.mono hBB.size)
    go_wp2_with fail
    have hz := hz.al (.cells #[.int .i64 3, .int .i64 4] 3)
    have hb := hb.al (.cells #[.int .i64 3, .int .i64 4] 3)
    have ht := ht.al (.cells #[.int .i64 3, .int .i64 4] 3)
    have he := he.al (.cells #[.int .i64 3, .int .i64 4] 3)
    have u32 : Sl (World.alloc w29 (.cells #[.int .i64 3, .int .i64 4] 3)) (some ⟨w29.heap.size, 0, none⟩) [3, 4] := Sl.lit' w29 [3, 4] (w29.heap.size) #[.int .i64 3, .int .i64 4] (by simp) rfl
    have hBB := hBB.alloc hBB.size (.cells #[.int .i64 3, .int .i64 4] 3)
    have hz := hz.al (.cells #[.int .i64 0, .int .i64 0] 3)
    have hb := hb.al (.cells #[.int .i64 0, .int .i64 0] 3)
    have ht := ht.al (.cells #[.int .i64 0, .int .i64 0] 3)
    have he := he.al (.cells #[.int .i64 0, .int .i64 0] 3)
    have u32 := u32.al (.cells #[.int .i64 0, .int .i64 0] 3)
    have u33 : Sl (World.alloc (World.alloc w29 (.cells #[.int .i64 3, .int .i64 4] 3)) (.cells #[.int .i64 0, .int .i64 0] 3)) (some ⟨w29.heap.size + 1, 0, none⟩) [0, 0] := Sl.lit' (World.alloc w29 (.cells #[.int .i64 3, .int .i64 4] 3)) [0, 0] (w29.heap.size + 1) #[.int .i64 0, .int .i64 0] (by simp) rfl
    have hBB := hBB.alloc hBB.size (.cells #[.int .i64 0, .int .i64 0] 3)
    refine (kn36 _ _ _ u32 u33).mono ?_
    clear u32
    clear u33
    rintro e w30 ⟨Ahf, chf, rfl, hchf, hf, hB⟩
    have hz := hz.step hB
    have hb := hb.step hB
    have ht := ht.step hB
    have he := he.step hB
    have hBB := hBB.trans (hB.mono hBB.size)
    go_wp2_with fail
    refine (kn37 _).mono ?_
    rintro e w31 ⟨Ahg, chg, rfl, hchg, hg, hB⟩
    have hz := hz.step hB
    have hb := hb.step hB
    have ht := ht.step hB
    have he := he.step hB
    have hf := hf.step hB
    have hBB := hBB.trans (hB.mono hBB.size)
    go_wp2_with fail
    refine (kn38 _).mono ?_
    rintro e w32 ⟨Ahk, chk, rfl, hchk, hk, hB⟩
    have hz := hz.step hB
    have hb := hb.step hB
    have ht := ht.step hB
    have he := he.step hB
    have hf := hf.step hB
    have hg := hg.step hB
    have hBB := hBB.trans (hB.mono hBB.size)
    go_wp2_with fail
    refine (kn39 _).mono ?_
    rintro e w33 ⟨Ahl, chl, rfl, hchl, hl, hB⟩
    have hz := hz.step hB
    have hb := hb.step hB
    have ht := ht.step hB
    have he := he.step hB
    have hf := hf.step hB
    have hg := hg.step hB
    have hk := hk.step hB
    have hBB := hBB.trans (hB.mono hBB.size)
    go_wp2_with fail
    refine (kz40 hZ1 _ _ ht).mono ?_
    rintro e w34 ⟨Aq34, cq34, rfl, hB⟩
    have hz := hz.step hB
    have hb := hb.step hB
    have ht := ht.step hB
    have he := he.step hB
    have hf := hf.step hB
    have hg := hg.step hB
    have hk := hk.step hB
    have hl := hl.step hB
    have hBB := hBB.trans (hB.mono hBB.size)
    clear he
    clear hf
    clear hg
    clear hk
    go_wp2_with fail
    have hz := hz.al (.cells #[.int .i64 0] 3)
    have hb := hb.al (.cells #[.int .i64 0] 3)
    have hl := hl.al (.cells #[.int .i64 0] 3)
    have zz : Sl (World.alloc w34 (.cells #[.int .i64 0] 3)) (some ⟨w34.heap.size, 0, none⟩) [0] := Sl.lit' w34 [0] (w34.heap.size) #[.int .i64 0] (by simp) rfl
    have hBB := hBB.alloc hBB.size (.cells #[.int .i64 0] 3)
    refine (eq_lit _ _ _ _ 1 [0] _ rfl hl zz (by decide)).mono ?_
    clear zz
    clear hl
    rintro e w35 ⟨rfl, hB⟩
    have hz := hz.step hB
    have hb := hb.step hB
    have hBB := hBB.trans (hB.mono hBB.size)
    go_wp2_with fail
    refine (ktn _).mono ?_
    rintro e w36 ⟨rfl, hB⟩
    have hz := hz.step hB
    have hb := hb.step hB
    have hBB := hBB.trans (hB.mono hBB.size)
    go_wp2_with fail
    refine (ktb _ _ hb).mono ?_
    rintro e w37 ⟨rfl, hB⟩
    have hz := hz.step hB
    have hb := hb.step hB
    have hBB := hBB.trans (hB.mono hBB.size)
    go_wp2_with fail
    refine (kzt hZ _ _ hz).mono ?_
    rintro e w38 ⟨rfl, hB⟩
    have hz := hz.step hB
    have hb := hb.step hB
    have hBB := hBB.trans (hB.mono hBB.size)
    go_wp2_with fail
    have hz := hz.al (.cells #[.int .i64 0, .int .i64 0] 3)
    have hb := hb.al (.cells #[.int .i64 0, .int .i64 0] 3)
    have u0 : Sl (World.alloc w38 (.cells #[.int .i64 0, .int .i64 0] 3)) (some ⟨w38.heap.size, 0, none⟩) [0, 0] := Sl.lit' w38 [0, 0] (w38.heap.size) #[.int .i64 0, .int .i64 0] (by simp) rfl
    have hBB := hBB.alloc hBB.size (.cells #[.int .i64 0, .int .i64 0] 3)
    refine (kt0 _ _ u0).mono ?_
    clear u0
    rintro e w39 ⟨rfl, hB⟩
    have hz := hz.step hB
    have hb := hb.step hB
    have hBB := hBB.trans (hB.mono hBB.size)
    go_wp2_with fail
    refine (done_any _ (hI.below hBB)).mono ?_
    rintro e w40 ⟨rfl, hB⟩
    have hBB := hBB.trans (hB.mono hBB.size)
    go_wp2
    go_ret
    exact ⟨rfl, hBB⟩
end Go.Proofs.YtchjdhlmpdcibaaDoor
