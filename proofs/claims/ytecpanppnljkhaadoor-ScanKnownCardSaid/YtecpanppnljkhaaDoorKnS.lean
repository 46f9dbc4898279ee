/- ScanKnown: what is said of single lists, a closed statement: the law's call returns true. No condition but the row's own (the listed table holds what the text says). -/
import Derived.Test.YtecpanppnljkhaaDoorKnc
import Derived.Test.YtecpanppnljkhaaDoorTie
import Derived.Test.YtecpanppnljkhaaDoorCards
import Derived.ChangeMaps5
namespace Go.Proofs.YtecpanppnljkhaaDoor.scanKnown
open Go.ChangeShapes Go.WideShapes Go.ChangeAt Go.RowKit Go.ChangeMaps Go.Shelf
set_option linter.unusedVariables false
theorem sll_k1 {w : World} {g n1 : Nat} {A1 : Option Addr} {l1 : List Int} (hb : Blk w g 22 #[.slice A1 n1 n1]) (h1 : Sl w A1 l1) (e1 : l1.length = n1 := by rfl) : Sll w (some ⟨g, 0, none⟩) [l1] := by
  subst e1; exact sll1 hb h1 (Nat.le_refl _)
theorem sll_k2 {w : World} {g n1 n2 : Nat} {A1 A2 : Option Addr} {l1 l2 : List Int} (hb : Blk w g 22 #[.slice A1 n1 n1, .slice A2 n2 n2]) (h1 : Sl w A1 l1) (h2 : Sl w A2 l2) (e1 : l1.length = n1 := by rfl) (e2 : l2.length = n2 := by rfl) : Sll w (some ⟨g, 0, none⟩) [l1, l2] := by
  subst e1; subst e2; exact sll2 hb h1 h2 (Nat.le_refl _) (Nat.le_refl _)
theorem sll_k3 {w : World} {g n1 n2 n3 : Nat} {A1 A2 A3 : Option Addr} {l1 l2 l3 : List Int} (hb : Blk w g 22 #[.slice A1 n1 n1, .slice A2 n2 n2, .slice A3 n3 n3]) (h1 : Sl w A1 l1) (h2 : Sl w A2 l2) (h3 : Sl w A3 l3) (e1 : l1.length = n1 := by rfl) (e2 : l2.length = n2 := by rfl) (e3 : l3.length = n3 := by rfl) : Sll w (some ⟨g, 0, none⟩) [l1, l2, l3] := sll_three hb h1 h2 h3 e1 e2 e3
theorem eqK (A A' : Option Addr) (c c' : Nat) (L : List (List Int)) (n : Nat) (w : World) (hn : L.length = n) (h : Sll w A L) (h' : Sll w A' L) (hl : L.length ≤ 9223372036854775807) (hs : AllShort L) :
    Calls Tryd.prog 32 #[.slice A n c, .slice A' n c'] w fun e w' => e = .returned (.bool true) ∧ Below w.heap.size w w' := by
  subst hn
  refine (equalLists_refl A A' c c' L w h h' hl hs).mono ?_
  rintro e w' ⟨rfl, m, rfl⟩
  exact ⟨rfl, below_drewN' w m⟩
set_option maxRecDepth 100000 in
set_option maxHeartbeats 400000000 in
theorem walk (w : World) (hI : Inv w) : Calls Tryd.prog 8 #[] w (Ret (.bool true) w) := by
  obtain ⟨O, Z, hZ, hmk0, hSZ⟩ := big_makeK 1048577 (by omega)
  have hmk : ∀ W : World, (Instr.makeSlice 22 (.int .i64 1048577) (.int .i64 1048577)).run Tryd.prog W = .ok (.slice (some ⟨W.heap.size, 0, none⟩) 1048577 1048577) (W.alloc O) := hmk0
  clear hmk0
  obtain ⟨O2, P, hP, hmkF, hSF⟩ := big_flagK
  have hz := hSZ w
  have hBB : Below w.heap.size w w := Below.refl _ _
  replace hBB := hBB.alloc hBB.size O
  clear hSZ
  go_enter Tryd.func8, Tryd.ntmps8
  go_wp2_with fail
  replace hz := hz.al (.cells #[.int .i64 2147483648] 3)
  replace hBB := hBB.alloc hBB.size (.cells #[.int .i64 2147483648] 3)
  have hb : Sl (World.alloc (World.alloc w O) (.cells #[.int .i64 2147483648] 3)) (some ⟨w.heap.size + 1, 0, none⟩) [2147483648] := Sl.lit' (World.alloc w O) [2147483648] (w.heap.size + 1) #[.int .i64 2147483648] (by simp) rfl
  refine (q1 hZ _ _ _ (hI.below hBB) hz hb).mono ?_
  rintro e w1 ⟨Aq1, cq1, rfl, hB⟩
  replace hz := hz.step hB
  replace hb := hb.step hB
  replace hBB := hBB.trans (hB.mono hBB.size)
  clear hB
  go_wp2_with fail
  refine (q2 hZ _ _ _ (hI.below hBB) hz hb).mono ?_
  rintro e w2 ⟨Aq2, cq2, rfl, hB⟩
  replace hz := hz.step hB
  replace hb := hb.step hB
  replace hBB := hBB.trans (hB.mono hBB.size)
  clear hB
  go_wp2_with fail
  refine (q3 hZ _ _ _ (hI.below hBB) hz hb).mono ?_
  rintro e w3 ⟨Aq3, cq3, rfl, hB⟩
  replace hz := hz.step hB
  replace hb := hb.step hB
  replace hBB := hBB.trans (hB.mono hBB.size)
  clear hB
  go_wp2_with fail
  replace hz := hz.al (.cells #[.int .i64 5] 3)
  replace hb := hb.al (.cells #[.int .i64 5] 3)
  replace hBB := hBB.alloc hBB.size (.cells #[.int .i64 5] 3)
  have u : Sl (World.alloc w3 (.cells #[.int .i64 5] 3)) (some ⟨w3.heap.size, 0, none⟩) [5] := Sl.lit' w3 [5] (w3.heap.size) #[.int .i64 5] (by simp) rfl
  refine (q4 _ _ _ (hI.below hBB) hb u).mono ?_
  clear u
  rintro e w4 ⟨Aq4, cq4, rfl, hB⟩
  replace hz := hz.step hB
  replace hb := hb.step hB
  replace hBB := hBB.trans (hB.mono hBB.size)
  clear hB
  go_wp2_with fail
  replace hz := hz.al (.cells #[.int .i64 1, .int .i64 2] 3)
  replace hb := hb.al (.cells #[.int .i64 1, .int .i64 2] 3)
  replace hBB := hBB.alloc hBB.size (.cells #[.int .i64 1, .int .i64 2] 3)
  have u : Sl (World.alloc w4 (.cells #[.int .i64 1, .int .i64 2] 3)) (some ⟨w4.heap.size, 0, none⟩) [1, 2] := Sl.lit' w4 [1, 2] (w4.heap.size) #[.int .i64 1, .int .i64 2] (by simp) rfl
  replace hz := hz.al (.cells #[.int .i64 1] 3)
  replace hb := hb.al (.cells #[.int .i64 1] 3)
  replace u := u.al (.cells #[.int .i64 1] 3)
  replace hBB := hBB.alloc hBB.size (.cells #[.int .i64 1] 3)
  have v : Sl (World.alloc (World.alloc w4 (.cells #[.int .i64 1, .int .i64 2] 3)) (.cells #[.int .i64 1] 3)) (some ⟨w4.heap.size + 1, 0, none⟩) [1] := Sl.lit' (World.alloc w4 (.cells #[.int .i64 1, .int .i64 2] 3)) [1] (w4.heap.size + 1) #[.int .i64 1] (by simp) rfl
  refine (q5 _ _ _ (hI.below hBB) u v).mono ?_
  clear u
  clear v
  rintro e w5 ⟨Aq5, cq5, rfl, hB⟩
  replace hz := hz.step hB
  replace hb := hb.step hB
  replace hBB := hBB.trans (hB.mono hBB.size)
  clear hB
  go_wp2_with fail
  replace hz := hz.al (.cells #[.int .i64 1, .int .i64 2] 3)
  replace hb := hb.al (.cells #[.int .i64 1, .int .i64 2] 3)
  replace hBB := hBB.alloc hBB.size (.cells #[.int .i64 1, .int .i64 2] 3)
  have u : Sl (World.alloc w5 (.cells #[.int .i64 1, .int .i64 2] 3)) (some ⟨w5.heap.size, 0, none⟩) [1, 2] := Sl.lit' w5 [1, 2] (w5.heap.size) #[.int .i64 1, .int .i64 2] (by simp) rfl
  replace hz := hz.al (.cells #[.int .i64 3, .int .i64 (-1)] 3)
  replace hb := hb.al (.cells #[.int .i64 3, .int .i64 (-1)] 3)
  replace u := u.al (.cells #[.int .i64 3, .int .i64 (-1)] 3)
  replace hBB := hBB.alloc hBB.size (.cells #[.int .i64 3, .int .i64 (-1)] 3)
  have v : Sl (World.alloc (World.alloc w5 (.cells #[.int .i64 1, .int .i64 2] 3)) (.cells #[.int .i64 3, .int .i64 (-1)] 3)) (some ⟨w5.heap.size + 1, 0, none⟩) [3, -1] := Sl.lit' (World.alloc w5 (.cells #[.int .i64 1, .int .i64 2] 3)) [3, -1] (w5.heap.size + 1) #[.int .i64 3, .int .i64 (-1)] (by simp) rfl
  refine (q6 _ _ _ (hI.below hBB) u v).mono ?_
  clear u
  clear v
  rintro e w6 ⟨Aq6, cq6, rfl, hB⟩
  replace hz := hz.step hB
  replace hb := hb.step hB
  replace hBB := hBB.trans (hB.mono hBB.size)
  clear hB
  go_wp2_with fail
  replace hz := hz.al (.cells #[.int .i64 1] 3)
  replace hb := hb.al (.cells #[.int .i64 1] 3)
  replace hBB := hBB.alloc hBB.size (.cells #[.int .i64 1] 3)
  have u : Sl (World.alloc w6 (.cells #[.int .i64 1] 3)) (some ⟨w6.heap.size, 0, none⟩) [1] := Sl.lit' w6 [1] (w6.heap.size) #[.int .i64 1] (by simp) rfl
  refine (q7 _ _ _ (hI.below hBB) u hb).mono ?_
  clear u
  rintro e w7 ⟨Aq7, cq7, rfl, hB⟩
  replace hz := hz.step hB
  replace hb := hb.step hB
  replace hBB := hBB.trans (hB.mono hBB.size)
  clear hB
  go_wp2_with fail
  refine (q8 _ _ (hI.below hBB) hb).mono ?_
  rintro e w8 ⟨rfl, hB⟩
  replace hz := hz.step hB
  replace hb := hb.step hB
  replace hBB := hBB.trans (hB.mono hBB.size)
  clear hB
  go_wp2_with fail
  refine (q9 _ _ (hI.below hBB) hb).mono ?_
  rintro e w9 ⟨rfl, hB⟩
  replace hz := hz.step hB
  replace hb := hb.step hB
  replace hBB := hBB.trans (hB.mono hBB.size)
  clear hB
  go_wp2_with fail
  refine (q10 _ (hI.below hBB)).mono ?_
  rintro e w10 ⟨rfl, hB⟩
  replace hz := hz.step hB
  replace hb := hb.step hB
  replace hBB := hBB.trans (hB.mono hBB.size)
  clear hB
  go_wp2_with fail
  replace hz := hz.al (.cells #[.int .i64 1, .int .i64 2] 3)
  replace hb := hb.al (.cells #[.int .i64 1, .int .i64 2] 3)
  replace hBB := hBB.alloc hBB.size (.cells #[.int .i64 1, .int .i64 2] 3)
  have u : Sl (World.alloc w10 (.cells #[.int .i64 1, .int .i64 2] 3)) (some ⟨w10.heap.size, 0, none⟩) [1, 2] := Sl.lit' w10 [1, 2] (w10.heap.size) #[.int .i64 1, .int .i64 2] (by simp) rfl
  replace hz := hz.al (.cells #[.int .i64 1] 3)
  replace hb := hb.al (.cells #[.int .i64 1] 3)
  replace u := u.al (.cells #[.int .i64 1] 3)
  replace hBB := hBB.alloc hBB.size (.cells #[.int .i64 1] 3)
  have v : Sl (World.alloc (World.alloc w10 (.cells #[.int .i64 1, .int .i64 2] 3)) (.cells #[.int .i64 1] 3)) (some ⟨w10.heap.size + 1, 0, none⟩) [1] := Sl.lit' (World.alloc w10 (.cells #[.int .i64 1, .int .i64 2] 3)) [1] (w10.heap.size + 1) #[.int .i64 1] (by simp) rfl
  refine (q11 _ _ _ (hI.below hBB) u v).mono ?_
  clear u
  clear v
  rintro e w11 ⟨rfl, hB⟩
  replace hz := hz.step hB
  replace hb := hb.step hB
  replace hBB := hBB.trans (hB.mono hBB.size)
  clear hB
  go_wp2_with fail
  replace hz := hz.al (.cells #[.int .i64 1, .int .i64 2, .int .i64 3] 3)
  replace hb := hb.al (.cells #[.int .i64 1, .int .i64 2, .int .i64 3] 3)
  replace hBB := hBB.alloc hBB.size (.cells #[.int .i64 1, .int .i64 2, .int .i64 3] 3)
  have u : Sl (World.alloc w11 (.cells #[.int .i64 1, .int .i64 2, .int .i64 3] 3)) (some ⟨w11.heap.size, 0, none⟩) [1, 2, 3] := Sl.lit' w11 [1, 2, 3] (w11.heap.size) #[.int .i64 1, .int .i64 2, .int .i64 3] (by simp) rfl
  replace hz := hz.al (.cells #[.int .i64 0] 3)
  replace hb := hb.al (.cells #[.int .i64 0] 3)
  replace u := u.al (.cells #[.int .i64 0] 3)
  replace hBB := hBB.alloc hBB.size (.cells #[.int .i64 0] 3)
  have v : Sl (World.alloc (World.alloc w11 (.cells #[.int .i64 1, .int .i64 2, .int .i64 3] 3)) (.cells #[.int .i64 0] 3)) (some ⟨w11.heap.size + 1, 0, none⟩) [0] := Sl.lit' (World.alloc w11 (.cells #[.int .i64 1, .int .i64 2, .int .i64 3] 3)) [0] (w11.heap.size + 1) #[.int .i64 0] (by simp) rfl
  refine (q12 _ _ _ (hI.below hBB) u v).mono ?_
  clear u
  clear v
  rintro e w12 ⟨rfl, hB⟩
  replace hz := hz.step hB
  replace hb := hb.step hB
  replace hBB := hBB.trans (hB.mono hBB.size)
  clear hB
  go_wp2_with fail
  refine (q13 hZ _ _ (hI.below hBB) hz).mono ?_
  rintro e w13 ⟨rfl, hB⟩
  replace hz := hz.step hB
  replace hb := hb.step hB
  replace hBB := hBB.trans (hB.mono hBB.size)
  clear hB
  clear hz
  clear hZ hmk
  go_wp2_with fail
  replace hb := hb.al (.cells #[.int .i64 1] 3)
  replace hBB := hBB.alloc hBB.size (.cells #[.int .i64 1] 3)
  have u : Sl (World.alloc w13 (.cells #[.int .i64 1] 3)) (some ⟨w13.heap.size, 0, none⟩) [1] := Sl.lit' w13 [1] (w13.heap.size) #[.int .i64 1] (by simp) rfl
  refine (q14 _ _ (hI.below hBB) u).mono ?_
  clear u
  rintro e w14 ⟨Aq14, cq14, Ar14, cr14, rfl, hB⟩
  replace hb := hb.step hB
  replace hBB := hBB.trans (hB.mono hBB.size)
  clear hB
  go_wp2_with fail
  refine (q15 _ (hI.below hBB)).mono ?_
  rintro e w15 ⟨Aq15, cq15, Ar15, cr15, rfl, hB⟩
  replace hb := hb.step hB
  replace hBB := hBB.trans (hB.mono hBB.size)
  clear hB
  go_wp2_with fail
  refine (q16 _ (hI.below hBB)).mono ?_
  rintro e w16 ⟨Aq16, cq16, Ar16, cr16, rfl, hB⟩
  replace hb := hb.step hB
  replace hBB := hBB.trans (hB.mono hBB.size)
  clear hB
  go_wp2_with fail
  refine (q17 _ _ (hI.below hBB) hb).mono ?_
  rintro e w17 ⟨rfl, hB⟩
  replace hb := hb.step hB
  replace hBB := hBB.trans (hB.mono hBB.size)
  clear hB
  go_wp2_with fail
  refine (q18 _ _ (hI.below hBB) hb).mono ?_
  rintro e w18 ⟨rfl, hB⟩
  replace hb := hb.step hB
  replace hBB := hBB.trans (hB.mono hBB.size)
  clear hB
  clear hb
  go_wp2_with fail
  refine (q19 _ (hI.below hBB)).mono ?_
  rintro e w19 ⟨rfl, hB⟩
  replace hBB := hBB.trans (hB.mono hBB.size)
  clear hB
  go_wp2_with fail
  refine (plainN_any _ _).mono ?_
  rintro e w20 ⟨rfl, hB⟩
  replace hBB := hBB.trans (hB.mono hBB.size)
  clear hB
  go_wp2_with fail
  refine (plainN_any _ _).mono ?_
  rintro e w21 ⟨rfl, hB⟩
  replace hBB := hBB.trans (hB.mono hBB.size)
  clear hB
  go_wp2_with fail
  refine (q20 _ (hI.below hBB)).mono ?_
  rintro e w22 ⟨rfl, hB⟩
  replace hBB := hBB.trans (hB.mono hBB.size)
  clear hB
  go_wp2_with fail
  refine (plainN_any _ _).mono ?_
  rintro e w23 ⟨rfl, hB⟩
  replace hBB := hBB.trans (hB.mono hBB.size)
  clear hB
  go_wp2_with fail
  refine (plainN_any _ _).mono ?_
  rintro e w24 ⟨rfl, hB⟩
  replace hBB := hBB.trans (hB.mono hBB.size)
  clear hB
  go_wp2_with fail
  refine (q21 _ (hI.below hBB)).mono ?_
  rintro e w25 ⟨rfl, hB⟩
  replace hBB := hBB.trans (hB.mono hBB.size)
  clear hB
  go_wp2_with fail
  refine (plainN_any _ _).mono ?_
  rintro e w26 ⟨rfl, hB⟩
  replace hBB := hBB.trans (hB.mono hBB.size)
  clear hB
  go_wp2_with fail
  refine (plainN_any _ _).mono ?_
  rintro e w27 ⟨rfl, hB⟩
  replace hBB := hBB.trans (hB.mono hBB.size)
  clear hB
  go_wp2_with fail
  replace hBB := hBB.alloc hBB.size (.cells #[.bool false, .int .i64 1, .bool false, .int .i64 2147483648] 49)
  have u : SlF (World.alloc w27 (.cells #[.bool false, .int .i64 1, .bool false, .int .i64 2147483648] 49)) (some ⟨w27.heap.size, 0, none⟩) [(false, 1), (false, 2147483648)] := FullF.sl (Blk.new w27 49 #[.bool false, .int .i64 1, .bool false, .int .i64 2147483648])
  refine (q22 _ _ (hI.below hBB) u).mono ?_
  clear u
  rintro e w28 ⟨Aq28, cq28, rfl, hB⟩
  replace hBB := hBB.trans (hB.mono hBB.size)
  clear hB
  go_wp2_with fail
  refine (plainN_any _ _).mono ?_
  rintro e w29 ⟨rfl, hB⟩
  replace hBB := hBB.trans (hB.mono hBB.size)
  clear hB
  go_wp2_with fail
  replace hBB := hBB.alloc hBB.size (.cells #[.bool false, .int .i64 2147483648] 49)
  have u : SlF (World.alloc w29 (.cells #[.bool false, .int .i64 2147483648] 49)) (some ⟨w29.heap.size, 0, none⟩) [(false, 2147483648)] := FullF.sl (Blk.new w29 49 #[.bool false, .int .i64 2147483648])
  refine (q23 _ _ (hI.below hBB) u).mono ?_
  clear u
  rintro e w30 ⟨Aq30, cq30, rfl, hB⟩
  replace hBB := hBB.trans (hB.mono hBB.size)
  clear hB
  go_wp2_with fail
  replace hBB := hBB.alloc hBB.size O2
  have u := hSF w30
  refine (q24 hP _ _ (hI.below hBB) u).mono ?_
  clear u
  rintro e w31 ⟨Aq31, cq31, rfl, hB⟩
  replace hBB := hBB.trans (hB.mono hBB.size)
  clear hB
  clear hP hSF hmkF
  go_wp2
  obtain ⟨WF, hWF⟩ : ∃ W, (World.alloc (World.alloc (World.alloc (World.alloc (World.alloc (World.alloc (World.alloc (World.alloc (World.alloc (World.alloc (World.alloc (World.alloc (World.alloc (World.alloc (World.alloc (World.alloc (World.alloc (World.alloc (World.alloc (World.alloc (World.alloc (World.alloc (World.alloc (World.alloc (World.alloc (World.alloc (World.alloc (World.alloc (World.alloc w31 (.cells #[] 22)) (.cells #[] 3)) (.cells #[.slice (some ⟨w31.heap.size + 1, 0, none⟩) 0 0] 22)) (.cells #[.int .i64 1, .int .i64 2, .int .i64 3] 3)) (.cells #[.int .i64 3, .int .i64 3] 3)) (.cells #[.int .i64 6] 3)) (.cells #[.slice (some ⟨w31.heap.size + 3, 0, none⟩) 3 3, .slice (some ⟨w31.heap.size + 4, 0, none⟩) 2 2, .slice (some ⟨w31.heap.size + 5, 0, none⟩) 1 1] 22)) (.cells #[.int .i64 1, .int .i64 2] 3)) (.cells #[.slice (some ⟨w31.heap.size + 7, 0, none⟩) 2 2] 22)) (.cells #[.int .i64 1, .int .i64 2] 3)) (.cells #[.int .i64 4] 3)) (.cells #[.slice (some ⟨w31.heap.size + 9, 0, none⟩) 2 2, .slice (some ⟨w31.heap.size + 10, 0, none⟩) 1 1] 22)) (.cells #[.int .i64 1, .int .i64 2] 3)) (.cells #[.int .i64 3] 3)) (.cells #[] 3)) (.cells #[.slice (some ⟨w31.heap.size + 12, 0, none⟩) 2 2, .slice (some ⟨w31.heap.size + 13, 0, none⟩) 1 1, .slice (some ⟨w31.heap.size + 14, 0, none⟩) 0 0] 22)) (.cells #[.int .i64 1] 3)) (.cells #[.int .i64 1] 3)) (.cells #[.slice (some ⟨w31.heap.size + 16, 0, none⟩) 1 1, .slice (some ⟨w31.heap.size + 17, 0, none⟩) 1 1] 22)) (.cells #[.int .i64 2147483648] 3)) (.cells #[.slice (some ⟨w31.heap.size + 19, 0, none⟩) 1 1] 22)) (.cells #[.int .i64 1, .int .i64 2, .int .i64 3, .int .i64 4] 3)) (.cells #[.int .i64 3, .int .i64 7] 3)) (.cells #[.slice (some ⟨w31.heap.size + 21, 0, none⟩) 4 4, .slice (some ⟨w31.heap.size + 22, 0, none⟩) 2 2] 22)) (.cells #[.int .i64 1, .int .i64 2, .int .i64 3, .int .i64 4] 3)) (.cells #[.int .i64 3, .int .i64 7] 3)) (.cells #[.int .i64 11] 3)) (.cells #[.slice (some ⟨w31.heap.size + 24, 0, none⟩) 4 4, .slice (some ⟨w31.heap.size + 25, 0, none⟩) 2 2, .slice (some ⟨w31.heap.size + 26, 0, none⟩) 1 1] 22)) (.cells #[.slice none 0 0, .slice (some ⟨w31.heap.size, 0, none⟩) 0 0, .slice (some ⟨w31.heap.size + 2, 0, none⟩) 1 1, .slice (some ⟨w31.heap.size + 6, 0, none⟩) 3 3, .slice (some ⟨w31.heap.size + 8, 0, none⟩) 1 1, .slice (some ⟨w31.heap.size + 11, 0, none⟩) 2 2, .slice (some ⟨w31.heap.size + 15, 0, none⟩) 3 3, .slice (some ⟨w31.heap.size + 18, 0, none⟩) 2 2, .slice (some ⟨w31.heap.size + 20, 0, none⟩) 1 1, .slice (some ⟨w31.heap.size + 23, 0, none⟩) 2 2, .slice (some ⟨w31.heap.size + 27, 0, none⟩) 3 3] 25)) = W := ⟨_, rfl⟩
  have hBF : Below w31.heap.size w31 WF := by rw [← hWF]; exact Below.alloc (Below.alloc (Below.alloc (Below.alloc (Below.alloc (Below.alloc (Below.alloc (Below.alloc (Below.alloc (Below.alloc (Below.alloc (Below.alloc (Below.alloc (Below.alloc (Below.alloc (Below.alloc (Below.alloc (Below.alloc (Below.alloc (Below.alloc (Below.alloc (Below.alloc (Below.alloc (Below.alloc (Below.alloc (Below.alloc (Below.alloc (Below.alloc (Below.alloc (Below.refl _ _) (by simp <;> omega) _) (by simp <;> omega) _) (by simp <;> omega) _) (by simp <;> omega) _) (by simp <;> omega) _) (by simp <;> omega) _) (by simp <;> omega) _) (by simp <;> omega) _) (by simp <;> omega) _) (by simp <;> omega) _) (by simp <;> omega) _) (by simp <;> omega) _) (by simp <;> omega) _) (by simp <;> omega) _) (by simp <;> omega) _) (by simp <;> omega) _) (by simp <;> omega) _) (by simp <;> omega) _) (by simp <;> omega) _) (by simp <;> omega) _) (by simp <;> omega) _) (by simp <;> omega) _) (by simp <;> omega) _) (by simp <;> omega) _) (by simp <;> omega) _) (by simp <;> omega) _) (by simp <;> omega) _) (by simp <;> omega) _) (by simp <;> omega) _
  have bT : Blk WF (w31.heap.size + 28) 25 #[.slice none 0 0, .slice (some ⟨w31.heap.size, 0, none⟩) 0 0, .slice (some ⟨w31.heap.size + 2, 0, none⟩) 1 1, .slice (some ⟨w31.heap.size + 6, 0, none⟩) 3 3, .slice (some ⟨w31.heap.size + 8, 0, none⟩) 1 1, .slice (some ⟨w31.heap.size + 11, 0, none⟩) 2 2, .slice (some ⟨w31.heap.size + 15, 0, none⟩) 3 3, .slice (some ⟨w31.heap.size + 18, 0, none⟩) 2 2, .slice (some ⟨w31.heap.size + 20, 0, none⟩) 1 1, .slice (some ⟨w31.heap.size + 23, 0, none⟩) 2 2, .slice (some ⟨w31.heap.size + 27, 0, none⟩) 3 3] := by rw [← hWF]; exact Blk.new' _ 25 #[.slice none 0 0, .slice (some ⟨w31.heap.size, 0, none⟩) 0 0, .slice (some ⟨w31.heap.size + 2, 0, none⟩) 1 1, .slice (some ⟨w31.heap.size + 6, 0, none⟩) 3 3, .slice (some ⟨w31.heap.size + 8, 0, none⟩) 1 1, .slice (some ⟨w31.heap.size + 11, 0, none⟩) 2 2, .slice (some ⟨w31.heap.size + 15, 0, none⟩) 3 3, .slice (some ⟨w31.heap.size + 18, 0, none⟩) 2 2, .slice (some ⟨w31.heap.size + 20, 0, none⟩) 1 1, .slice (some ⟨w31.heap.size + 23, 0, none⟩) 2 2, .slice (some ⟨w31.heap.size + 27, 0, none⟩) 3 3] (w31.heap.size + 28) (by simp)
  have i1 : Sl WF (some ⟨w31.heap.size + 1, 0, none⟩) [] := by rw [← hWF]; exact Sl.al (Sl.al (Sl.al (Sl.al (Sl.al (Sl.al (Sl.al (Sl.al (Sl.al (Sl.al (Sl.al (Sl.al (Sl.al (Sl.al (Sl.al (Sl.al (Sl.al (Sl.al (Sl.al (Sl.al (Sl.al (Sl.al (Sl.al (Sl.al (Sl.al (Sl.al (Sl.al (Sl.lit' _ [] (w31.heap.size + 1) #[] (by simp) rfl) _) _) _) _) _) _) _) _) _) _) _) _) _) _) _) _) _) _) _) _) _) _) _) _) _) _) _
  have l2 : Blk WF (w31.heap.size + 2) 22 #[.slice (some ⟨w31.heap.size + 1, 0, none⟩) 0 0] := by rw [← hWF]; exact Blk.alloc (Blk.alloc (Blk.alloc (Blk.alloc (Blk.alloc (Blk.alloc (Blk.alloc (Blk.alloc (Blk.alloc (Blk.alloc (Blk.alloc (Blk.alloc (Blk.alloc (Blk.alloc (Blk.alloc (Blk.alloc (Blk.alloc (Blk.alloc (Blk.alloc (Blk.alloc (Blk.alloc (Blk.alloc (Blk.alloc (Blk.alloc (Blk.alloc (Blk.alloc (Blk.new' _ 22 #[.slice (some ⟨w31.heap.size + 1, 0, none⟩) 0 0] (w31.heap.size + 2) (by simp)) _) _) _) _) _) _) _) _) _) _) _) _) _) _) _) _) _) _) _) _) _) _) _) _) _) _
  have i3 : Sl WF (some ⟨w31.heap.size + 3, 0, none⟩) [1, 2, 3] := by rw [← hWF]; exact Sl.al (Sl.al (Sl.al (Sl.al (Sl.al (Sl.al (Sl.al (Sl.al (Sl.al (Sl.al (Sl.al (Sl.al (Sl.al (Sl.al (Sl.al (Sl.al (Sl.al (Sl.al (Sl.al (Sl.al (Sl.al (Sl.al (Sl.al (Sl.al (Sl.al (Sl.lit' _ [1, 2, 3] (w31.heap.size + 3) #[.int .i64 1, .int .i64 2, .int .i64 3] (by simp) rfl) _) _) _) _) _) _) _) _) _) _) _) _) _) _) _) _) _) _) _) _) _) _) _) _) _
  have i4 : Sl WF (some ⟨w31.heap.size + 4, 0, none⟩) [3, 3] := by rw [← hWF]; exact Sl.al (Sl.al (Sl.al (Sl.al (Sl.al (Sl.al (Sl.al (Sl.al (Sl.al (Sl.al (Sl.al (Sl.al (Sl.al (Sl.al (Sl.al (Sl.al (Sl.al (Sl.al (Sl.al (Sl.al (Sl.al (Sl.al (Sl.al (Sl.al (Sl.lit' _ [3, 3] (w31.heap.size + 4) #[.int .i64 3, .int .i64 3] (by simp) rfl) _) _) _) _) _) _) _) _) _) _) _) _) _) _) _) _) _) _) _) _) _) _) _) _
  have i5 : Sl WF (some ⟨w31.heap.size + 5, 0, none⟩) [6] := by rw [← hWF]; exact Sl.al (Sl.al (Sl.al (Sl.al (Sl.al (Sl.al (Sl.al (Sl.al (Sl.al (Sl.al (Sl.al (Sl.al (Sl.al (Sl.al (Sl.al (Sl.al (Sl.al (Sl.al (Sl.al (Sl.al (Sl.al (Sl.al (Sl.al (Sl.lit' _ [6] (w31.heap.size + 5) #[.int .i64 6] (by simp) rfl) _) _) _) _) _) _) _) _) _) _) _) _) _) _) _) _) _) _) _) _) _) _) _
  have l6 : Blk WF (w31.heap.size + 6) 22 #[.slice (some ⟨w31.heap.size + 3, 0, none⟩) 3 3, .slice (some ⟨w31.heap.size + 4, 0, none⟩) 2 2, .slice (some ⟨w31.heap.size + 5, 0, none⟩) 1 1] := by rw [← hWF]; exact Blk.alloc (Blk.alloc (Blk.alloc (Blk.alloc (Blk.alloc (Blk.alloc (Blk.alloc (Blk.alloc (Blk.alloc (Blk.alloc (Blk.alloc (Blk.alloc (Blk.alloc (Blk.alloc (Blk.alloc (Blk.alloc (Blk.alloc (Blk.alloc (Blk.alloc (Blk.alloc (Blk.alloc (Blk.alloc (Blk.new' _ 22 #[.slice (some ⟨w31.heap.size + 3, 0, none⟩) 3 3, .slice (some ⟨w31.heap.size + 4, 0, none⟩) 2 2, .slice (some ⟨w31.heap.size + 5, 0, none⟩) 1 1] (w31.heap.size + 6) (by simp)) _) _) _) _) _) _) _) _) _) _) _) _) _) _) _) _) _) _) _) _) _) _
  have i7 : Sl WF (some ⟨w31.heap.size + 7, 0, none⟩) [1, 2] := by rw [← hWF]; exact Sl.al (Sl.al (Sl.al (Sl.al (Sl.al (Sl.al (Sl.al (Sl.al (Sl.al (Sl.al (Sl.al (Sl.al (Sl.al (Sl.al (Sl.al (Sl.al (Sl.al (Sl.al (Sl.al (Sl.al (Sl.al (Sl.lit' _ [1, 2] (w31.heap.size + 7) #[.int .i64 1, .int .i64 2] (by simp) rfl) _) _) _) _) _) _) _) _) _) _) _) _) _) _) _) _) _) _) _) _) _
  have l8 : Blk WF (w31.heap.size + 8) 22 #[.slice (some ⟨w31.heap.size + 7, 0, none⟩) 2 2] := by rw [← hWF]; exact Blk.alloc (Blk.alloc (Blk.alloc (Blk.alloc (Blk.alloc (Blk.alloc (Blk.alloc (Blk.alloc (Blk.alloc (Blk.alloc (Blk.alloc (Blk.alloc (Blk.alloc (Blk.alloc (Blk.alloc (Blk.alloc (Blk.alloc (Blk.alloc (Blk.alloc (Blk.alloc (Blk.new' _ 22 #[.slice (some ⟨w31.heap.size + 7, 0, none⟩) 2 2] (w31.heap.size + 8) (by simp)) _) _) _) _) _) _) _) _) _) _) _) _) _) _) _) _) _) _) _) _
  have i9 : Sl WF (some ⟨w31.heap.size + 9, 0, none⟩) [1, 2] := by rw [← hWF]; exact Sl.al (Sl.al (Sl.al (Sl.al (Sl.al (Sl.al (Sl.al (Sl.al (Sl.al (Sl.al (Sl.al (Sl.al (Sl.al (Sl.al (Sl.al (Sl.al (Sl.al (Sl.al (Sl.al (Sl.lit' _ [1, 2] (w31.heap.size + 9) #[.int .i64 1, .int .i64 2] (by simp) rfl) _) _) _) _) _) _) _) _) _) _) _) _) _) _) _) _) _) _) _
  have i10 : Sl WF (some ⟨w31.heap.size + 10, 0, none⟩) [4] := by rw [← hWF]; exact Sl.al (Sl.al (Sl.al (Sl.al (Sl.al (Sl.al (Sl.al (Sl.al (Sl.al (Sl.al (Sl.al (Sl.al (Sl.al (Sl.al (Sl.al (Sl.al (Sl.al (Sl.al (Sl.lit' _ [4] (w31.heap.size + 10) #[.int .i64 4] (by simp) rfl) _) _) _) _) _) _) _) _) _) _) _) _) _) _) _) _) _) _
  have l11 : Blk WF (w31.heap.size + 11) 22 #[.slice (some ⟨w31.heap.size + 9, 0, none⟩) 2 2, .slice (some ⟨w31.heap.size + 10, 0, none⟩) 1 1] := by rw [← hWF]; exact Blk.alloc (Blk.alloc (Blk.alloc (Blk.alloc (Blk.alloc (Blk.alloc (Blk.alloc (Blk.alloc (Blk.alloc (Blk.alloc (Blk.alloc (Blk.alloc (Blk.alloc (Blk.alloc (Blk.alloc (Blk.alloc (Blk.alloc (Blk.new' _ 22 #[.slice (some ⟨w31.heap.size + 9, 0, none⟩) 2 2, .slice (some ⟨w31.heap.size + 10, 0, none⟩) 1 1] (w31.heap.size + 11) (by simp)) _) _) _) _) _) _) _) _) _) _) _) _) _) _) _) _) _
  have i12 : Sl WF (some ⟨w31.heap.size + 12, 0, none⟩) [1, 2] := by rw [← hWF]; exact Sl.al (Sl.al (Sl.al (Sl.al (Sl.al (Sl.al (Sl.al (Sl.al (Sl.al (Sl.al (Sl.al (Sl.al (Sl.al (Sl.al (Sl.al (Sl.al (Sl.lit' _ [1, 2] (w31.heap.size + 12) #[.int .i64 1, .int .i64 2] (by simp) rfl) _) _) _) _) _) _) _) _) _) _) _) _) _) _) _) _
  have i13 : Sl WF (some ⟨w31.heap.size + 13, 0, none⟩) [3] := by rw [← hWF]; exact Sl.al (Sl.al (Sl.al (Sl.al (Sl.al (Sl.al (Sl.al (Sl.al (Sl.al (Sl.al (Sl.al (Sl.al (Sl.al (Sl.al (Sl.al (Sl.lit' _ [3] (w31.heap.size + 13) #[.int .i64 3] (by simp) rfl) _) _) _) _) _) _) _) _) _) _) _) _) _) _) _
  have i14 : Sl WF (some ⟨w31.heap.size + 14, 0, none⟩) [] := by rw [← hWF]; exact Sl.al (Sl.al (Sl.al (Sl.al (Sl.al (Sl.al (Sl.al (Sl.al (Sl.al (Sl.al (Sl.al (Sl.al (Sl.al (Sl.al (Sl.lit' _ [] (w31.heap.size + 14) #[] (by simp) rfl) _) _) _) _) _) _) _) _) _) _) _) _) _) _
  have l15 : Blk WF (w31.heap.size + 15) 22 #[.slice (some ⟨w31.heap.size + 12, 0, none⟩) 2 2, .slice (some ⟨w31.heap.size + 13, 0, none⟩) 1 1, .slice (some ⟨w31.heap.size + 14, 0, none⟩) 0 0] := by rw [← hWF]; exact Blk.alloc (Blk.alloc (Blk.alloc (Blk.alloc (Blk.alloc (Blk.alloc (Blk.alloc (Blk.alloc (Blk.alloc (Blk.alloc (Blk.alloc (Blk.alloc (Blk.alloc (Blk.new' _ 22 #[.slice (some ⟨w31.heap.size + 12, 0, none⟩) 2 2, .slice (some ⟨w31.heap.size + 13, 0, none⟩) 1 1, .slice (some ⟨w31.heap.size + 14, 0, none⟩) 0 0] (w31.heap.size + 15) (by simp)) _) _) _) _) _) _) _) _) _) _) _) _) _
  have i16 : Sl WF (some ⟨w31.heap.size + 16, 0, none⟩) [1] := by rw [← hWF]; exact Sl.al (Sl.al (Sl.al (Sl.al (Sl.al (Sl.al (Sl.al (Sl.al (Sl.al (Sl.al (Sl.al (Sl.al (Sl.lit' _ [1] (w31.heap.size + 16) #[.int .i64 1] (by simp) rfl) _) _) _) _) _) _) _) _) _) _) _) _
  have i17 : Sl WF (some ⟨w31.heap.size + 17, 0, none⟩) [1] := by rw [← hWF]; exact Sl.al (Sl.al (Sl.al (Sl.al (Sl.al (Sl.al (Sl.al (Sl.al (Sl.al (Sl.al (Sl.al (Sl.lit' _ [1] (w31.heap.size + 17) #[.int .i64 1] (by simp) rfl) _) _) _) _) _) _) _) _) _) _) _
  have l18 : Blk WF (w31.heap.size + 18) 22 #[.slice (some ⟨w31.heap.size + 16, 0, none⟩) 1 1, .slice (some ⟨w31.heap.size + 17, 0, none⟩) 1 1] := by rw [← hWF]; exact Blk.alloc (Blk.alloc (Blk.alloc (Blk.alloc (Blk.alloc (Blk.alloc (Blk.alloc (Blk.alloc (Blk.alloc (Blk.alloc (Blk.new' _ 22 #[.slice (some ⟨w31.heap.size + 16, 0, none⟩) 1 1, .slice (some ⟨w31.heap.size + 17, 0, none⟩) 1 1] (w31.heap.size + 18) (by simp)) _) _) _) _) _) _) _) _) _) _
  have i19 : Sl WF (some ⟨w31.heap.size + 19, 0, none⟩) [2147483648] := by rw [← hWF]; exact Sl.al (Sl.al (Sl.al (Sl.al (Sl.al (Sl.al (Sl.al (Sl.al (Sl.al (Sl.lit' _ [2147483648] (w31.heap.size + 19) #[.int .i64 2147483648] (by simp) rfl) _) _) _) _) _) _) _) _) _
  have l20 : Blk WF (w31.heap.size + 20) 22 #[.slice (some ⟨w31.heap.size + 19, 0, none⟩) 1 1] := by rw [← hWF]; exact Blk.alloc (Blk.alloc (Blk.alloc (Blk.alloc (Blk.alloc (Blk.alloc (Blk.alloc (Blk.alloc (Blk.new' _ 22 #[.slice (some ⟨w31.heap.size + 19, 0, none⟩) 1 1] (w31.heap.size + 20) (by simp)) _) _) _) _) _) _) _) _
  have i21 : Sl WF (some ⟨w31.heap.size + 21, 0, none⟩) [1, 2, 3, 4] := by rw [← hWF]; exact Sl.al (Sl.al (Sl.al (Sl.al (Sl.al (Sl.al (Sl.al (Sl.lit' _ [1, 2, 3, 4] (w31.heap.size + 21) #[.int .i64 1, .int .i64 2, .int .i64 3, .int .i64 4] (by simp) rfl) _) _) _) _) _) _) _
  have i22 : Sl WF (some ⟨w31.heap.size + 22, 0, none⟩) [3, 7] := by rw [← hWF]; exact Sl.al (Sl.al (Sl.al (Sl.al (Sl.al (Sl.al (Sl.lit' _ [3, 7] (w31.heap.size + 22) #[.int .i64 3, .int .i64 7] (by simp) rfl) _) _) _) _) _) _
  have l23 : Blk WF (w31.heap.size + 23) 22 #[.slice (some ⟨w31.heap.size + 21, 0, none⟩) 4 4, .slice (some ⟨w31.heap.size + 22, 0, none⟩) 2 2] := by rw [← hWF]; exact Blk.alloc (Blk.alloc (Blk.alloc (Blk.alloc (Blk.alloc (Blk.new' _ 22 #[.slice (some ⟨w31.heap.size + 21, 0, none⟩) 4 4, .slice (some ⟨w31.heap.size + 22, 0, none⟩) 2 2] (w31.heap.size + 23) (by simp)) _) _) _) _) _
  have i24 : Sl WF (some ⟨w31.heap.size + 24, 0, none⟩) [1, 2, 3, 4] := by rw [← hWF]; exact Sl.al (Sl.al (Sl.al (Sl.al (Sl.lit' _ [1, 2, 3, 4] (w31.heap.size + 24) #[.int .i64 1, .int .i64 2, .int .i64 3, .int .i64 4] (by simp) rfl) _) _) _) _
  have i25 : Sl WF (some ⟨w31.heap.size + 25, 0, none⟩) [3, 7] := by rw [← hWF]; exact Sl.al (Sl.al (Sl.al (Sl.lit' _ [3, 7] (w31.heap.size + 25) #[.int .i64 3, .int .i64 7] (by simp) rfl) _) _) _
  have i26 : Sl WF (some ⟨w31.heap.size + 26, 0, none⟩) [11] := by rw [← hWF]; exact Sl.al (Sl.al (Sl.lit' _ [11] (w31.heap.size + 26) #[.int .i64 11] (by simp) rfl) _) _
  have l27 : Blk WF (w31.heap.size + 27) 22 #[.slice (some ⟨w31.heap.size + 24, 0, none⟩) 4 4, .slice (some ⟨w31.heap.size + 25, 0, none⟩) 2 2, .slice (some ⟨w31.heap.size + 26, 0, none⟩) 1 1] := by rw [← hWF]; exact Blk.alloc (Blk.new' _ 22 #[.slice (some ⟨w31.heap.size + 24, 0, none⟩) 4 4, .slice (some ⟨w31.heap.size + 25, 0, none⟩) 2 2, .slice (some ⟨w31.heap.size + 26, 0, none⟩) 1 1] (w31.heap.size + 27) (by simp)) _
  rw [hWF]
  clear hWF
  have TT : Hid (∀ k, k < 11 → ∃ A c L, WF.cell? ⟨w31.heap.size + 28, k, none⟩ = some (.slice A L.length c) ∧ Sll WF A L ∧ BadL L) := Lib.hid (fun k hk => by
    rw [bT.cell]
    match k, hk with
    | 0, _ => exact ⟨none, 0, [], rfl, (fun h => absurd h (by simp)), bad_nil⟩
    | 1, _ => exact ⟨some ⟨w31.heap.size, 0, none⟩, 0, [], rfl, (fun h => absurd h (by simp)), bad_nil⟩
    | 2, _ => exact ⟨some ⟨w31.heap.size + 2, 0, none⟩, 1, [[]], rfl, sll_k1 l2 i1, b2⟩
    | 3, _ => exact ⟨some ⟨w31.heap.size + 6, 0, none⟩, 3, [[1, 2, 3], [3, 3], [6]], rfl, sll_k3 l6 i3 i4 i5, b3⟩
    | 4, _ => exact ⟨some ⟨w31.heap.size + 8, 0, none⟩, 1, [[1, 2]], rfl, sll_k1 l8 i7, b4⟩
    | 5, _ => exact ⟨some ⟨w31.heap.size + 11, 0, none⟩, 2, [[1, 2], [4]], rfl, sll_k2 l11 i9 i10, b5⟩
    | 6, _ => exact ⟨some ⟨w31.heap.size + 15, 0, none⟩, 3, [[1, 2], [3], []], rfl, sll_k3 l15 i12 i13 i14, b6⟩
    | 7, _ => exact ⟨some ⟨w31.heap.size + 18, 0, none⟩, 2, [[1], [1]], rfl, sll_k2 l18 i16 i17, b7⟩
    | 8, _ => exact ⟨some ⟨w31.heap.size + 20, 0, none⟩, 1, [[2147483648]], rfl, sll_k1 l20 i19, b8⟩
    | 9, _ => exact ⟨some ⟨w31.heap.size + 23, 0, none⟩, 2, [[1, 2, 3, 4], [3, 7]], rfl, sll_k2 l23 i21 i22, b9⟩
    | 10, _ => exact ⟨some ⟨w31.heap.size + 27, 0, none⟩, 3, [[1, 2, 3, 4], [3, 7], [11]], rfl, sll_k3 l27 i24 i25 i26, b10⟩
    | k + 11, h => exact absurd h (by omega))
  have hBB' := hBB.trans (hBF.mono hBB.size)
  have hgT := bT.lt
  clear bT i1 i3 i4 i5 i7 i9 i10 i12 i13 i14 i16 i17 i19 i21 i22 i24 i25 i26 l2 l6 l8 l11 l15 l18 l20 l23 l27
  go_loopw [30] (fun i wr => ∃ k : Nat, k ≤ 11 ∧ i = .int .i64 k ∧ Below WF.heap.size WF wr) (fun i _ => 11 - (intOf i).toNat)
  case atStart => exact ⟨0, Nat.zero_le _, rfl, Below.refl _ _⟩
  case round =>
    obtain ⟨k, hk, rfl, hX⟩ := hrel
    by_cases hlt : k < 11
    · obtain ⟨A, c, LL, hcell, hS, hbad⟩ := TT.out k hlt
      have hcw := (hX.cell (p := ⟨w31.heap.size + 28, k, none⟩) hgT).trans hcell
      have CD := Lib.hid (fun W hW hs => q25 hbad A c W hW hs)
      obtain ⟨n, hn⟩ : ∃ n, LL.length = n := ⟨_, rfl⟩
      rw [hn] at hcw CD
      clear hn hcell hbad
      have k0 : (0 : Int) ≤ (k : Int) := by omega
      have k1 : (k : Int) < 11 := by omega
      go_wp2_with fail
      refine (CD.out _ (hI.below (hBB'.trans (hX.mono hBB'.size))) (hS.step hX)).mono ?_
      rintro e wx ⟨rfl, hBx⟩
      go_wp2
      go_roundw
      case rel => exact ⟨k + 1, by omega, by go_num, hX.trans (hBx.mono hX.size)⟩
      case measure => simp [intOf]; omega
    · obtain rfl : k = 11 := by omega
      simp only [show ((11 : Nat) : Int) = 11 from rfl]
      have hBB := hBB'.trans (hX.mono hBB'.size)
      clear hX TT hBB' hBF hgT hk hlt
      go_wp2_with fail
      replace hBB := hBB.alloc hBB.size (.cells #[.int .i64 1, .int .i64 2] 3)
      have u : Sl (World.alloc wr (.cells #[.int .i64 1, .int .i64 2] 3)) (some ⟨wr.heap.size, 0, none⟩) [1, 2] := Sl.lit' wr [1, 2] (wr.heap.size) #[.int .i64 1, .int .i64 2] (by simp) rfl
      replace u := u.al (.cells #[.int .i64 3] 3)
      replace hBB := hBB.alloc hBB.size (.cells #[.int .i64 3] 3)
      have v : Sl (World.alloc (World.alloc wr (.cells #[.int .i64 1, .int .i64 2] 3)) (.cells #[.int .i64 3] 3)) (some ⟨wr.heap.size + 1, 0, none⟩) [3] := Sl.lit' (World.alloc wr (.cells #[.int .i64 1, .int .i64 2] 3)) [3] (wr.heap.size + 1) #[.int .i64 3] (by simp) rfl
      replace u := u.al (.cells #[.slice (some ⟨wr.heap.size, 0, none⟩) 2 2, .slice (some ⟨wr.heap.size + 1, 0, none⟩) 1 1] 22)
      replace v := v.al (.cells #[.slice (some ⟨wr.heap.size, 0, none⟩) 2 2, .slice (some ⟨wr.heap.size + 1, 0, none⟩) 1 1] 22)
      replace hBB := hBB.alloc hBB.size (.cells #[.slice (some ⟨wr.heap.size, 0, none⟩) 2 2, .slice (some ⟨wr.heap.size + 1, 0, none⟩) 1 1] 22)
      have hg : Blk (World.alloc (World.alloc (World.alloc wr (.cells #[.int .i64 1, .int .i64 2] 3)) (.cells #[.int .i64 3] 3)) (.cells #[.slice (some ⟨wr.heap.size, 0, none⟩) 2 2, .slice (some ⟨wr.heap.size + 1, 0, none⟩) 1 1] 22)) (wr.heap.size + 2) 22 #[.slice (some ⟨wr.heap.size, 0, none⟩) 2 2, .slice (some ⟨wr.heap.size + 1, 0, none⟩) 1 1] := Blk.new' (World.alloc (World.alloc wr (.cells #[.int .i64 1, .int .i64 2] 3)) (.cells #[.int .i64 3] 3)) 22 #[.slice (some ⟨wr.heap.size, 0, none⟩) 2 2, .slice (some ⟨wr.heap.size + 1, 0, none⟩) 1 1] (wr.heap.size + 2) (by simp)
      have hL := sll_k2 hg u v
      refine (q26 _ _ (hI.below hBB) hL).mono ?_
      clear u
      clear v
      rintro e w37 ⟨rfl, hB⟩
      replace hBB := hBB.trans (hB.mono hBB.size)
      clear hB
      clear hg hL
      go_wp2_with fail
      replace hBB := hBB.alloc hBB.size (.cells #[.int .i64 1, .int .i64 2] 3)
      have u : Sl (World.alloc w37 (.cells #[.int .i64 1, .int .i64 2] 3)) (some ⟨w37.heap.size, 0, none⟩) [1, 2] := Sl.lit' w37 [1, 2] (w37.heap.size) #[.int .i64 1, .int .i64 2] (by simp) rfl
      replace u := u.al (.cells #[.int .i64 3] 3)
      replace hBB := hBB.alloc hBB.size (.cells #[.int .i64 3] 3)
      have v : Sl (World.alloc (World.alloc w37 (.cells #[.int .i64 1, .int .i64 2] 3)) (.cells #[.int .i64 3] 3)) (some ⟨w37.heap.size + 1, 0, none⟩) [3] := Sl.lit' (World.alloc w37 (.cells #[.int .i64 1, .int .i64 2] 3)) [3] (w37.heap.size + 1) #[.int .i64 3] (by simp) rfl
      replace u := u.al (.cells #[.slice (some ⟨w37.heap.size, 0, none⟩) 2 2, .slice (some ⟨w37.heap.size + 1, 0, none⟩) 1 1] 22)
      replace v := v.al (.cells #[.slice (some ⟨w37.heap.size, 0, none⟩) 2 2, .slice (some ⟨w37.heap.size + 1, 0, none⟩) 1 1] 22)
      replace hBB := hBB.alloc hBB.size (.cells #[.slice (some ⟨w37.heap.size, 0, none⟩) 2 2, .slice (some ⟨w37.heap.size + 1, 0, none⟩) 1 1] 22)
      have hg : Blk (World.alloc (World.alloc (World.alloc w37 (.cells #[.int .i64 1, .int .i64 2] 3)) (.cells #[.int .i64 3] 3)) (.cells #[.slice (some ⟨w37.heap.size, 0, none⟩) 2 2, .slice (some ⟨w37.heap.size + 1, 0, none⟩) 1 1] 22)) (w37.heap.size + 2) 22 #[.slice (some ⟨w37.heap.size, 0, none⟩) 2 2, .slice (some ⟨w37.heap.size + 1, 0, none⟩) 1 1] := Blk.new' (World.alloc (World.alloc w37 (.cells #[.int .i64 1, .int .i64 2] 3)) (.cells #[.int .i64 3] 3)) 22 #[.slice (some ⟨w37.heap.size, 0, none⟩) 2 2, .slice (some ⟨w37.heap.size + 1, 0, none⟩) 1 1] (w37.heap.size + 2) (by simp)
      have hL := sll_k2 hg u v
      refine (q27 _ _ (hI.below hBB) hL).mono ?_
      clear u
      clear v
      rintro e w38 ⟨rfl, hB⟩
      replace hBB := hBB.trans (hB.mono hBB.size)
      clear hB
      clear hg hL
      go_wp2_with fail
      replace hBB := hBB.alloc hBB.size (.cells #[.int .i64 1, .int .i64 2] 3)
      have u : Sl (World.alloc w38 (.cells #[.int .i64 1, .int .i64 2] 3)) (some ⟨w38.heap.size, 0, none⟩) [1, 2] := Sl.lit' w38 [1, 2] (w38.heap.size) #[.int .i64 1, .int .i64 2] (by simp) rfl
      replace u := u.al (.cells #[.int .i64 3] 3)
      replace hBB := hBB.alloc hBB.size (.cells #[.int .i64 3] 3)
      have v : Sl (World.alloc (World.alloc w38 (.cells #[.int .i64 1, .int .i64 2] 3)) (.cells #[.int .i64 3] 3)) (some ⟨w38.heap.size + 1, 0, none⟩) [3] := Sl.lit' (World.alloc w38 (.cells #[.int .i64 1, .int .i64 2] 3)) [3] (w38.heap.size + 1) #[.int .i64 3] (by simp) rfl
      replace u := u.al (.cells #[.slice (some ⟨w38.heap.size, 0, none⟩) 2 2, .slice (some ⟨w38.heap.size + 1, 0, none⟩) 1 1] 22)
      replace v := v.al (.cells #[.slice (some ⟨w38.heap.size, 0, none⟩) 2 2, .slice (some ⟨w38.heap.size + 1, 0, none⟩) 1 1] 22)
      replace hBB := hBB.alloc hBB.size (.cells #[.slice (some ⟨w38.heap.size, 0, none⟩) 2 2, .slice (some ⟨w38.heap.size + 1, 0, none⟩) 1 1] 22)
      have hg : Blk (World.alloc (World.alloc (World.alloc w38 (.cells #[.int .i64 1, .int .i64 2] 3)) (.cells #[.int .i64 3] 3)) (.cells #[.slice (some ⟨w38.heap.size, 0, none⟩) 2 2, .slice (some ⟨w38.heap.size + 1, 0, none⟩) 1 1] 22)) (w38.heap.size + 2) 22 #[.slice (some ⟨w38.heap.size, 0, none⟩) 2 2, .slice (some ⟨w38.heap.size + 1, 0, none⟩) 1 1] := Blk.new' (World.alloc (World.alloc w38 (.cells #[.int .i64 1, .int .i64 2] 3)) (.cells #[.int .i64 3] 3)) 22 #[.slice (some ⟨w38.heap.size, 0, none⟩) 2 2, .slice (some ⟨w38.heap.size + 1, 0, none⟩) 1 1] (w38.heap.size + 2) (by simp)
      have hL := sll_k2 hg u v
      refine (q28 _ _ (hI.below hBB) hL).mono ?_
      clear u
      clear v
      rintro e w39 ⟨Ahx, chx, rfl, hchx, hx, hB⟩
      replace hBB := hBB.trans (hB.mono hBB.size)
      clear hB
      clear hg hL
      go_wp2_with fail
      refine (q29 _ (hI.below hBB)).mono ?_
      rintro e w40 ⟨Ay, rfl, hy, hB⟩
      replace hx := hx.step hB
      replace hBB := hBB.trans (hB.mono hBB.size)
      clear hB
      go_wp2_with fail
      replace hx := hx.al (.cells #[.int .i64 5, .int .i64 3, .int .i64 9] 3)
      replace hy := hy.al (.cells #[.int .i64 5, .int .i64 3, .int .i64 9] 3)
      replace hBB := hBB.alloc hBB.size (.cells #[.int .i64 5, .int .i64 3, .int .i64 9] 3)
      have u : Sl (World.alloc w40 (.cells #[.int .i64 5, .int .i64 3, .int .i64 9] 3)) (some ⟨w40.heap.size, 0, none⟩) [5, 3, 9] := Sl.lit' w40 [5, 3, 9] (w40.heap.size) #[.int .i64 5, .int .i64 3, .int .i64 9] (by simp) rfl
      replace hx := hx.al (.cells #[.int .i64 3] 3)
      replace hy := hy.al (.cells #[.int .i64 3] 3)
      replace u := u.al (.cells #[.int .i64 3] 3)
      replace hBB := hBB.alloc hBB.size (.cells #[.int .i64 3] 3)
      have v : Sl (World.alloc (World.alloc w40 (.cells #[.int .i64 5, .int .i64 3, .int .i64 9] 3)) (.cells #[.int .i64 3] 3)) (some ⟨w40.heap.size + 1, 0, none⟩) [3] := Sl.lit' (World.alloc w40 (.cells #[.int .i64 5, .int .i64 3, .int .i64 9] 3)) [3] (w40.heap.size + 1) #[.int .i64 3] (by simp) rfl
      refine (q30 _ _ _ (hI.below hBB) u v).mono ?_
      clear u
      clear v
      rintro e w41 ⟨Ahzz, chzz, rfl, hchzz, hzz, hB⟩
      replace hx := hx.step hB
      replace hy := hy.step hB
      replace hBB := hBB.trans (hB.mono hBB.size)
      clear hB
      go_wp2_with fail
      replace hx := hx.al (.cells #[.int .i64 0] 3)
      replace hy := hy.al (.cells #[.int .i64 0] 3)
      replace hzz := hzz.al (.cells #[.int .i64 0] 3)
      replace hBB := hBB.alloc hBB.size (.cells #[.int .i64 0] 3)
      have u : Sl (World.alloc w41 (.cells #[.int .i64 0] 3)) (some ⟨w41.heap.size, 0, none⟩) [0] := Sl.lit' w41 [0] (w41.heap.size) #[.int .i64 0] (by simp) rfl
      refine (q31 _ _ (hI.below hBB) u).mono ?_
      clear u
      rintro e w42 ⟨Ahw, chw, rfl, hchw, hw, hB⟩
      replace hx := hx.step hB
      replace hy := hy.step hB
      replace hzz := hzz.step hB
      replace hBB := hBB.trans (hB.mono hBB.size)
      clear hB
      go_wp2_with fail
      refine (q32 _ (hI.below hBB)).mono ?_
      rintro e w43 ⟨Ahv, chv, rfl, hchv, hv, hB⟩
      replace hx := hx.step hB
      replace hy := hy.step hB
      replace hzz := hzz.step hB
      replace hw := hw.step hB
      replace hBB := hBB.trans (hB.mono hBB.size)
      clear hB
      clear hv
      go_wp2_with fail
      replace hx := hx.al (.cells #[.int .i64 7] 3)
      replace hy := hy.al (.cells #[.int .i64 7] 3)
      replace hzz := hzz.al (.cells #[.int .i64 7] 3)
      replace hw := hw.al (.cells #[.int .i64 7] 3)
      replace hBB := hBB.alloc hBB.size (.cells #[.int .i64 7] 3)
      have u : Sl (World.alloc w43 (.cells #[.int .i64 7] 3)) (some ⟨w43.heap.size, 0, none⟩) [7] := Sl.lit' w43 [7] (w43.heap.size) #[.int .i64 7] (by simp) rfl
      refine (q33 _ _ (hI.below hBB) u).mono ?_
      clear u
      rintro e w44 ⟨rfl, hB⟩
      replace hx := hx.step hB
      replace hy := hy.step hB
      replace hzz := hzz.step hB
      replace hw := hw.step hB
      replace hBB := hBB.trans (hB.mono hBB.size)
      clear hB
      go_wp2_with fail
      refine (q34 _ (hI.below hBB)).mono ?_
      rintro e w45 ⟨Ab, cb, Ac, cc, rfl, hB⟩
      replace hx := hx.step hB
      replace hy := hy.step hB
      replace hzz := hzz.step hB
      replace hw := hw.step hB
      replace hBB := hBB.trans (hB.mono hBB.size)
      clear hB
      go_wp2_with fail
      replace hx := hx.al (.cells #[.int .i64 2147483647, .int .i64 1] 3)
      replace hy := hy.al (.cells #[.int .i64 2147483647, .int .i64 1] 3)
      replace hzz := hzz.al (.cells #[.int .i64 2147483647, .int .i64 1] 3)
      replace hw := hw.al (.cells #[.int .i64 2147483647, .int .i64 1] 3)
      replace hBB := hBB.alloc hBB.size (.cells #[.int .i64 2147483647, .int .i64 1] 3)
      have u : Sl (World.alloc w45 (.cells #[.int .i64 2147483647, .int .i64 1] 3)) (some ⟨w45.heap.size, 0, none⟩) [2147483647, 1] := Sl.lit' w45 [2147483647, 1] (w45.heap.size) #[.int .i64 2147483647, .int .i64 1] (by simp) rfl
      replace hx := hx.al (.cells #[.int .i64 2] 3)
      replace hy := hy.al (.cells #[.int .i64 2] 3)
      replace hzz := hzz.al (.cells #[.int .i64 2] 3)
      replace hw := hw.al (.cells #[.int .i64 2] 3)
      replace u := u.al (.cells #[.int .i64 2] 3)
      replace hBB := hBB.alloc hBB.size (.cells #[.int .i64 2] 3)
      have v : Sl (World.alloc (World.alloc w45 (.cells #[.int .i64 2147483647, .int .i64 1] 3)) (.cells #[.int .i64 2] 3)) (some ⟨w45.heap.size + 1, 0, none⟩) [2] := Sl.lit' (World.alloc w45 (.cells #[.int .i64 2147483647, .int .i64 1] 3)) [2] (w45.heap.size + 1) #[.int .i64 2] (by simp) rfl
      refine (q35 _ _ _ (hI.below hBB) u v).mono ?_
      clear u
      clear v
      rintro e w46 ⟨Ahr, chr, rfl, hchr, hr, hB⟩
      replace hx := hx.step hB
      replace hy := hy.step hB
      replace hzz := hzz.step hB
      replace hw := hw.step hB
      replace hBB := hBB.trans (hB.mono hBB.size)
      clear hB
      go_wp2_with fail
      refine (plainN_any _ _).mono ?_
      rintro e w47 ⟨rfl, hB⟩
      replace hx := hx.step hB
      replace hy := hy.step hB
      replace hzz := hzz.step hB
      replace hw := hw.step hB
      replace hr := hr.step hB
      replace hBB := hBB.trans (hB.mono hBB.size)
      clear hB
      go_wp2_with fail
      refine (flaggedN_any _ _).mono ?_
      rintro e w48 ⟨rfl, hB⟩
      replace hx := hx.step hB
      replace hy := hy.step hB
      replace hzz := hzz.step hB
      replace hw := hw.step hB
      replace hr := hr.step hB
      replace hBB := hBB.trans (hB.mono hBB.size)
      clear hB
      go_wp2_with fail
      refine (q36 _ (hI.below hBB)).mono ?_
      rintro e w49 ⟨rfl, hB⟩
      replace hx := hx.step hB
      replace hy := hy.step hB
      replace hzz := hzz.step hB
      replace hw := hw.step hB
      replace hr := hr.step hB
      replace hBB := hBB.trans (hB.mono hBB.size)
      clear hB
      replace hx := hx.al (.cells #[.bool true, .int .i64 3] 49)
      replace hy := hy.al (.cells #[.bool true, .int .i64 3] 49)
      replace hzz := hzz.al (.cells #[.bool true, .int .i64 3] 49)
      replace hw := hw.al (.cells #[.bool true, .int .i64 3] 49)
      replace hr := hr.al (.cells #[.bool true, .int .i64 3] 49)
      replace hBB := hBB.alloc hBB.size (.cells #[.bool true, .int .i64 3] 49)
      have bp : Blk (World.alloc w49 (.cells #[.bool true, .int .i64 3] 49)) (w49.heap.size) 49 #[.bool true, .int .i64 3] := Blk.new w49 49 #[.bool true, .int .i64 3]
      go_wp2_with fail
      refine (plainN_any _ _).mono ?_
      rintro e w50 ⟨rfl, hB⟩
      replace hx := hx.step hB
      replace hy := hy.step hB
      replace hzz := hzz.step hB
      replace hw := hw.step hB
      replace hr := hr.step hB
      replace bp := bp.below hB bp.lt
      replace hBB := hBB.trans (hB.mono hBB.size)
      clear hB
      go_wp2_with fail
      refine (plainN_any _ _).mono ?_
      rintro e w51 ⟨rfl, hB⟩
      replace hx := hx.step hB
      replace hy := hy.step hB
      replace hzz := hzz.step hB
      replace hw := hw.step hB
      replace hr := hr.step hB
      replace bp := bp.below hB bp.lt
      replace hBB := hBB.trans (hB.mono hBB.size)
      clear hB
      go_wp2_with fail
      refine (q37 _ (hI.below hBB)).mono ?_
      rintro e w52 ⟨rfl, hB⟩
      replace hx := hx.step hB
      replace hy := hy.step hB
      replace hzz := hzz.step hB
      replace hw := hw.step hB
      replace hr := hr.step hB
      replace bp := bp.below hB bp.lt
      replace hBB := hBB.trans (hB.mono hBB.size)
      clear hB
      replace hx := hx.al (.cells #[.bool false, .int .i64 5] 49)
      replace hy := hy.al (.cells #[.bool false, .int .i64 5] 49)
      replace hzz := hzz.al (.cells #[.bool false, .int .i64 5] 49)
      replace hw := hw.al (.cells #[.bool false, .int .i64 5] 49)
      replace hr := hr.al (.cells #[.bool false, .int .i64 5] 49)
      replace bp := bp.alloc (.cells #[.bool false, .int .i64 5] 49)
      replace hBB := hBB.alloc hBB.size (.cells #[.bool false, .int .i64 5] 49)
      have bq : Blk (World.alloc w52 (.cells #[.bool false, .int .i64 5] 49)) (w52.heap.size) 49 #[.bool false, .int .i64 5] := Blk.new w52 49 #[.bool false, .int .i64 5]
      have HBB := Lib.hid hBB
      have c0bp : World.cell? (World.alloc w52 (.cells #[.bool false, .int .i64 5] 49)) ⟨w49.heap.size, 0, none⟩ = some (.bool true) := bp.cell 0
      have c1bp : World.cell? (World.alloc w52 (.cells #[.bool false, .int .i64 5] 49)) ⟨w49.heap.size, 1, none⟩ = some (.int .i64 3) := bp.cell 1
      have c0bq : World.cell? (World.alloc w52 (.cells #[.bool false, .int .i64 5] 49)) ⟨w52.heap.size, 0, none⟩ = some (.bool false) := bq.cell 0
      have c1bq : World.cell? (World.alloc w52 (.cells #[.bool false, .int .i64 5] 49)) ⟨w52.heap.size, 1, none⟩ = some (.int .i64 5) := bq.cell 1
      have lbp := bp.lt
      have lbq := bq.lt
      obtain ⟨KD, hKD⟩ : ∃ KD : List Kd, KD = [.val (.int .i64 2), .val (.bool true), .val (.bool true), .val (.int .i64 2), .val (.bool true), .val (.bool true), .val (.bool true), .val (.int .i64 0), .val (.bool true), .val (.bool true), .val (.bool true), .val (.slice Ahx 2 chx), .sl [0, 1], .val (.bool true), .val (.bool true), .val (.bool true), .val (.int .i64 0), .val (.bool true), .val (.bool true), .val (.bool true), .val (.slice Ay 1 1), .sl [2147483647], .sll [[2147483647]], .val (.bool true), .val (.bool true), .val (.bool true), .val (.int .i64 0), .val (.bool true), .val (.bool true), .val (.bool true), .val (.slice Ahzz 3 chzz), .sl [-2147483648, 5, 5], .val (.bool true), .val (.bool true), .val (.bool true), .val (.int .i64 0), .val (.bool true), .val (.bool true), .val (.bool true), .val (.slice Ahw 1 chw), .sl [2147483647], .val (.bool true), .val (.bool true), .val (.bool true), .val (.int .i64 0), .val (.bool true), .val (.bool true), .val (.bool true), .val (.slice Ahv 0 chv), .val (.int .i64 0), .val (.bool true), .val (.bool true), .val (.bool true), .val (.int .i64 0), .val (.bool true), .val (.bool true), .val (.bool true), .val (.int .i64 7), .val (.bool true), .val (.bool true), .val (.bool true), .val (.int .i64 0), .val (.bool true), .val (.bool true), .val (.bool true), .val (.slice Ab 0 cb), .val (.int .i64 0), .val (.slice Ac 0 cc), .val (.int .i64 0), .val (.int .i64 0), .val (.bool true), .val (.bool true), .val (.bool true), .val (.int .i64 0), .val (.bool true), .val (.bool true), .val (.bool true), .val (.slice Ahr 2 chr), .sl [2147483647, -2147483648], .val (.bool true), .val (.bool true), .val (.bool true), .val (.int .i64 0), .val (.bool true), .val (.bool true), .val (.bool true), .val (.agg #[.bool true, .int .i64 3]), .val (.agg #[.bool true, .int .i64 3]), .val (.bool true), .val (.bool true), .val (.bool true), .val (.int .i64 0), .val (.bool true), .val (.bool true), .val (.bool true), .val (.agg #[.bool false, .int .i64 5]), .val (.agg #[.bool false, .int .i64 5]), .val (.bool true), .val (.bool true), .val (.bool true), .val (.bool true), .val (.bool true), .val (.bool true), .val (.bool true), .val (.bool true)] := ⟨_, rfl⟩
      go_wp2
      refine wp_region_ow (fun k v W => (KD.getD k (.val undef)).R v W) (by kernel_rfl) (by kernel_rfl) (fun k v W W' h hb => Kd.mono h hb) ?_ ?_ ?_
      · subst hKD
        exact kd_guard (by kernel_rfl)
      · intro iK oK ho a W hW hdf hin hout
        subst hKD
        match iK, ho with
        | 0, ho =>
          obtain rfl := Option.some.inj ho
          have s4 : a.tmps.getD 4 undef = .int .i64 2 := hout 4 (noDst_spec (by kernel_rfl))
          refine .inl ⟨.int .i64 2, W, ?_, Below.refl _ _, rfl⟩
          go_simp
        | 1, ho =>
          obtain rfl := Option.some.inj ho
          have e0 : a.tmps.getD 389 undef = .int .i64 2 := hin 0 389 rfl (by kernel_rfl)
          refine .inl ⟨.bool true, W, ?_, Below.refl _ _, rfl⟩
          go_simp
        | 2, ho =>
          obtain rfl := Option.some.inj ho
          have e1 : a.tmps.getD 390 undef = .bool true := hin 1 390 rfl (by kernel_rfl)
          refine .inl ⟨.bool true, W, ?_, Below.refl _ _, rfl⟩
          go_simp
        | 3, ho =>
          obtain rfl := Option.some.inj ho
          have s6 : a.tmps.getD 6 undef = .int .i64 2 := hout 6 (noDst_spec (by kernel_rfl))
          refine .inl ⟨.int .i64 2, W, ?_, Below.refl _ _, rfl⟩
          go_simp
        | 4, ho =>
          obtain rfl := Option.some.inj ho
          have e3 : a.tmps.getD 392 undef = .int .i64 2 := hin 3 392 rfl (by kernel_rfl)
          refine .inl ⟨.bool true, W, ?_, Below.refl _ _, rfl⟩
          go_simp
        | 5, ho =>
          obtain rfl := Option.some.inj ho
          have e2 : a.tmps.getD 391 undef = .bool true := hin 2 391 rfl (by kernel_rfl)
          have e4 : a.tmps.getD 393 undef = .bool true := hin 4 393 rfl (by kernel_rfl)
          refine .inl ⟨.bool true, W, ?_, Below.refl _ _, rfl⟩
          go_simp
        | 6, ho =>
          obtain rfl := Option.some.inj ho
          have e5 : a.tmps.getD 394 undef = .bool true := hin 5 394 rfl (by kernel_rfl)
          refine .inl ⟨.bool true, W, ?_, Below.refl _ _, rfl⟩
          go_simp
        | 7, ho =>
          obtain rfl := Option.some.inj ho
          have s8 : a.tmps.getD 8 undef = .int .i64 0 := hout 8 (noDst_spec (by kernel_rfl))
          refine .inl ⟨.int .i64 0, W, ?_, Below.refl _ _, rfl⟩
          go_simp
        | 8, ho =>
          obtain rfl := Option.some.inj ho
          have e7 : a.tmps.getD 396 undef = .int .i64 0 := hin 7 396 rfl (by kernel_rfl)
          refine .inl ⟨.bool true, W, ?_, Below.refl _ _, rfl⟩
          go_simp
        | 9, ho =>
          obtain rfl := Option.some.inj ho
          have e6 : a.tmps.getD 395 undef = .bool true := hin 6 395 rfl (by kernel_rfl)
          have e8 : a.tmps.getD 397 undef = .bool true := hin 8 397 rfl (by kernel_rfl)
          refine .inl ⟨.bool true, W, ?_, Below.refl _ _, rfl⟩
          go_simp
        | 10, ho =>
          obtain rfl := Option.some.inj ho
          have e9 : a.tmps.getD 398 undef = .bool true := hin 9 398 rfl (by kernel_rfl)
          refine .inl ⟨.bool true, W, ?_, Below.refl _ _, rfl⟩
          go_simp
        | 11, ho =>
          obtain rfl := Option.some.inj ho
          have s33 : a.tmps.getD 33 undef = .slice Ahx 2 chx := hout 33 (noDst_spec (by kernel_rfl))
          refine .inl ⟨.slice Ahx 2 chx, W, ?_, Below.refl _ _, rfl⟩
          go_simp
        | 12, ho =>
          obtain rfl := Option.some.inj ho
          refine .inl ⟨.slice (some ⟨W.heap.size, 0, none⟩) 2 2, W.alloc (.cells #[.int .i64 0, .int .i64 1] 3), ?_, (Below.refl _ _).alloc (Nat.le_refl _) _, ⟨W.heap.size, rfl, Sl.lit' W _ _ _ rfl rfl⟩⟩
          go_simp
        | 13, ho =>
          obtain rfl := Option.some.inj ho
          have e11 : a.tmps.getD 400 undef = .slice Ahx 2 chx := hin 11 400 rfl (by kernel_rfl)
          obtain ⟨n12, e12, h12⟩ := hin 12 401 rfl (by kernel_rfl)
          have e12 : a.tmps.getD 401 undef = .slice (some ⟨n12, 0, none⟩) 2 2 := e12
          refine .inr ⟨14, #[.slice Ahx 2 chx, .slice (some ⟨n12, 0, none⟩) 2 2], W, ?_, ?_⟩
          · go_simp
          · refine (eq_lit Ahx (some ⟨n12, 0, none⟩) chx 2 2 [0, 1] W rfl (hx.step hW) h12 (by decide)).mono ?_
            rintro e W' ⟨rfl, hB⟩
            exact ⟨_, rfl, hB, rfl⟩
        | 14, ho =>
          obtain rfl := Option.some.inj ho
          have e10 : a.tmps.getD 399 undef = .bool true := hin 10 399 rfl (by kernel_rfl)
          have e13 : a.tmps.getD 402 undef = .bool true := hin 13 402 rfl (by kernel_rfl)
          refine .inl ⟨.bool true, W, ?_, Below.refl _ _, rfl⟩
          go_simp
        | 15, ho =>
          obtain rfl := Option.some.inj ho
          have e14 : a.tmps.getD 403 undef = .bool true := hin 14 403 rfl (by kernel_rfl)
          refine .inl ⟨.bool true, W, ?_, Below.refl _ _, rfl⟩
          go_simp
        | 16, ho =>
          obtain rfl := Option.some.inj ho
          have s10 : a.tmps.getD 10 undef = .int .i64 0 := hout 10 (noDst_spec (by kernel_rfl))
          refine .inl ⟨.int .i64 0, W, ?_, Below.refl _ _, rfl⟩
          go_simp
        | 17, ho =>
          obtain rfl := Option.some.inj ho
          have e16 : a.tmps.getD 405 undef = .int .i64 0 := hin 16 405 rfl (by kernel_rfl)
          refine .inl ⟨.bool true, W, ?_, Below.refl _ _, rfl⟩
          go_simp
        | 18, ho =>
          obtain rfl := Option.some.inj ho
          have e15 : a.tmps.getD 404 undef = .bool true := hin 15 404 rfl (by kernel_rfl)
          have e17 : a.tmps.getD 406 undef = .bool true := hin 17 406 rfl (by kernel_rfl)
          refine .inl ⟨.bool true, W, ?_, Below.refl _ _, rfl⟩
          go_simp
        | 19, ho =>
          obtain rfl := Option.some.inj ho
          have e18 : a.tmps.getD 407 undef = .bool true := hin 18 407 rfl (by kernel_rfl)
          refine .inl ⟨.bool true, W, ?_, Below.refl _ _, rfl⟩
          go_simp
        | 20, ho =>
          obtain rfl := Option.some.inj ho
          have s34 : a.tmps.getD 34 undef = .slice Ay 1 1 := hout 34 (noDst_spec (by kernel_rfl))
          refine .inl ⟨.slice Ay 1 1, W, ?_, Below.refl _ _, rfl⟩
          go_simp
        | 21, ho =>
          obtain rfl := Option.some.inj ho
          refine .inl ⟨.slice (some ⟨W.heap.size, 0, none⟩) 1 1, W.alloc (.cells #[.int .i64 2147483647] 3), ?_, (Below.refl _ _).alloc (Nat.le_refl _) _, ⟨W.heap.size, rfl, Sl.lit' W _ _ _ rfl rfl⟩⟩
          go_simp
        | 22, ho =>
          obtain rfl := Option.some.inj ho
          obtain ⟨n21, e21, h21⟩ := hin 21 410 rfl (by kernel_rfl)
          have e21 : a.tmps[410]?.getD undef = .slice (some ⟨n21, 0, none⟩) 1 1 := by rw [← Array.getD_eq_getD_getElem?]; exact e21
          refine .inl ⟨.slice (some ⟨W.heap.size, 0, none⟩) 1 1, W.alloc (.cells #[.slice (some ⟨n21, 0, none⟩) 1 1] 22), ?_, (Below.refl _ _).alloc (Nat.le_refl _) _, ⟨W.heap.size, rfl, sll_k1 (Blk.new W 22 _) (h21.al _)⟩⟩
          go_simp
        | 23, ho =>
          obtain rfl := Option.some.inj ho
          have e20 : a.tmps.getD 409 undef = .slice Ay 1 1 := hin 20 409 rfl (by kernel_rfl)
          obtain ⟨n22, e22, h22⟩ := hin 22 411 rfl (by kernel_rfl)
          have e22 : a.tmps.getD 411 undef = .slice (some ⟨n22, 0, none⟩) 1 1 := e22
          refine .inr ⟨32, #[.slice Ay 1 1, .slice (some ⟨n22, 0, none⟩) 1 1], W, ?_, ?_⟩
          · go_simp
          · refine (eqK Ay (some ⟨n22, 0, none⟩) 1 1 [[2147483647]] 1 W rfl (hy.step hW) h22 (by decide) (short_of (by kernel_rfl))).mono ?_
            rintro e W' ⟨rfl, hB⟩
            exact ⟨_, rfl, hB, rfl⟩
        | 24, ho =>
          obtain rfl := Option.some.inj ho
          have e19 : a.tmps.getD 408 undef = .bool true := hin 19 408 rfl (by kernel_rfl)
          have e23 : a.tmps.getD 412 undef = .bool true := hin 23 412 rfl (by kernel_rfl)
          refine .inl ⟨.bool true, W, ?_, Below.refl _ _, rfl⟩
          go_simp
        | 25, ho =>
          obtain rfl := Option.some.inj ho
          have e24 : a.tmps.getD 413 undef = .bool true := hin 24 413 rfl (by kernel_rfl)
          refine .inl ⟨.bool true, W, ?_, Below.refl _ _, rfl⟩
          go_simp
        | 26, ho =>
          obtain rfl := Option.some.inj ho
          have s12 : a.tmps.getD 12 undef = .int .i64 0 := hout 12 (noDst_spec (by kernel_rfl))
          refine .inl ⟨.int .i64 0, W, ?_, Below.refl _ _, rfl⟩
          go_simp
        | 27, ho =>
          obtain rfl := Option.some.inj ho
          have e26 : a.tmps.getD 415 undef = .int .i64 0 := hin 26 415 rfl (by kernel_rfl)
          refine .inl ⟨.bool true, W, ?_, Below.refl _ _, rfl⟩
          go_simp
        | 28, ho =>
          obtain rfl := Option.some.inj ho
          have e25 : a.tmps.getD 414 undef = .bool true := hin 25 414 rfl (by kernel_rfl)
          have e27 : a.tmps.getD 416 undef = .bool true := hin 27 416 rfl (by kernel_rfl)
          refine .inl ⟨.bool true, W, ?_, Below.refl _ _, rfl⟩
          go_simp
        | 29, ho =>
          obtain rfl := Option.some.inj ho
          have e28 : a.tmps.getD 417 undef = .bool true := hin 28 417 rfl (by kernel_rfl)
          refine .inl ⟨.bool true, W, ?_, Below.refl _ _, rfl⟩
          go_simp
        | 30, ho =>
          obtain rfl := Option.some.inj ho
          have s35 : a.tmps.getD 35 undef = .slice Ahzz 3 chzz := hout 35 (noDst_spec (by kernel_rfl))
          refine .inl ⟨.slice Ahzz 3 chzz, W, ?_, Below.refl _ _, rfl⟩
          go_simp
        | 31, ho =>
          obtain rfl := Option.some.inj ho
          refine .inl ⟨.slice (some ⟨W.heap.size, 0, none⟩) 3 3, W.alloc (.cells #[.int .i64 (-2147483648), .int .i64 5, .int .i64 5] 3), ?_, (Below.refl _ _).alloc (Nat.le_refl _) _, ⟨W.heap.size, rfl, Sl.lit' W _ _ _ rfl rfl⟩⟩
          go_simp
        | 32, ho =>
          obtain rfl := Option.some.inj ho
          have e30 : a.tmps.getD 419 undef = .slice Ahzz 3 chzz := hin 30 419 rfl (by kernel_rfl)
          obtain ⟨n31, e31, h31⟩ := hin 31 420 rfl (by kernel_rfl)
          have e31 : a.tmps.getD 420 undef = .slice (some ⟨n31, 0, none⟩) 3 3 := e31
          refine .inr ⟨14, #[.slice Ahzz 3 chzz, .slice (some ⟨n31, 0, none⟩) 3 3], W, ?_, ?_⟩
          · go_simp
          · refine (eq_lit Ahzz (some ⟨n31, 0, none⟩) chzz 3 3 [-2147483648, 5, 5] W rfl (hzz.step hW) h31 (by decide)).mono ?_
            rintro e W' ⟨rfl, hB⟩
            exact ⟨_, rfl, hB, rfl⟩
        | 33, ho =>
          obtain rfl := Option.some.inj ho
          have e29 : a.tmps.getD 418 undef = .bool true := hin 29 418 rfl (by kernel_rfl)
          have e32 : a.tmps.getD 421 undef = .bool true := hin 32 421 rfl (by kernel_rfl)
          refine .inl ⟨.bool true, W, ?_, Below.refl _ _, rfl⟩
          go_simp
        | 34, ho =>
          obtain rfl := Option.some.inj ho
          have e33 : a.tmps.getD 422 undef = .bool true := hin 33 422 rfl (by kernel_rfl)
          refine .inl ⟨.bool true, W, ?_, Below.refl _ _, rfl⟩
          go_simp
        | 35, ho =>
          obtain rfl := Option.some.inj ho
          have s14 : a.tmps.getD 14 undef = .int .i64 0 := hout 14 (noDst_spec (by kernel_rfl))
          refine .inl ⟨.int .i64 0, W, ?_, Below.refl _ _, rfl⟩
          go_simp
        | 36, ho =>
          obtain rfl := Option.some.inj ho
          have e35 : a.tmps.getD 424 undef = .int .i64 0 := hin 35 424 rfl (by kernel_rfl)
          refine .inl ⟨.bool true, W, ?_, Below.refl _ _, rfl⟩
          go_simp
        | 37, ho =>
          obtain rfl := Option.some.inj ho
          have e34 : a.tmps.getD 423 undef = .bool true := hin 34 423 rfl (by kernel_rfl)
          have e36 : a.tmps.getD 425 undef = .bool true := hin 36 425 rfl (by kernel_rfl)
          refine .inl ⟨.bool true, W, ?_, Below.refl _ _, rfl⟩
          go_simp
        | 38, ho =>
          obtain rfl := Option.some.inj ho
          have e37 : a.tmps.getD 426 undef = .bool true := hin 37 426 rfl (by kernel_rfl)
          refine .inl ⟨.bool true, W, ?_, Below.refl _ _, rfl⟩
          go_simp
        | 39, ho =>
          obtain rfl := Option.some.inj ho
          have s36 : a.tmps.getD 36 undef = .slice Ahw 1 chw := hout 36 (noDst_spec (by kernel_rfl))
          refine .inl ⟨.slice Ahw 1 chw, W, ?_, Below.refl _ _, rfl⟩
          go_simp
        | 40, ho =>
          obtain rfl := Option.some.inj ho
          refine .inl ⟨.slice (some ⟨W.heap.size, 0, none⟩) 1 1, W.alloc (.cells #[.int .i64 2147483647] 3), ?_, (Below.refl _ _).alloc (Nat.le_refl _) _, ⟨W.heap.size, rfl, Sl.lit' W _ _ _ rfl rfl⟩⟩
          go_simp
        | 41, ho =>
          obtain rfl := Option.some.inj ho
          have e39 : a.tmps.getD 428 undef = .slice Ahw 1 chw := hin 39 428 rfl (by kernel_rfl)
          obtain ⟨n40, e40, h40⟩ := hin 40 429 rfl (by kernel_rfl)
          have e40 : a.tmps.getD 429 undef = .slice (some ⟨n40, 0, none⟩) 1 1 := e40
          refine .inr ⟨14, #[.slice Ahw 1 chw, .slice (some ⟨n40, 0, none⟩) 1 1], W, ?_, ?_⟩
          · go_simp
          · refine (eq_lit Ahw (some ⟨n40, 0, none⟩) chw 1 1 [2147483647] W rfl (hw.step hW) h40 (by decide)).mono ?_
            rintro e W' ⟨rfl, hB⟩
            exact ⟨_, rfl, hB, rfl⟩
        | 42, ho =>
          obtain rfl := Option.some.inj ho
          have e38 : a.tmps.getD 427 undef = .bool true := hin 38 427 rfl (by kernel_rfl)
          have e41 : a.tmps.getD 430 undef = .bool true := hin 41 430 rfl (by kernel_rfl)
          refine .inl ⟨.bool true, W, ?_, Below.refl _ _, rfl⟩
          go_simp
        | 43, ho =>
          obtain rfl := Option.some.inj ho
          have e42 : a.tmps.getD 431 undef = .bool true := hin 42 431 rfl (by kernel_rfl)
          refine .inl ⟨.bool true, W, ?_, Below.refl _ _, rfl⟩
          go_simp
        | 44, ho =>
          obtain rfl := Option.some.inj ho
          have s16 : a.tmps.getD 16 undef = .int .i64 0 := hout 16 (noDst_spec (by kernel_rfl))
          refine .inl ⟨.int .i64 0, W, ?_, Below.refl _ _, rfl⟩
          go_simp
        | 45, ho =>
          obtain rfl := Option.some.inj ho
          have e44 : a.tmps.getD 433 undef = .int .i64 0 := hin 44 433 rfl (by kernel_rfl)
          refine .inl ⟨.bool true, W, ?_, Below.refl _ _, rfl⟩
          go_simp
        | 46, ho =>
          obtain rfl := Option.some.inj ho
          have e43 : a.tmps.getD 432 undef = .bool true := hin 43 432 rfl (by kernel_rfl)
          have e45 : a.tmps.getD 434 undef = .bool true := hin 45 434 rfl (by kernel_rfl)
          refine .inl ⟨.bool true, W, ?_, Below.refl _ _, rfl⟩
          go_simp
        | 47, ho =>
          obtain rfl := Option.some.inj ho
          have e46 : a.tmps.getD 435 undef = .bool true := hin 46 435 rfl (by kernel_rfl)
          refine .inl ⟨.bool true, W, ?_, Below.refl _ _, rfl⟩
          go_simp
        | 48, ho =>
          obtain rfl := Option.some.inj ho
          have s37 : a.tmps.getD 37 undef = .slice Ahv 0 chv := hout 37 (noDst_spec (by kernel_rfl))
          refine .inl ⟨.slice Ahv 0 chv, W, ?_, Below.refl _ _, rfl⟩
          go_simp
        | 49, ho =>
          obtain rfl := Option.some.inj ho
          have e48 : a.tmps.getD 437 undef = .slice Ahv 0 chv := hin 48 437 rfl (by kernel_rfl)
          refine .inl ⟨.int .i64 0, W, ?_, Below.refl _ _, rfl⟩
          go_simp
        | 50, ho =>
          obtain rfl := Option.some.inj ho
          have e49 : a.tmps.getD 438 undef = .int .i64 0 := hin 49 438 rfl (by kernel_rfl)
          refine .inl ⟨.bool true, W, ?_, Below.refl _ _, rfl⟩
          go_simp
        | 51, ho =>
          obtain rfl := Option.some.inj ho
          have e47 : a.tmps.getD 436 undef = .bool true := hin 47 436 rfl (by kernel_rfl)
          have e50 : a.tmps.getD 439 undef = .bool true := hin 50 439 rfl (by kernel_rfl)
          refine .inl ⟨.bool true, W, ?_, Below.refl _ _, rfl⟩
          go_simp
        | 52, ho =>
          obtain rfl := Option.some.inj ho
          have e51 : a.tmps.getD 440 undef = .bool true := hin 51 440 rfl (by kernel_rfl)
          refine .inl ⟨.bool true, W, ?_, Below.refl _ _, rfl⟩
          go_simp
        | 53, ho =>
          obtain rfl := Option.some.inj ho
          have s18 : a.tmps.getD 18 undef = .int .i64 0 := hout 18 (noDst_spec (by kernel_rfl))
          refine .inl ⟨.int .i64 0, W, ?_, Below.refl _ _, rfl⟩
          go_simp
        | 54, ho =>
          obtain rfl := Option.some.inj ho
          have e53 : a.tmps.getD 442 undef = .int .i64 0 := hin 53 442 rfl (by kernel_rfl)
          refine .inl ⟨.bool true, W, ?_, Below.refl _ _, rfl⟩
          go_simp
        | 55, ho =>
          obtain rfl := Option.some.inj ho
          have e52 : a.tmps.getD 441 undef = .bool true := hin 52 441 rfl (by kernel_rfl)
          have e54 : a.tmps.getD 443 undef = .bool true := hin 54 443 rfl (by kernel_rfl)
          refine .inl ⟨.bool true, W, ?_, Below.refl _ _, rfl⟩
          go_simp
        | 56, ho =>
          obtain rfl := Option.some.inj ho
          have e55 : a.tmps.getD 444 undef = .bool true := hin 55 444 rfl (by kernel_rfl)
          refine .inl ⟨.bool true, W, ?_, Below.refl _ _, rfl⟩
          go_simp
        | 57, ho =>
          obtain rfl := Option.some.inj ho
          have s38 : a.tmps.getD 38 undef = .int .i64 7 := hout 38 (noDst_spec (by kernel_rfl))
          refine .inl ⟨.int .i64 7, W, ?_, Below.refl _ _, rfl⟩
          go_simp
        | 58, ho =>
          obtain rfl := Option.some.inj ho
          have e57 : a.tmps.getD 446 undef = .int .i64 7 := hin 57 446 rfl (by kernel_rfl)
          refine .inl ⟨.bool true, W, ?_, Below.refl _ _, rfl⟩
          go_simp
        | 59, ho =>
          obtain rfl := Option.some.inj ho
          have e56 : a.tmps.getD 445 undef = .bool true := hin 56 445 rfl (by kernel_rfl)
          have e58 : a.tmps.getD 447 undef = .bool true := hin 58 447 rfl (by kernel_rfl)
          refine .inl ⟨.bool true, W, ?_, Below.refl _ _, rfl⟩
          go_simp
        | 60, ho =>
          obtain rfl := Option.some.inj ho
          have e59 : a.tmps.getD 448 undef = .bool true := hin 59 448 rfl (by kernel_rfl)
          refine .inl ⟨.bool true, W, ?_, Below.refl _ _, rfl⟩
          go_simp
        | 61, ho =>
          obtain rfl := Option.some.inj ho
          have s20 : a.tmps.getD 20 undef = .int .i64 0 := hout 20 (noDst_spec (by kernel_rfl))
          refine .inl ⟨.int .i64 0, W, ?_, Below.refl _ _, rfl⟩
          go_simp
        | 62, ho =>
          obtain rfl := Option.some.inj ho
          have e61 : a.tmps.getD 450 undef = .int .i64 0 := hin 61 450 rfl (by kernel_rfl)
          refine .inl ⟨.bool true, W, ?_, Below.refl _ _, rfl⟩
          go_simp
        | 63, ho =>
          obtain rfl := Option.some.inj ho
          have e60 : a.tmps.getD 449 undef = .bool true := hin 60 449 rfl (by kernel_rfl)
          have e62 : a.tmps.getD 451 undef = .bool true := hin 62 451 rfl (by kernel_rfl)
          refine .inl ⟨.bool true, W, ?_, Below.refl _ _, rfl⟩
          go_simp
        | 64, ho =>
          obtain rfl := Option.some.inj ho
          have e63 : a.tmps.getD 452 undef = .bool true := hin 63 452 rfl (by kernel_rfl)
          refine .inl ⟨.bool true, W, ?_, Below.refl _ _, rfl⟩
          go_simp
        | 65, ho =>
          obtain rfl := Option.some.inj ho
          have s39 : a.tmps.getD 39 undef = .slice Ab 0 cb := hout 39 (noDst_spec (by kernel_rfl))
          refine .inl ⟨.slice Ab 0 cb, W, ?_, Below.refl _ _, rfl⟩
          go_simp
        | 66, ho =>
          obtain rfl := Option.some.inj ho
          have e65 : a.tmps.getD 454 undef = .slice Ab 0 cb := hin 65 454 rfl (by kernel_rfl)
          refine .inl ⟨.int .i64 0, W, ?_, Below.refl _ _, rfl⟩
          go_simp
        | 67, ho =>
          obtain rfl := Option.some.inj ho
          have s40 : a.tmps.getD 40 undef = .slice Ac 0 cc := hout 40 (noDst_spec (by kernel_rfl))
          refine .inl ⟨.slice Ac 0 cc, W, ?_, Below.refl _ _, rfl⟩
          go_simp
        | 68, ho =>
          obtain rfl := Option.some.inj ho
          have e67 : a.tmps.getD 456 undef = .slice Ac 0 cc := hin 67 456 rfl (by kernel_rfl)
          refine .inl ⟨.int .i64 0, W, ?_, Below.refl _ _, rfl⟩
          go_simp
        | 69, ho =>
          obtain rfl := Option.some.inj ho
          have e66 : a.tmps.getD 455 undef = .int .i64 0 := hin 66 455 rfl (by kernel_rfl)
          have e68 : a.tmps.getD 457 undef = .int .i64 0 := hin 68 457 rfl (by kernel_rfl)
          have z0 : IntKind.i64.wrap 0 = 0 := IntWalk.i64_in _ (by omega)
          refine .inl ⟨.int .i64 0, W, ?_, Below.refl _ _, rfl⟩
          go_simp
        | 70, ho =>
          obtain rfl := Option.some.inj ho
          have e69 : a.tmps.getD 458 undef = .int .i64 0 := hin 69 458 rfl (by kernel_rfl)
          refine .inl ⟨.bool true, W, ?_, Below.refl _ _, rfl⟩
          go_simp
        | 71, ho =>
          obtain rfl := Option.some.inj ho
          have e64 : a.tmps.getD 453 undef = .bool true := hin 64 453 rfl (by kernel_rfl)
          have e70 : a.tmps.getD 459 undef = .bool true := hin 70 459 rfl (by kernel_rfl)
          refine .inl ⟨.bool true, W, ?_, Below.refl _ _, rfl⟩
          go_simp
        | 72, ho =>
          obtain rfl := Option.some.inj ho
          have e71 : a.tmps.getD 460 undef = .bool true := hin 71 460 rfl (by kernel_rfl)
          refine .inl ⟨.bool true, W, ?_, Below.refl _ _, rfl⟩
          go_simp
        | 73, ho =>
          obtain rfl := Option.some.inj ho
          have s22 : a.tmps.getD 22 undef = .int .i64 0 := hout 22 (noDst_spec (by kernel_rfl))
          refine .inl ⟨.int .i64 0, W, ?_, Below.refl _ _, rfl⟩
          go_simp
        | 74, ho =>
          obtain rfl := Option.some.inj ho
          have e73 : a.tmps.getD 462 undef = .int .i64 0 := hin 73 462 rfl (by kernel_rfl)
          refine .inl ⟨.bool true, W, ?_, Below.refl _ _, rfl⟩
          go_simp
        | 75, ho =>
          obtain rfl := Option.some.inj ho
          have e72 : a.tmps.getD 461 undef = .bool true := hin 72 461 rfl (by kernel_rfl)
          have e74 : a.tmps.getD 463 undef = .bool true := hin 74 463 rfl (by kernel_rfl)
          refine .inl ⟨.bool true, W, ?_, Below.refl _ _, rfl⟩
          go_simp
        | 76, ho =>
          obtain rfl := Option.some.inj ho
          have e75 : a.tmps.getD 464 undef = .bool true := hin 75 464 rfl (by kernel_rfl)
          refine .inl ⟨.bool true, W, ?_, Below.refl _ _, rfl⟩
          go_simp
        | 77, ho =>
          obtain rfl := Option.some.inj ho
          have s41 : a.tmps.getD 41 undef = .slice Ahr 2 chr := hout 41 (noDst_spec (by kernel_rfl))
          refine .inl ⟨.slice Ahr 2 chr, W, ?_, Below.refl _ _, rfl⟩
          go_simp
        | 78, ho =>
          obtain rfl := Option.some.inj ho
          refine .inl ⟨.slice (some ⟨W.heap.size, 0, none⟩) 2 2, W.alloc (.cells #[.int .i64 2147483647, .int .i64 (-2147483648)] 3), ?_, (Below.refl _ _).alloc (Nat.le_refl _) _, ⟨W.heap.size, rfl, Sl.lit' W _ _ _ rfl rfl⟩⟩
          go_simp
        | 79, ho =>
          obtain rfl := Option.some.inj ho
          have e77 : a.tmps.getD 466 undef = .slice Ahr 2 chr := hin 77 466 rfl (by kernel_rfl)
          obtain ⟨n78, e78, h78⟩ := hin 78 467 rfl (by kernel_rfl)
          have e78 : a.tmps.getD 467 undef = .slice (some ⟨n78, 0, none⟩) 2 2 := e78
          refine .inr ⟨14, #[.slice Ahr 2 chr, .slice (some ⟨n78, 0, none⟩) 2 2], W, ?_, ?_⟩
          · go_simp
          · refine (eq_lit Ahr (some ⟨n78, 0, none⟩) chr 2 2 [2147483647, -2147483648] W rfl (hr.step hW) h78 (by decide)).mono ?_
            rintro e W' ⟨rfl, hB⟩
            exact ⟨_, rfl, hB, rfl⟩
        | 80, ho =>
          obtain rfl := Option.some.inj ho
          have e76 : a.tmps.getD 465 undef = .bool true := hin 76 465 rfl (by kernel_rfl)
          have e79 : a.tmps.getD 468 undef = .bool true := hin 79 468 rfl (by kernel_rfl)
          refine .inl ⟨.bool true, W, ?_, Below.refl _ _, rfl⟩
          go_simp
        | 81, ho =>
          obtain rfl := Option.some.inj ho
          have e80 : a.tmps.getD 469 undef = .bool true := hin 80 469 rfl (by kernel_rfl)
          refine .inl ⟨.bool true, W, ?_, Below.refl _ _, rfl⟩
          go_simp
        | 82, ho =>
          obtain rfl := Option.some.inj ho
          have s24 : a.tmps.getD 24 undef = .int .i64 0 := hout 24 (noDst_spec (by kernel_rfl))
          refine .inl ⟨.int .i64 0, W, ?_, Below.refl _ _, rfl⟩
          go_simp
        | 83, ho =>
          obtain rfl := Option.some.inj ho
          have e82 : a.tmps.getD 471 undef = .int .i64 0 := hin 82 471 rfl (by kernel_rfl)
          refine .inl ⟨.bool true, W, ?_, Below.refl _ _, rfl⟩
          go_simp
        | 84, ho =>
          obtain rfl := Option.some.inj ho
          have e81 : a.tmps.getD 470 undef = .bool true := hin 81 470 rfl (by kernel_rfl)
          have e83 : a.tmps.getD 472 undef = .bool true := hin 83 472 rfl (by kernel_rfl)
          refine .inl ⟨.bool true, W, ?_, Below.refl _ _, rfl⟩
          go_simp
        | 85, ho =>
          obtain rfl := Option.some.inj ho
          have e84 : a.tmps.getD 473 undef = .bool true := hin 84 473 rfl (by kernel_rfl)
          refine .inl ⟨.bool true, W, ?_, Below.refl _ _, rfl⟩
          go_simp
        | 86, ho =>
          obtain rfl := Option.some.inj ho
          have s42 : a.tmps.getD 42 undef = .pointer (some ⟨w49.heap.size, 0, none⟩) := hout 42 (noDst_spec (by kernel_rfl))
          have q0 : W.cell? ⟨w49.heap.size, 0, none⟩ = some (.bool true) := (hW.cell (p := ⟨w49.heap.size, 0, none⟩) lbp).trans c0bp
          have q1 : W.cell? ⟨w49.heap.size, 1, none⟩ = some (.int .i64 3) := (hW.cell (p := ⟨w49.heap.size, 1, none⟩) lbp).trans c1bp
          refine .inl ⟨.agg #[.bool true, .int .i64 3], W, ?_, Below.refl _ _, rfl⟩
          go_simp
        | 87, ho =>
          obtain rfl := Option.some.inj ho
          refine .inr ⟨30, #[.int .i64 3], W, ?_, ?_⟩
          · go_simp
          · refine (flaggedN_any 3 W).mono ?_
            rintro e W' ⟨rfl, hB⟩
            exact ⟨_, rfl, hB, rfl⟩
        | 88, ho =>
          obtain rfl := Option.some.inj ho
          have e86 : a.tmps.getD 475 undef = .agg #[.bool true, .int .i64 3] := hin 86 475 rfl (by kernel_rfl)
          have e87 : a.tmps.getD 476 undef = .agg #[.bool true, .int .i64 3] := hin 87 476 rfl (by kernel_rfl)
          refine .inl ⟨.bool true, W, ?_, Below.refl _ _, rfl⟩
          go_simp
        | 89, ho =>
          obtain rfl := Option.some.inj ho
          have e85 : a.tmps.getD 474 undef = .bool true := hin 85 474 rfl (by kernel_rfl)
          have e88 : a.tmps.getD 477 undef = .bool true := hin 88 477 rfl (by kernel_rfl)
          refine .inl ⟨.bool true, W, ?_, Below.refl _ _, rfl⟩
          go_simp
        | 90, ho =>
          obtain rfl := Option.some.inj ho
          have e89 : a.tmps.getD 478 undef = .bool true := hin 89 478 rfl (by kernel_rfl)
          refine .inl ⟨.bool true, W, ?_, Below.refl _ _, rfl⟩
          go_simp
        | 91, ho =>
          obtain rfl := Option.some.inj ho
          have s26 : a.tmps.getD 26 undef = .int .i64 0 := hout 26 (noDst_spec (by kernel_rfl))
          refine .inl ⟨.int .i64 0, W, ?_, Below.refl _ _, rfl⟩
          go_simp
        | 92, ho =>
          obtain rfl := Option.some.inj ho
          have e91 : a.tmps.getD 480 undef = .int .i64 0 := hin 91 480 rfl (by kernel_rfl)
          refine .inl ⟨.bool true, W, ?_, Below.refl _ _, rfl⟩
          go_simp
        | 93, ho =>
          obtain rfl := Option.some.inj ho
          have e90 : a.tmps.getD 479 undef = .bool true := hin 90 479 rfl (by kernel_rfl)
          have e92 : a.tmps.getD 481 undef = .bool true := hin 92 481 rfl (by kernel_rfl)
          refine .inl ⟨.bool true, W, ?_, Below.refl _ _, rfl⟩
          go_simp
        | 94, ho =>
          obtain rfl := Option.some.inj ho
          have e93 : a.tmps.getD 482 undef = .bool true := hin 93 482 rfl (by kernel_rfl)
          refine .inl ⟨.bool true, W, ?_, Below.refl _ _, rfl⟩
          go_simp
        | 95, ho =>
          obtain rfl := Option.some.inj ho
          have s43 : a.tmps.getD 43 undef = .pointer (some ⟨w52.heap.size, 0, none⟩) := hout 43 (noDst_spec (by kernel_rfl))
          have q0 : W.cell? ⟨w52.heap.size, 0, none⟩ = some (.bool false) := (hW.cell (p := ⟨w52.heap.size, 0, none⟩) lbq).trans c0bq
          have q1 : W.cell? ⟨w52.heap.size, 1, none⟩ = some (.int .i64 5) := (hW.cell (p := ⟨w52.heap.size, 1, none⟩) lbq).trans c1bq
          refine .inl ⟨.agg #[.bool false, .int .i64 5], W, ?_, Below.refl _ _, rfl⟩
          go_simp
        | 96, ho =>
          obtain rfl := Option.some.inj ho
          refine .inr ⟨31, #[.int .i64 5], W, ?_, ?_⟩
          · go_simp
          · refine (plainN_any 5 W).mono ?_
            rintro e W' ⟨rfl, hB⟩
            exact ⟨_, rfl, hB, rfl⟩
        | 97, ho =>
          obtain rfl := Option.some.inj ho
          have e95 : a.tmps.getD 484 undef = .agg #[.bool false, .int .i64 5] := hin 95 484 rfl (by kernel_rfl)
          have e96 : a.tmps.getD 485 undef = .agg #[.bool false, .int .i64 5] := hin 96 485 rfl (by kernel_rfl)
          refine .inl ⟨.bool true, W, ?_, Below.refl _ _, rfl⟩
          go_simp
        | 98, ho =>
          obtain rfl := Option.some.inj ho
          have e94 : a.tmps.getD 483 undef = .bool true := hin 94 483 rfl (by kernel_rfl)
          have e97 : a.tmps.getD 486 undef = .bool true := hin 97 486 rfl (by kernel_rfl)
          refine .inl ⟨.bool true, W, ?_, Below.refl _ _, rfl⟩
          go_simp
        | 99, ho =>
          obtain rfl := Option.some.inj ho
          have e98 : a.tmps.getD 487 undef = .bool true := hin 98 487 rfl (by kernel_rfl)
          refine .inl ⟨.bool true, W, ?_, Below.refl _ _, rfl⟩
          go_simp
        | 100, ho =>
          obtain rfl := Option.some.inj ho
          have e99 : a.tmps.getD 488 undef = .bool true := hin 99 488 rfl (by kernel_rfl)
          refine .inl ⟨.bool true, W, ?_, Below.refl _ _, rfl⟩
          go_simp
        | 101, ho =>
          obtain rfl := Option.some.inj ho
          have e100 : a.tmps.getD 489 undef = .bool true := hin 100 489 rfl (by kernel_rfl)
          refine .inl ⟨.bool true, W, ?_, Below.refl _ _, rfl⟩
          go_simp
        | 102, ho =>
          obtain rfl := Option.some.inj ho
          refine .inr ⟨18, #[], W, ?_, ?_⟩
          · go_simp
          · refine (joined_any W (hI.below (HBB.out.trans (hW.mono HBB.out.size)))).mono ?_
            rintro e W' ⟨rfl, hB⟩
            exact ⟨_, rfl, hB, rfl⟩
        | 103, ho =>
          obtain rfl := Option.some.inj ho
          have e101 : a.tmps.getD 490 undef = .bool true := hin 101 490 rfl (by kernel_rfl)
          have e102 : a.tmps.getD 491 undef = .bool true := hin 102 491 rfl (by kernel_rfl)
          refine .inl ⟨.bool true, W, ?_, Below.refl _ _, rfl⟩
          go_simp
        | 104, ho =>
          obtain rfl := Option.some.inj ho
          have e103 : a.tmps.getD 492 undef = .bool true := hin 103 492 rfl (by kernel_rfl)
          refine .inl ⟨.bool true, W, ?_, Below.refl _ _, rfl⟩
          go_simp
        | iK + 105, ho => cases ho
      · intro a W hW hR hout hsz hdf
        subst hKD
        have e0 : a.tmps.getD 0 undef = .bool true := hR 104 0 rfl
        go_wp2
        rw [Array.getD_eq_getD_getElem?] at e0
        refine bodyPost_ret (v := .bool true) ?_ hdf ⟨rfl, HBB.out.trans (hW.mono HBB.out.size)⟩
        simp [results, Tryd.f8, go_sem, e0]

/-! ### the row and the card -/
set_option maxRecDepth 100000
theorem own : ownKnob Tryd.prog.godebug = none := by kernel_rfl
theorem door_met (os : Os) (args : Array Value) : laidMetH Tryd.prog Rows.scanKnownRow.laid ((World.doorLaid Tryd.prog 61 os).forCall (fun _ _ => 0) ⟨#[], args, []⟩).memory :=
  laidMetH_of_parts3 (fuel := 8) (laidMet_of_run' 8 (by kernel_rfl) (by kernel_rfl)) (by kernel_rfl) (by kernel_rfl)
theorem lifted (os : Os) (started : os.Started) (H : Type) (enc : TypeId × Value → H) :
    ReturnsInHanded {} Tryd.checked os 8 .any (fun w args => (Rows.scanKnownSpec.pre enc Tryd.prog Tryd.f8 [] false w args ∧ laidMetH Tryd.prog Rows.scanKnownRow.laid w) ∧ sizedMet enc Tryd.prog Tryd.f8 (OpenSpec.ofChange Rows.scanKnownSpec) false w args)
      (Rows.scanKnownSpec.post enc Tryd.prog Tryd.f8 false true false false) := by
  refine returnsInHanded_of_change_and (C := Tryd.checked) (X := fun w _ => laidMetH Tryd.prog Rows.scanKnownRow.laid w) (fun _ _ _ hh h => h.of_heap hh) own started (by kernel_rfl) Tryd.func8
    (ChangeSpec.witness_shaped (enc := enc) (C := Tryd.checked) (os := os) (X := fun w _ => laidMetH Tryd.prog Rows.scanKnownRow.laid w) false (World.doorLaid Tryd.prog 61 os) #[] 8 rfl (World.shaped_of_RefB (by kernel_rfl) (by kernel_rfl)) (by kernel_rfl) (by kernel_rfl) (by kernel_rfl) (door_met os _)) ?_
  intro W base args ds gs before hval0 hW _ _ hL _
  have hval : ∀ (j : Nat) t v, Tryd.f8.params[j]? = some t → args[j]? = some v → Value.okWide Tryd.prog W .any base t v := hval0
  have hW' := hW
  obtain ⟨p, q, hA0, hV, rfl, hfz, hnd⟩ := hW
  have hA : DataW.TrodAll enc Tryd.prog W 0 (fun _ => true) true Tryd.f8.params.toList args.toList ds p := hA0
  rw [Tryd.params8] at hA hval
  obtain ⟨hargs, rfl, rfl⟩ := trodAll_nil hA
  obtain rfl : args = #[] := by cases args; simp_all
  obtain ⟨rfl, rfl⟩ := trodVars_none hV
  clear hA0 hval0
  refine (walk W (of_laid hL)).mono fun e W' ⟨he, hB⟩ => ?_
  subst he
  exact ⟨_, rfl, _, _, _, [], [], [], hW', trodAll_cons_mk (shut_bool Tryd.underlying4 _) trodAll_mk0, trodAll_mk0, rfl, hB.frame _, fun h => by cases h⟩
theorem holds : Rows.ScanKnownSaid :=
  OpenClaim.holds_of_wide 8 Tryd.f8 rfl rfl rfl rfl rfl rfl rfl ⟨rfl, rfl, rfl, rfl, rfl⟩ rfl rfl rfl rfl rfl (by kernel_rfl) Tryd.func8 (by kernel_rfl)
    (of_decide_eq_true (by kernel_rfl)) (by unfold Func.isWrapper; first | (rw [if_pos (by decide +kernel)]; kernel_rfl) | (rw [if_neg (by decide +kernel)]; exact ⟨rfl, rfl⟩))
    (fun os started H enc _ => lifted os started H enc)
theorem proved : Rows.ScanKnownCardSaid :=
  Claim7.holds_tied_plain_at .later [] [.data] true (true, "165e170aa6ce182620764f5d03f9346384cc021ccbd43512c2f1c96f23b5a8e5") false
    holds (fun _ h => by cases h) (by kernel_rfl) (fun _ h => by cases h) scanKnown_row_tie rfl ⟨rfl, rfl⟩ (by kernel_rfl) rfl
    (fun f fn hf hfn => by
      obtain rfl : f = 8 := Option.some.inj ((show Tryd.prog.funcNamed "sheafworks/sheafworkslaw05.ScanKnown" = some 8 by kernel_rfl).symm.trans hf) |>.symm
      obtain rfl : fn = Tryd.f8 := (Option.some.inj (Tryd.func8.symm.trans hfn)).symm
      exact ⟨by kernel_rfl, fun j t ht => by
        rw [Tryd.params8] at ht
        simp at ht⟩)
    (by kernel_rfl)
#print axioms proved
end Go.Proofs.YtecpanppnljkhaaDoor.scanKnown
