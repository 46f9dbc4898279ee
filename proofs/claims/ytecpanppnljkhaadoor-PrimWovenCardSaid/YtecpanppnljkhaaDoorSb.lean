/- The chapter's examples: done returns true. -/
import Derived.Test.YtecpanppnljkhaaDoorSa
namespace Go.Proofs.YtecpanppnljkhaaDoor
set_option linter.unusedVariables false
open Go.RowKit Go.Shelf
theorem Sl.lit' (w : World) (zs : List Int) (n : Nat) (cs : Array Value) (hn : n = w.heap.size) (hc : (zs.map (Value.int .i64)).toArray = cs) : Sl (w.alloc (.cells cs 3)) (some ⟨n, 0, none⟩) zs := by
  subst hn; subst hc; exact Sl.lit w zs
theorem Blk.new' (w : World) (t : TypeId) (cs : Array Value) (n : Nat) (hn : n = w.heap.size) : Blk (w.alloc (.cells cs t)) n t cs := by
  subst hn; exact Blk.new w t cs
set_option maxRecDepth 100000 in
set_option maxHeartbeats 40000000 in
theorem done_any (w : World) (hI : Inv w) : Calls Tryd.prog 15 #[] w (Good w) := by
  go_enter Tryd.func15, Tryd.ntmps15
  have hBB : Below w.heap.size w w := Below.refl _ _
  go_wp2_with fail
  have u0 : Sl (World.alloc w (.cells #[.int .i64 5, .int .i64 1] 3)) (some ⟨w.heap.size, 0, none⟩) [5, 1] := Sl.lit' w [5, 1] (w.heap.size) #[.int .i64 5, .int .i64 1] (by simp) rfl
  have hBB := hBB.alloc hBB.size (.cells #[.int .i64 5, .int .i64 1] 3)
  have u0 := u0.al (.cells #[.int .i64 2, .int .i64 3] 3)
  have u1 : Sl (World.alloc (World.alloc w (.cells #[.int .i64 5, .int .i64 1] 3)) (.cells #[.int .i64 2, .int .i64 3] 3)) (some ⟨w.heap.size + 1, 0, none⟩) [2, 3] := Sl.lit' (World.alloc w (.cells #[.int .i64 5, .int .i64 1] 3)) [2, 3] (w.heap.size + 1) #[.int .i64 2, .int .i64 3] (by simp) rfl
  have hBB := hBB.alloc hBB.size (.cells #[.int .i64 2, .int .i64 3] 3)
  refine (kbin _ _ _ (hI.below hBB) u0 u1).mono ?_
  clear u0
  clear u1
  rintro e w1 ⟨Aha, cha, rfl, hcha, ha, hB⟩
  have hBB := hBB.trans (hB.mono hBB.size)
  go_wp2_with fail
  have ha := ha.al (.cells #[.int .i64 1, .int .i64 0, .int .i64 (-2)] 3)
  have u0 : Sl (World.alloc w1 (.cells #[.int .i64 1, .int .i64 0, .int .i64 (-2)] 3)) (some ⟨w1.heap.size, 0, none⟩) [1, 0, -2] := Sl.lit' w1 [1, 0, -2] (w1.heap.size) #[.int .i64 1, .int .i64 0, .int .i64 (-2)] (by simp) rfl
  have hBB := hBB.alloc hBB.size (.cells #[.int .i64 1, .int .i64 0, .int .i64 (-2)] 3)
  have ha := ha.al (.cells #[.int .i64 1, .int .i64 2, .int .i64 3] 3)
  have u0 := u0.al (.cells #[.int .i64 1, .int .i64 2, .int .i64 3] 3)
  have u1 : Sl (World.alloc (World.alloc w1 (.cells #[.int .i64 1, .int .i64 0, .int .i64 (-2)] 3)) (.cells #[.int .i64 1, .int .i64 2, .int .i64 3] 3)) (some ⟨w1.heap.size + 1, 0, none⟩) [1, 2, 3] := Sl.lit' (World.alloc w1 (.cells #[.int .i64 1, .int .i64 0, .int .i64 (-2)] 3)) [1, 2, 3] (w1.heap.size + 1) #[.int .i64 1, .int .i64 2, .int .i64 3] (by simp) rfl
  have hBB := hBB.alloc hBB.size (.cells #[.int .i64 1, .int .i64 2, .int .i64 3] 3)
  have ha := ha.al (.cells #[.int .i64 4, .int .i64 5, .int .i64 6] 3)
  have u0 := u0.al (.cells #[.int .i64 4, .int .i64 5, .int .i64 6] 3)
  have u1 := u1.al (.cells #[.int .i64 4, .int .i64 5, .int .i64 6] 3)
  have u2 : Sl (World.alloc (World.alloc (World.alloc w1 (.cells #[.int .i64 1, .int .i64 0, .int .i64 (-2)] 3)) (.cells #[.int .i64 1, .int .i64 2, .int .i64 3] 3)) (.cells #[.int .i64 4, .int .i64 5, .int .i64 6] 3)) (some ⟨w1.heap.size + 2, 0, none⟩) [4, 5, 6] := Sl.lit' (World.alloc (World.alloc w1 (.cells #[.int .i64 1, .int .i64 0, .int .i64 (-2)] 3)) (.cells #[.int .i64 1, .int .i64 2, .int .i64 3] 3)) [4, 5, 6] (w1.heap.size + 2) #[.int .i64 4, .int .i64 5, .int .i64 6] (by simp) rfl
  have hBB := hBB.alloc hBB.size (.cells #[.int .i64 4, .int .i64 5, .int .i64 6] 3)
  refine (kpick _ _ _ _ u0 u1 u2).mono ?_
  clear u0
  clear u1
  clear u2
  rintro e w2 ⟨Ahb, chb, rfl, hchb, hb, hB⟩
  have ha := ha.step hB
  have hBB := hBB.trans (hB.mono hBB.size)
  go_wp2_with fail
  have ha := ha.al (.cells #[.int .i64 0, .int .i64 1, .int .i64 1, .int .i64 0] 3)
  have hb := hb.al (.cells #[.int .i64 0, .int .i64 1, .int .i64 1, .int .i64 0] 3)
  have u0 : Sl (World.alloc w2 (.cells #[.int .i64 0, .int .i64 1, .int .i64 1, .int .i64 0] 3)) (some ⟨w2.heap.size, 0, none⟩) [0, 1, 1, 0] := Sl.lit' w2 [0, 1, 1, 0] (w2.heap.size) #[.int .i64 0, .int .i64 1, .int .i64 1, .int .i64 0] (by simp) rfl
  have hBB := hBB.alloc hBB.size (.cells #[.int .i64 0, .int .i64 1, .int .i64 1, .int .i64 0] 3)
  have ha := ha.al (.cells #[.int .i64 1, .int .i64 2] 3)
  have hb := hb.al (.cells #[.int .i64 1, .int .i64 2] 3)
  have u0 := u0.al (.cells #[.int .i64 1, .int .i64 2] 3)
  have u1 : Sl (World.alloc (World.alloc w2 (.cells #[.int .i64 0, .int .i64 1, .int .i64 1, .int .i64 0] 3)) (.cells #[.int .i64 1, .int .i64 2] 3)) (some ⟨w2.heap.size + 1, 0, none⟩) [1, 2] := Sl.lit' (World.alloc w2 (.cells #[.int .i64 0, .int .i64 1, .int .i64 1, .int .i64 0] 3)) [1, 2] (w2.heap.size + 1) #[.int .i64 1, .int .i64 2] (by simp) rfl
  have hBB := hBB.alloc hBB.size (.cells #[.int .i64 1, .int .i64 2] 3)
  have ha := ha.al (.cells #[.int .i64 8, .int .i64 9] 3)
  have hb := hb.al (.cells #[.int .i64 8, .int .i64 9] 3)
  have u0 := u0.al (.cells #[.int .i64 8, .int .i64 9] 3)
  have u1 := u1.al (.cells #[.int .i64 8, .int .i64 9] 3)
  have u2 : Sl (World.alloc (World.alloc (World.alloc w2 (.cells #[.int .i64 0, .int .i64 1, .int .i64 1, .int .i64 0] 3)) (.cells #[.int .i64 1, .int .i64 2] 3)) (.cells #[.int .i64 8, .int .i64 9] 3)) (some ⟨w2.heap.size + 2, 0, none⟩) [8, 9] := Sl.lit' (World.alloc (World.alloc w2 (.cells #[.int .i64 0, .int .i64 1, .int .i64 1, .int .i64 0] 3)) (.cells #[.int .i64 1, .int .i64 2] 3)) [8, 9] (w2.heap.size + 2) #[.int .i64 8, .int .i64 9] (by simp) rfl
  have hBB := hBB.alloc hBB.size (.cells #[.int .i64 8, .int .i64 9] 3)
  refine (kmerge _ _ _ _ u0 u1 u2).mono ?_
  clear u0
  clear u1
  clear u2
  rintro e w3 ⟨Ahc, chc, rfl, hchc, hc, hB⟩
  have ha := ha.step hB
  have hb := hb.step hB
  have hBB := hBB.trans (hB.mono hBB.size)
  go_wp2_with fail
  have ha := ha.al (.cells #[.int .i64 7, .int .i64 8, .int .i64 9] 3)
  have hb := hb.al (.cells #[.int .i64 7, .int .i64 8, .int .i64 9] 3)
  have hc := hc.al (.cells #[.int .i64 7, .int .i64 8, .int .i64 9] 3)
  have u0 : Sl (World.alloc w3 (.cells #[.int .i64 7, .int .i64 8, .int .i64 9] 3)) (some ⟨w3.heap.size, 0, none⟩) [7, 8, 9] := Sl.lit' w3 [7, 8, 9] (w3.heap.size) #[.int .i64 7, .int .i64 8, .int .i64 9] (by simp) rfl
  have hBB := hBB.alloc hBB.size (.cells #[.int .i64 7, .int .i64 8, .int .i64 9] 3)
  have ha := ha.al (.cells #[.int .i64 2, .int .i64 0, .int .i64 2] 3)
  have hb := hb.al (.cells #[.int .i64 2, .int .i64 0, .int .i64 2] 3)
  have hc := hc.al (.cells #[.int .i64 2, .int .i64 0, .int .i64 2] 3)
  have u0 := u0.al (.cells #[.int .i64 2, .int .i64 0, .int .i64 2] 3)
  have u1 : Sl (World.alloc (World.alloc w3 (.cells #[.int .i64 7, .int .i64 8, .int .i64 9] 3)) (.cells #[.int .i64 2, .int .i64 0, .int .i64 2] 3)) (some ⟨w3.heap.size + 1, 0, none⟩) [2, 0, 2] := Sl.lit' (World.alloc w3 (.cells #[.int .i64 7, .int .i64 8, .int .i64 9] 3)) [2, 0, 2] (w3.heap.size + 1) #[.int .i64 2, .int .i64 0, .int .i64 2] (by simp) rfl
  have hBB := hBB.alloc hBB.size (.cells #[.int .i64 2, .int .i64 0, .int .i64 2] 3)
  refine (kgather _ _ _ u0 u1).mono ?_
  clear u0
  clear u1
  rintro e w4 ⟨Ahd, chd, rfl, hchd, hd, hB⟩
  have ha := ha.step hB
  have hb := hb.step hB
  have hc := hc.step hB
  have hBB := hBB.trans (hB.mono hBB.size)
  go_wp2_with fail
  have ha := ha.al (.cells #[.int .i64 7, .int .i64 8, .int .i64 9] 3)
  have hb := hb.al (.cells #[.int .i64 7, .int .i64 8, .int .i64 9] 3)
  have hc := hc.al (.cells #[.int .i64 7, .int .i64 8, .int .i64 9] 3)
  have hd := hd.al (.cells #[.int .i64 7, .int .i64 8, .int .i64 9] 3)
  have u0 : Sl (World.alloc w4 (.cells #[.int .i64 7, .int .i64 8, .int .i64 9] 3)) (some ⟨w4.heap.size, 0, none⟩) [7, 8, 9] := Sl.lit' w4 [7, 8, 9] (w4.heap.size) #[.int .i64 7, .int .i64 8, .int .i64 9] (by simp) rfl
  have hBB := hBB.alloc hBB.size (.cells #[.int .i64 7, .int .i64 8, .int .i64 9] 3)
  have ha := ha.al (.cells #[.int .i64 2, .int .i64 0, .int .i64 1] 3)
  have hb := hb.al (.cells #[.int .i64 2, .int .i64 0, .int .i64 1] 3)
  have hc := hc.al (.cells #[.int .i64 2, .int .i64 0, .int .i64 1] 3)
  have hd := hd.al (.cells #[.int .i64 2, .int .i64 0, .int .i64 1] 3)
  have u0 := u0.al (.cells #[.int .i64 2, .int .i64 0, .int .i64 1] 3)
  have u1 : Sl (World.alloc (World.alloc w4 (.cells #[.int .i64 7, .int .i64 8, .int .i64 9] 3)) (.cells #[.int .i64 2, .int .i64 0, .int .i64 1] 3)) (some ⟨w4.heap.size + 1, 0, none⟩) [2, 0, 1] := Sl.lit' (World.alloc w4 (.cells #[.int .i64 7, .int .i64 8, .int .i64 9] 3)) [2, 0, 1] (w4.heap.size + 1) #[.int .i64 2, .int .i64 0, .int .i64 1] (by simp) rfl
  have hBB := hBB.alloc hBB.size (.cells #[.int .i64 2, .int .i64 0, .int .i64 1] 3)
  refine (kput _ _ _ u0 u1).mono ?_
  clear u0
  clear u1
  rintro e w5 ⟨Ahe, che, rfl, hche, he, hB⟩
  have ha := ha.step hB
  have hb := hb.step hB
  have hc := hc.step hB
  have hd := hd.step hB
  have hBB := hBB.trans (hB.mono hBB.size)
  go_wp2_with fail
  have ha := ha.al (.cells #[.int .i64 2, .int .i64 0, .int .i64 3] 3)
  have hb := hb.al (.cells #[.int .i64 2, .int .i64 0, .int .i64 3] 3)
  have hc := hc.al (.cells #[.int .i64 2, .int .i64 0, .int .i64 3] 3)
  have hd := hd.al (.cells #[.int .i64 2, .int .i64 0, .int .i64 3] 3)
  have he := he.al (.cells #[.int .i64 2, .int .i64 0, .int .i64 3] 3)
  have u0 : Sl (World.alloc w5 (.cells #[.int .i64 2, .int .i64 0, .int .i64 3] 3)) (some ⟨w5.heap.size, 0, none⟩) [2, 0, 3] := Sl.lit' w5 [2, 0, 3] (w5.heap.size) #[.int .i64 2, .int .i64 0, .int .i64 3] (by simp) rfl
  have hBB := hBB.alloc hBB.size (.cells #[.int .i64 2, .int .i64 0, .int .i64 3] 3)
  refine (kiota _ _ u0).mono ?_
  clear u0
  rintro e w6 ⟨Ahf, chf, rfl, hchf, hf, hB⟩
  have ha := ha.step hB
  have hb := hb.step hB
  have hc := hc.step hB
  have hd := hd.step hB
  have he := he.step hB
  have hBB := hBB.trans (hB.mono hBB.size)
  go_wp2_with fail
  have ha := ha.al (.cells #[.int .i64 3, .int .i64 (-2)] 3)
  have hb := hb.al (.cells #[.int .i64 3, .int .i64 (-2)] 3)
  have hc := hc.al (.cells #[.int .i64 3, .int .i64 (-2)] 3)
  have hd := hd.al (.cells #[.int .i64 3, .int .i64 (-2)] 3)
  have he := he.al (.cells #[.int .i64 3, .int .i64 (-2)] 3)
  have hf := hf.al (.cells #[.int .i64 3, .int .i64 (-2)] 3)
  have z : Sl (World.alloc w6 (.cells #[.int .i64 3, .int .i64 (-2)] 3)) (some ⟨w6.heap.size, 0, none⟩) [3, -2] := Sl.lit' w6 [3, -2] (w6.heap.size) #[.int .i64 3, .int .i64 (-2)] (by simp) rfl
  have hBB := hBB.alloc hBB.size (.cells #[.int .i64 3, .int .i64 (-2)] 3)
  refine (eq_lit _ _ _ _ 2 [3, -2] _ rfl ha z (by decide)).mono ?_
  clear z
  clear ha
  rintro e w7 ⟨rfl, hB⟩
  have hb := hb.step hB
  have hc := hc.step hB
  have hd := hd.step hB
  have he := he.step hB
  have hf := hf.step hB
  have hBB := hBB.trans (hB.mono hBB.size)
  go_wp2_with fail
  have hb := hb.al (.cells #[.int .i64 1, .int .i64 5, .int .i64 3] 3)
  have hc := hc.al (.cells #[.int .i64 1, .int .i64 5, .int .i64 3] 3)
  have hd := hd.al (.cells #[.int .i64 1, .int .i64 5, .int .i64 3] 3)
  have he := he.al (.cells #[.int .i64 1, .int .i64 5, .int .i64 3] 3)
  have hf := hf.al (.cells #[.int .i64 1, .int .i64 5, .int .i64 3] 3)
  have z : Sl (World.alloc w7 (.cells #[.int .i64 1, .int .i64 5, .int .i64 3] 3)) (some ⟨w7.heap.size, 0, none⟩) [1, 5, 3] := Sl.lit' w7 [1, 5, 3] (w7.heap.size) #[.int .i64 1, .int .i64 5, .int .i64 3] (by simp) rfl
  have hBB := hBB.alloc hBB.size (.cells #[.int .i64 1, .int .i64 5, .int .i64 3] 3)
  refine (eq_lit _ _ _ _ 3 [1, 5, 3] _ rfl hb z (by decide)).mono ?_
  clear z
  clear hb
  rintro e w8 ⟨rfl, hB⟩
  have hc := hc.step hB
  have hd := hd.step hB
  have he := he.step hB
  have hf := hf.step hB
  have hBB := hBB.trans (hB.mono hBB.size)
  go_wp2_with fail
  have hc := hc.al (.cells #[.int .i64 8, .int .i64 1, .int .i64 2, .int .i64 9] 3)
  have hd := hd.al (.cells #[.int .i64 8, .int .i64 1, .int .i64 2, .int .i64 9] 3)
  have he := he.al (.cells #[.int .i64 8, .int .i64 1, .int .i64 2, .int .i64 9] 3)
  have hf := hf.al (.cells #[.int .i64 8, .int .i64 1, .int .i64 2, .int .i64 9] 3)
  have z : Sl (World.alloc w8 (.cells #[.int .i64 8, .int .i64 1, .int .i64 2, .int .i64 9] 3)) (some ⟨w8.heap.size, 0, none⟩) [8, 1, 2, 9] := Sl.lit' w8 [8, 1, 2, 9] (w8.heap.size) #[.int .i64 8, .int .i64 1, .int .i64 2, .int .i64 9] (by simp) rfl
  have hBB := hBB.alloc hBB.size (.cells #[.int .i64 8, .int .i64 1, .int .i64 2, .int .i64 9] 3)
  refine (eq_lit _ _ _ _ 4 [8, 1, 2, 9] _ rfl hc z (by decide)).mono ?_
  clear z
  clear hc
  rintro e w9 ⟨rfl, hB⟩
  have hd := hd.step hB
  have he := he.step hB
  have hf := hf.step hB
  have hBB := hBB.trans (hB.mono hBB.size)
  go_wp2_with fail
  have hd := hd.al (.cells #[.int .i64 9, .int .i64 7, .int .i64 9] 3)
  have he := he.al (.cells #[.int .i64 9, .int .i64 7, .int .i64 9] 3)
  have hf := hf.al (.cells #[.int .i64 9, .int .i64 7, .int .i64 9] 3)
  have z : Sl (World.alloc w9 (.cells #[.int .i64 9, .int .i64 7, .int .i64 9] 3)) (some ⟨w9.heap.size, 0, none⟩) [9, 7, 9] := Sl.lit' w9 [9, 7, 9] (w9.heap.size) #[.int .i64 9, .int .i64 7, .int .i64 9] (by simp) rfl
  have hBB := hBB.alloc hBB.size (.cells #[.int .i64 9, .int .i64 7, .int .i64 9] 3)
  refine (eq_lit _ _ _ _ 3 [9, 7, 9] _ rfl hd z (by decide)).mono ?_
  clear z
  clear hd
  rintro e w10 ⟨rfl, hB⟩
  have he := he.step hB
  have hf := hf.step hB
  have hBB := hBB.trans (hB.mono hBB.size)
  go_wp2_with fail
  have he := he.al (.cells #[.int .i64 8, .int .i64 9, .int .i64 7] 3)
  have hf := hf.al (.cells #[.int .i64 8, .int .i64 9, .int .i64 7] 3)
  have z : Sl (World.alloc w10 (.cells #[.int .i64 8, .int .i64 9, .int .i64 7] 3)) (some ⟨w10.heap.size, 0, none⟩) [8, 9, 7] := Sl.lit' w10 [8, 9, 7] (w10.heap.size) #[.int .i64 8, .int .i64 9, .int .i64 7] (by simp) rfl
  have hBB := hBB.alloc hBB.size (.cells #[.int .i64 8, .int .i64 9, .int .i64 7] 3)
  refine (eq_lit _ _ _ _ 3 [8, 9, 7] _ rfl he z (by decide)).mono ?_
  clear z
  clear he
  rintro e w11 ⟨rfl, hB⟩
  have hf := hf.step hB
  have hBB := hBB.trans (hB.mono hBB.size)
  go_wp2_with fail
  have hf := hf.al (.cells #[.int .i64 0, .int .i64 1, .int .i64 0, .int .i64 1, .int .i64 2] 3)
  have z : Sl (World.alloc w11 (.cells #[.int .i64 0, .int .i64 1, .int .i64 0, .int .i64 1, .int .i64 2] 3)) (some ⟨w11.heap.size, 0, none⟩) [0, 1, 0, 1, 2] := Sl.lit' w11 [0, 1, 0, 1, 2] (w11.heap.size) #[.int .i64 0, .int .i64 1, .int .i64 0, .int .i64 1, .int .i64 2] (by simp) rfl
  have hBB := hBB.alloc hBB.size (.cells #[.int .i64 0, .int .i64 1, .int .i64 0, .int .i64 1, .int .i64 2] 3)
  refine (eq_lit _ _ _ _ 5 [0, 1, 0, 1, 2] _ rfl hf z (by decide)).mono ?_
  clear z
  clear hf
  rintro e w12 ⟨rfl, hB⟩
  have hBB := hBB.trans (hB.mono hBB.size)
  go_wp2_with fail
  have u0 : Sl (World.alloc w12 (.cells #[.int .i64 1, .int .i64 0, .int .i64 (-2)] 3)) (some ⟨w12.heap.size, 0, none⟩) [1, 0, -2] := Sl.lit' w12 [1, 0, -2] (w12.heap.size) #[.int .i64 1, .int .i64 0, .int .i64 (-2)] (by simp) rfl
  have hBB := hBB.alloc hBB.size (.cells #[.int .i64 1, .int .i64 0, .int .i64 (-2)] 3)
  have u0 := u0.al (.cells #[.int .i64 1, .int .i64 2, .int .i64 3] 3)
  have u1 : Sl (World.alloc (World.alloc w12 (.cells #[.int .i64 1, .int .i64 0, .int .i64 (-2)] 3)) (.cells #[.int .i64 1, .int .i64 2, .int .i64 3] 3)) (some ⟨w12.heap.size + 1, 0, none⟩) [1, 2, 3] := Sl.lit' (World.alloc w12 (.cells #[.int .i64 1, .int .i64 0, .int .i64 (-2)] 3)) [1, 2, 3] (w12.heap.size + 1) #[.int .i64 1, .int .i64 2, .int .i64 3] (by simp) rfl
  have hBB := hBB.alloc hBB.size (.cells #[.int .i64 1, .int .i64 2, .int .i64 3] 3)
  refine (kpack _ _ _ u0 u1).mono ?_
  clear u0
  clear u1
  rintro e w13 ⟨Aha, cha, rfl, hcha, ha, hB⟩
  have hBB := hBB.trans (hB.mono hBB.size)
  go_wp2_with fail
  have ha := ha.al (.cells #[.int .i64 7, .int .i64 8, .int .i64 9] 3)
  have u0 : Sl (World.alloc w13 (.cells #[.int .i64 7, .int .i64 8, .int .i64 9] 3)) (some ⟨w13.heap.size, 0, none⟩) [7, 8, 9] := Sl.lit' w13 [7, 8, 9] (w13.heap.size) #[.int .i64 7, .int .i64 8, .int .i64 9] (by simp) rfl
  have hBB := hBB.alloc hBB.size (.cells #[.int .i64 7, .int .i64 8, .int .i64 9] 3)
  have ha := ha.al (.cells #[.int .i64 2, .int .i64 0, .int .i64 1] 3)
  have u0 := u0.al (.cells #[.int .i64 2, .int .i64 0, .int .i64 1] 3)
  have u1 : Sl (World.alloc (World.alloc w13 (.cells #[.int .i64 7, .int .i64 8, .int .i64 9] 3)) (.cells #[.int .i64 2, .int .i64 0, .int .i64 1] 3)) (some ⟨w13.heap.size + 1, 0, none⟩) [2, 0, 1] := Sl.lit' (World.alloc w13 (.cells #[.int .i64 7, .int .i64 8, .int .i64 9] 3)) [2, 0, 1] (w13.heap.size + 1) #[.int .i64 2, .int .i64 0, .int .i64 1] (by simp) rfl
  have hBB := hBB.alloc hBB.size (.cells #[.int .i64 2, .int .i64 0, .int .i64 1] 3)
  refine (krep _ _ _ u0 u1).mono ?_
  clear u0
  clear u1
  rintro e w14 ⟨Ahb, chb, rfl, hchb, hb, hB⟩
  have ha := ha.step hB
  have hBB := hBB.trans (hB.mono hBB.size)
  go_wp2_with fail
  have ha := ha.al (.cells #[.int .i64 1, .int .i64 2] 3)
  have hb := hb.al (.cells #[.int .i64 1, .int .i64 2] 3)
  have u0 : Sl (World.alloc w14 (.cells #[.int .i64 1, .int .i64 2] 3)) (some ⟨w14.heap.size, 0, none⟩) [1, 2] := Sl.lit' w14 [1, 2] (w14.heap.size) #[.int .i64 1, .int .i64 2] (by simp) rfl
  have hBB := hBB.alloc hBB.size (.cells #[.int .i64 1, .int .i64 2] 3)
  have ha := ha.al (.cells #[.int .i64 3, .int .i64 4] 3)
  have hb := hb.al (.cells #[.int .i64 3, .int .i64 4] 3)
  have u0 := u0.al (.cells #[.int .i64 3, .int .i64 4] 3)
  have u1 : Sl (World.alloc (World.alloc w14 (.cells #[.int .i64 1, .int .i64 2] 3)) (.cells #[.int .i64 3, .int .i64 4] 3)) (some ⟨w14.heap.size + 1, 0, none⟩) [3, 4] := Sl.lit' (World.alloc w14 (.cells #[.int .i64 1, .int .i64 2] 3)) [3, 4] (w14.heap.size + 1) #[.int .i64 3, .int .i64 4] (by simp) rfl
  have hBB := hBB.alloc hBB.size (.cells #[.int .i64 3, .int .i64 4] 3)
  have ha := ha.al (.cells #[.int .i64 5, .int .i64 6] 3)
  have hb := hb.al (.cells #[.int .i64 5, .int .i64 6] 3)
  have u0 := u0.al (.cells #[.int .i64 5, .int .i64 6] 3)
  have u1 := u1.al (.cells #[.int .i64 5, .int .i64 6] 3)
  have u2 : Sl (World.alloc (World.alloc (World.alloc w14 (.cells #[.int .i64 1, .int .i64 2] 3)) (.cells #[.int .i64 3, .int .i64 4] 3)) (.cells #[.int .i64 5, .int .i64 6] 3)) (some ⟨w14.heap.size + 2, 0, none⟩) [5, 6] := Sl.lit' (World.alloc (World.alloc w14 (.cells #[.int .i64 1, .int .i64 2] 3)) (.cells #[.int .i64 3, .int .i64 4] 3)) [5, 6] (w14.heap.size + 2) #[.int .i64 5, .int .i64 6] (by simp) rfl
  have hBB := hBB.alloc hBB.size (.cells #[.int .i64 5, .int .i64 6] 3)
  have ha := ha.al (.cells #[.slice (some ⟨w14.heap.size, 0, none⟩) 2 2, .slice (some ⟨w14.heap.size + 1, 0, none⟩) 2 2, .slice (some ⟨w14.heap.size + 2, 0, none⟩) 2 2] 22)
  have hb := hb.al (.cells #[.slice (some ⟨w14.heap.size, 0, none⟩) 2 2, .slice (some ⟨w14.heap.size + 1, 0, none⟩) 2 2, .slice (some ⟨w14.heap.size + 2, 0, none⟩) 2 2] 22)
  have u0 := u0.al (.cells #[.slice (some ⟨w14.heap.size, 0, none⟩) 2 2, .slice (some ⟨w14.heap.size + 1, 0, none⟩) 2 2, .slice (some ⟨w14.heap.size + 2, 0, none⟩) 2 2] 22)
  have u1 := u1.al (.cells #[.slice (some ⟨w14.heap.size, 0, none⟩) 2 2, .slice (some ⟨w14.heap.size + 1, 0, none⟩) 2 2, .slice (some ⟨w14.heap.size + 2, 0, none⟩) 2 2] 22)
  have u2 := u2.al (.cells #[.slice (some ⟨w14.heap.size, 0, none⟩) 2 2, .slice (some ⟨w14.heap.size + 1, 0, none⟩) 2 2, .slice (some ⟨w14.heap.size + 2, 0, none⟩) 2 2] 22)
  have hBB := hBB.alloc hBB.size (.cells #[.slice (some ⟨w14.heap.size, 0, none⟩) 2 2, .slice (some ⟨w14.heap.size + 1, 0, none⟩) 2 2, .slice (some ⟨w14.heap.size + 2, 0, none⟩) 2 2] 22)
  have hg : Blk (World.alloc (World.alloc (World.alloc (World.alloc w14 (.cells #[.int .i64 1, .int .i64 2] 3)) (.cells #[.int .i64 3, .int .i64 4] 3)) (.cells #[.int .i64 5, .int .i64 6] 3)) (.cells #[.slice (some ⟨w14.heap.size, 0, none⟩) 2 2, .slice (some ⟨w14.heap.size + 1, 0, none⟩) 2 2, .slice (some ⟨w14.heap.size + 2, 0, none⟩) 2 2] 22)) (w14.heap.size + 3) 22 #[.slice (some ⟨w14.heap.size, 0, none⟩) 2 2, .slice (some ⟨w14.heap.size + 1, 0, none⟩) 2 2, .slice (some ⟨w14.heap.size + 2, 0, none⟩) 2 2] := Blk.new' (World.alloc (World.alloc (World.alloc w14 (.cells #[.int .i64 1, .int .i64 2] 3)) (.cells #[.int .i64 3, .int .i64 4] 3)) (.cells #[.int .i64 5, .int .i64 6] 3)) 22 #[.slice (some ⟨w14.heap.size, 0, none⟩) 2 2, .slice (some ⟨w14.heap.size + 1, 0, none⟩) 2 2, .slice (some ⟨w14.heap.size + 2, 0, none⟩) 2 2] (w14.heap.size + 3) (by simp)
  refine (kweave _ _ _ _ _ hg u0 u1 u2).mono ?_
  clear u0
  clear u1
  clear u2
  rintro e w15 ⟨Ahc, chc, rfl, hchc, hc, hB⟩
  have ha := ha.step hB
  have hb := hb.step hB
  have hBB := hBB.trans (hB.mono hBB.size)
  clear hg
  go_wp2_with fail
  have ha := ha.al (.cells #[.int .i64 1, .int .i64 2147483647] 3)
  have hb := hb.al (.cells #[.int .i64 1, .int .i64 2147483647] 3)
  have hc := hc.al (.cells #[.int .i64 1, .int .i64 2147483647] 3)
  have u0 : Sl (World.alloc w15 (.cells #[.int .i64 1, .int .i64 2147483647] 3)) (some ⟨w15.heap.size, 0, none⟩) [1, 2147483647] := Sl.lit' w15 [1, 2147483647] (w15.heap.size) #[.int .i64 1, .int .i64 2147483647] (by simp) rfl
  have hBB := hBB.alloc hBB.size (.cells #[.int .i64 1, .int .i64 2147483647] 3)
  have ha := ha.al (.cells #[.int .i64 5, .int .i64 6] 3)
  have hb := hb.al (.cells #[.int .i64 5, .int .i64 6] 3)
  have hc := hc.al (.cells #[.int .i64 5, .int .i64 6] 3)
  have u0 := u0.al (.cells #[.int .i64 5, .int .i64 6] 3)
  have u1 : Sl (World.alloc (World.alloc w15 (.cells #[.int .i64 1, .int .i64 2147483647] 3)) (.cells #[.int .i64 5, .int .i64 6] 3)) (some ⟨w15.heap.size + 1, 0, none⟩) [5, 6] := Sl.lit' (World.alloc w15 (.cells #[.int .i64 1, .int .i64 2147483647] 3)) [5, 6] (w15.heap.size + 1) #[.int .i64 5, .int .i64 6] (by simp) rfl
  have hBB := hBB.alloc hBB.size (.cells #[.int .i64 5, .int .i64 6] 3)
  refine (koff _ _ _ u0 u1).mono ?_
  clear u0
  clear u1
  rintro e w16 ⟨Ahd, chd, rfl, hchd, hd, hB⟩
  have ha := ha.step hB
  have hb := hb.step hB
  have hc := hc.step hB
  have hBB := hBB.trans (hB.mono hBB.size)
  go_wp2_with fail
  have ha := ha.al (.cells #[.int .i64 1] 3)
  have hb := hb.al (.cells #[.int .i64 1] 3)
  have hc := hc.al (.cells #[.int .i64 1] 3)
  have hd := hd.al (.cells #[.int .i64 1] 3)
  have u0 : Sl (World.alloc w16 (.cells #[.int .i64 1] 3)) (some ⟨w16.heap.size, 0, none⟩) [1] := Sl.lit' w16 [1] (w16.heap.size) #[.int .i64 1] (by simp) rfl
  have hBB := hBB.alloc hBB.size (.cells #[.int .i64 1] 3)
  have ha := ha.al (.cells #[.int .i64 2, .int .i64 3] 3)
  have hb := hb.al (.cells #[.int .i64 2, .int .i64 3] 3)
  have hc := hc.al (.cells #[.int .i64 2, .int .i64 3] 3)
  have hd := hd.al (.cells #[.int .i64 2, .int .i64 3] 3)
  have u0 := u0.al (.cells #[.int .i64 2, .int .i64 3] 3)
  have u1 : Sl (World.alloc (World.alloc w16 (.cells #[.int .i64 1] 3)) (.cells #[.int .i64 2, .int .i64 3] 3)) (some ⟨w16.heap.size + 1, 0, none⟩) [2, 3] := Sl.lit' (World.alloc w16 (.cells #[.int .i64 1] 3)) [2, 3] (w16.heap.size + 1) #[.int .i64 2, .int .i64 3] (by simp) rfl
  have hBB := hBB.alloc hBB.size (.cells #[.int .i64 2, .int .i64 3] 3)
  refine (kcat _ _ _ u0 u1).mono ?_
  clear u0
  clear u1
  rintro e w17 ⟨Ahe, che, rfl, hche, he, hB⟩
  have ha := ha.step hB
  have hb := hb.step hB
  have hc := hc.step hB
  have hd := hd.step hB
  have hBB := hBB.trans (hB.mono hBB.size)
  go_wp2_with fail
  have ha := ha.al (.cells #[.int .i64 5, .int .i64 6] 3)
  have hb := hb.al (.cells #[.int .i64 5, .int .i64 6] 3)
  have hc := hc.al (.cells #[.int .i64 5, .int .i64 6] 3)
  have hd := hd.al (.cells #[.int .i64 5, .int .i64 6] 3)
  have he := he.al (.cells #[.int .i64 5, .int .i64 6] 3)
  have u0 : Sl (World.alloc w17 (.cells #[.int .i64 5, .int .i64 6] 3)) (some ⟨w17.heap.size, 0, none⟩) [5, 6] := Sl.lit' w17 [5, 6] (w17.heap.size) #[.int .i64 5, .int .i64 6] (by simp) rfl
  have hBB := hBB.alloc hBB.size (.cells #[.int .i64 5, .int .i64 6] 3)
  refine (klen _ _ u0).mono ?_
  clear u0
  rintro e w18 ⟨Ahf, chf, rfl, hchf, hf, hB⟩
  have ha := ha.step hB
  have hb := hb.step hB
  have hc := hc.step hB
  have hd := hd.step hB
  have he := he.step hB
  have hBB := hBB.trans (hB.mono hBB.size)
  go_wp2_with fail
  have ha := ha.al (.cells #[.int .i64 1, .int .i64 2, .int .i64 3] 3)
  have hb := hb.al (.cells #[.int .i64 1, .int .i64 2, .int .i64 3] 3)
  have hc := hc.al (.cells #[.int .i64 1, .int .i64 2, .int .i64 3] 3)
  have hd := hd.al (.cells #[.int .i64 1, .int .i64 2, .int .i64 3] 3)
  have he := he.al (.cells #[.int .i64 1, .int .i64 2, .int .i64 3] 3)
  have hf := hf.al (.cells #[.int .i64 1, .int .i64 2, .int .i64 3] 3)
  have u0 : Sl (World.alloc w18 (.cells #[.int .i64 1, .int .i64 2, .int .i64 3] 3)) (some ⟨w18.heap.size, 0, none⟩) [1, 2, 3] := Sl.lit' w18 [1, 2, 3] (w18.heap.size) #[.int .i64 1, .int .i64 2, .int .i64 3] (by simp) rfl
  have hBB := hBB.alloc hBB.size (.cells #[.int .i64 1, .int .i64 2, .int .i64 3] 3)
  refine (kfill _ _ u0).mono ?_
  clear u0
  rintro e w19 ⟨Ahk, chk, rfl, hchk, hk, hB⟩
  have ha := ha.step hB
  have hb := hb.step hB
  have hc := hc.step hB
  have hd := hd.step hB
  have he := he.step hB
  have hf := hf.step hB
  have hBB := hBB.trans (hB.mono hBB.size)
  go_wp2_with fail
  have ha := ha.al (.cells #[.int .i64 1, .int .i64 3] 3)
  have hb := hb.al (.cells #[.int .i64 1, .int .i64 3] 3)
  have hc := hc.al (.cells #[.int .i64 1, .int .i64 3] 3)
  have hd := hd.al (.cells #[.int .i64 1, .int .i64 3] 3)
  have he := he.al (.cells #[.int .i64 1, .int .i64 3] 3)
  have hf := hf.al (.cells #[.int .i64 1, .int .i64 3] 3)
  have hk := hk.al (.cells #[.int .i64 1, .int .i64 3] 3)
  have z : Sl (World.alloc w19 (.cells #[.int .i64 1, .int .i64 3] 3)) (some ⟨w19.heap.size, 0, none⟩) [1, 3] := Sl.lit' w19 [1, 3] (w19.heap.size) #[.int .i64 1, .int .i64 3] (by simp) rfl
  have hBB := hBB.alloc hBB.size (.cells #[.int .i64 1, .int .i64 3] 3)
  refine (eq_lit _ _ _ _ 2 [1, 3] _ rfl ha z (by decide)).mono ?_
  clear z
  clear ha
  rintro e w20 ⟨rfl, hB⟩
  have hb := hb.step hB
  have hc := hc.step hB
  have hd := hd.step hB
  have he := he.step hB
  have hf := hf.step hB
  have hk := hk.step hB
  have hBB := hBB.trans (hB.mono hBB.size)
  go_wp2_with fail
  have hb := hb.al (.cells #[.int .i64 7, .int .i64 7, .int .i64 9] 3)
  have hc := hc.al (.cells #[.int .i64 7, .int .i64 7, .int .i64 9] 3)
  have hd := hd.al (.cells #[.int .i64 7, .int .i64 7, .int .i64 9] 3)
  have he := he.al (.cells #[.int .i64 7, .int .i64 7, .int .i64 9] 3)
  have hf := hf.al (.cells #[.int .i64 7, .int .i64 7, .int .i64 9] 3)
  have hk := hk.al (.cells #[.int .i64 7, .int .i64 7, .int .i64 9] 3)
  have z : Sl (World.alloc w20 (.cells #[.int .i64 7, .int .i64 7, .int .i64 9] 3)) (some ⟨w20.heap.size, 0, none⟩) [7, 7, 9] := Sl.lit' w20 [7, 7, 9] (w20.heap.size) #[.int .i64 7, .int .i64 7, .int .i64 9] (by simp) rfl
  have hBB := hBB.alloc hBB.size (.cells #[.int .i64 7, .int .i64 7, .int .i64 9] 3)
  refine (eq_lit _ _ _ _ 3 [7, 7, 9] _ rfl hb z (by decide)).mono ?_
  clear z
  clear hb
  rintro e w21 ⟨rfl, hB⟩
  have hc := hc.step hB
  have hd := hd.step hB
  have he := he.step hB
  have hf := hf.step hB
  have hk := hk.step hB
  have hBB := hBB.trans (hB.mono hBB.size)
  go_wp2_with fail
  have hc := hc.al (.cells #[.int .i64 1, .int .i64 3, .int .i64 5, .int .i64 2, .int .i64 4, .int .i64 6] 3)
  have hd := hd.al (.cells #[.int .i64 1, .int .i64 3, .int .i64 5, .int .i64 2, .int .i64 4, .int .i64 6] 3)
  have he := he.al (.cells #[.int .i64 1, .int .i64 3, .int .i64 5, .int .i64 2, .int .i64 4, .int .i64 6] 3)
  have hf := hf.al (.cells #[.int .i64 1, .int .i64 3, .int .i64 5, .int .i64 2, .int .i64 4, .int .i64 6] 3)
  have hk := hk.al (.cells #[.int .i64 1, .int .i64 3, .int .i64 5, .int .i64 2, .int .i64 4, .int .i64 6] 3)
  have z : Sl (World.alloc w21 (.cells #[.int .i64 1, .int .i64 3, .int .i64 5, .int .i64 2, .int .i64 4, .int .i64 6] 3)) (some ⟨w21.heap.size, 0, none⟩) [1, 3, 5, 2, 4, 6] := Sl.lit' w21 [1, 3, 5, 2, 4, 6] (w21.heap.size) #[.int .i64 1, .int .i64 3, .int .i64 5, .int .i64 2, .int .i64 4, .int .i64 6] (by simp) rfl
  have hBB := hBB.alloc hBB.size (.cells #[.int .i64 1, .int .i64 3, .int .i64 5, .int .i64 2, .int .i64 4, .int .i64 6] 3)
  refine (eq_lit _ _ _ _ 6 [1, 3, 5, 2, 4, 6] _ rfl hc z (by decide)).mono ?_
  clear z
  clear hc
  rintro e w22 ⟨rfl, hB⟩
  have hd := hd.step hB
  have he := he.step hB
  have hf := hf.step hB
  have hk := hk.step hB
  have hBB := hBB.trans (hB.mono hBB.size)
  go_wp2_with fail
  have hd := hd.al (.cells #[.int .i64 3, .int .i64 (-2147483647)] 3)
  have he := he.al (.cells #[.int .i64 3, .int .i64 (-2147483647)] 3)
  have hf := hf.al (.cells #[.int .i64 3, .int .i64 (-2147483647)] 3)
  have hk := hk.al (.cells #[.int .i64 3, .int .i64 (-2147483647)] 3)
  have z : Sl (World.alloc w22 (.cells #[.int .i64 3, .int .i64 (-2147483647)] 3)) (some ⟨w22.heap.size, 0, none⟩) [3, -2147483647] := Sl.lit' w22 [3, -2147483647] (w22.heap.size) #[.int .i64 3, .int .i64 (-2147483647)] (by simp) rfl
  have hBB := hBB.alloc hBB.size (.cells #[.int .i64 3, .int .i64 (-2147483647)] 3)
  refine (eq_lit _ _ _ _ 2 [3, -2147483647] _ rfl hd z (by decide)).mono ?_
  clear z
  clear hd
  rintro e w23 ⟨rfl, hB⟩
  have he := he.step hB
  have hf := hf.step hB
  have hk := hk.step hB
  have hBB := hBB.trans (hB.mono hBB.size)
  go_wp2_with fail
  have he := he.al (.cells #[.int .i64 1, .int .i64 2, .int .i64 3] 3)
  have hf := hf.al (.cells #[.int .i64 1, .int .i64 2, .int .i64 3] 3)
  have hk := hk.al (.cells #[.int .i64 1, .int .i64 2, .int .i64 3] 3)
  have z : Sl (World.alloc w23 (.cells #[.int .i64 1, .int .i64 2, .int .i64 3] 3)) (some ⟨w23.heap.size, 0, none⟩) [1, 2, 3] := Sl.lit' w23 [1, 2, 3] (w23.heap.size) #[.int .i64 1, .int .i64 2, .int .i64 3] (by simp) rfl
  have hBB := hBB.alloc hBB.size (.cells #[.int .i64 1, .int .i64 2, .int .i64 3] 3)
  refine (eq_lit _ _ _ _ 3 [1, 2, 3] _ rfl he z (by decide)).mono ?_
  clear z
  clear he
  rintro e w24 ⟨rfl, hB⟩
  have hf := hf.step hB
  have hk := hk.step hB
  have hBB := hBB.trans (hB.mono hBB.size)
  go_wp2_with fail
  have hf := hf.al (.cells #[.int .i64 2] 3)
  have hk := hk.al (.cells #[.int .i64 2] 3)
  have z : Sl (World.alloc w24 (.cells #[.int .i64 2] 3)) (some ⟨w24.heap.size, 0, none⟩) [2] := Sl.lit' w24 [2] (w24.heap.size) #[.int .i64 2] (by simp) rfl
  have hBB := hBB.alloc hBB.size (.cells #[.int .i64 2] 3)
  refine (eq_lit _ _ _ _ 1 [2] _ rfl hf z (by decide)).mono ?_
  clear z
  clear hf
  rintro e w25 ⟨rfl, hB⟩
  have hk := hk.step hB
  have hBB := hBB.trans (hB.mono hBB.size)
  go_wp2_with fail
  have hk := hk.al (.cells #[.int .i64 7, .int .i64 7, .int .i64 7] 3)
  have z : Sl (World.alloc w25 (.cells #[.int .i64 7, .int .i64 7, .int .i64 7] 3)) (some ⟨w25.heap.size, 0, none⟩) [7, 7, 7] := Sl.lit' w25 [7, 7, 7] (w25.heap.size) #[.int .i64 7, .int .i64 7, .int .i64 7] (by simp) rfl
  have hBB := hBB.alloc hBB.size (.cells #[.int .i64 7, .int .i64 7, .int .i64 7] 3)
  refine (eq_lit _ _ _ _ 3 [7, 7, 7] _ rfl hk z (by decide)).mono ?_
  clear z
  clear hk
  rintro e w26 ⟨rfl, hB⟩
  have hBB := hBB.trans (hB.mono hBB.size)
  go_wp2_with fail
  have u0 : Sl (World.alloc w26 (.cells #[.int .i64 0, .int .i64 5] 3)) (some ⟨w26.heap.size, 0, none⟩) [0, 5] := Sl.lit' w26 [0, 5] (w26.heap.size) #[.int .i64 0, .int .i64 5] (by simp) rfl
  have hBB := hBB.alloc hBB.size (.cells #[.int .i64 0, .int .i64 5] 3)
  refine (ktrap _ _ u0).mono ?_
  clear u0
  rintro e w27 ⟨rfl, hB⟩
  have hBB := hBB.trans (hB.mono hBB.size)
  go_wp2
  go_ret
  exact ⟨rfl, hBB⟩
end Go.Proofs.YtecpanppnljkhaaDoor
