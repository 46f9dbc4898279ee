/- Walks of scan: Tree's errors. -/
import Derived.Test.YtecpanppnljkhaaDoorJg
namespace Go.Proofs.YtecpanppnljkhaaDoor
set_option linter.unusedVariables false
set_option maxRecDepth 100000
open Go.RowKit Go.Shelf
theorem tree_err1 (op : Int) (A : Option Addr) (c : Nat) (u : Value) (l : List Int) (w : World) (hI : Inv w) (h : Sl w A l) (hcl : l.length ≤ c) (k : Ok l) (hc : cE op [l] ≠ 0) :
    Calls Tryd.prog 21 #[.int .i64 op, .slice A l.length c, u] w fun e w' => e = .returned (.tuple #[.int .i64 0, .int .i64 (cE op [l])]) ∧ Below w.heap.size w w' := by
  have bA := Blk.new w 22 #[.slice A l.length c]
  have hB0 : Below w.heap.size w (w.alloc (.cells #[.slice A l.length c] 22)) := (Below.refl _ _).alloc (Nat.le_refl _) _
  have C1 := checked_any op (some ⟨w.heap.size, 0, none⟩) 1 [l] _ (hI.below hB0) (sll1 bA (h.step hB0) hcl) (by simp) (allShort_of (by unfold Ok at k; simpa using k))
  have hd : (cE op [l] != 0) = true := by rw [bne_iff_ne]; exact hc
  have HE := Lib.hid hc
  obtain ⟨y, hy⟩ : ∃ y, cE op [l] = y := ⟨_, rfl⟩
  rw [hy] at C1 hd HE ⊢
  have C1 := Lib.hid C1
  clear hc hy
  go_enter Tryd.func21, Tryd.ntmps21
  go_wp2_with fail
  refine C1.out.mono ?_
  rintro e w1 ⟨n, f, rfl, hB, hg, hz⟩
  obtain ⟨rfl, rfl⟩ := hz HE.out
  clear hg hz
  have hB1 := hB0.trans (hB.mono (by simp))
  have hsz := hB.size
  simp at hsz
  have hB2 := hB1.alloc (by omega) (.cells #[.int .i64 0, .nilFunc] 75)
  go_wp2
  go_ret2
  exact ⟨rfl, hB2⟩
theorem tree_err2 (op : Int) (A A' : Option Addr) (c c' : Nat) (l shape : List Int) (w : World) (hI : Inv w) (h : Sl w A l) (hcl : l.length ≤ c) (k : Ok l) (h' : Sl w A' shape) (ks : shape.length ≤ 9223372036854775807) (he : cE op [l] = 0) (hs : ¬ Shape shape l.length) :
    Calls Tryd.prog 21 #[.int .i64 op, .slice A l.length c, .slice A' shape.length c'] w fun e w' => e = .returned (.tuple #[.int .i64 0, .int .i64 6]) ∧ Below w.heap.size w w' := by
  have hl16 := (lsE_ok (cE_ok he).2).1 l (by simp)
  have bA := Blk.new w 22 #[.slice A l.length c]
  have hB0 : Below w.heap.size w (w.alloc (.cells #[.slice A l.length c] 22)) := (Below.refl _ _).alloc (Nat.le_refl _) _
  have C1 := checked_any op (some ⟨w.heap.size, 0, none⟩) 1 [l] _ (hI.below hB0) (sll1 bA (h.step hB0) hcl) (by simp) (allShort_of (by unfold Ok at k; simpa using k))
  rw [he] at C1
  have C1 := Lib.hid C1
  have HS := Lib.hid hs
  have C2 := fun W (hW : Sl W A' shape) => isShape_any A' c' l.length shape W hW hl16 ks
  have C2 := Lib.hid C2
  clear he hs
  go_enter Tryd.func21, Tryd.ntmps21
  go_wp2_with fail
  refine C1.out.mono ?_
  rintro e w1 ⟨n, f, rfl, hB, hg, hz⟩
  obtain ⟨rfl, g, rfl, hgl, hgb⟩ := hg rfl
  clear hz
  have hB1 := hB0.trans (hB.mono (by simp))
  have hsz := hB.size
  simp at hsz hgl
  have hB2 := hB1.alloc (by omega) (.cells #[.int .i64 (neN op), .func (.func 100) #[] #[.pointer (some ⟨g, 0, none⟩)]] 75)
  have C2' := Lib.hid (C2.out _ (h'.step hB2))
  go_wp2_with fail
  refine C2'.out.mono ?_
  rintro e w2 ⟨⟨bb, rfl, hbb⟩, rfl⟩
  obtain rfl : bb = false := by
    cases bb with
    | false => rfl
    | true => exact absurd (hbb.1 rfl) HS.out
  clear hbb
  go_wp2
  go_ret2
  exact ⟨rfl, hB2⟩
end Go.Proofs.YtecpanppnljkhaaDoor
