/- Walks of prim: Bin. -/
import Derived.Test.YtecpanppnljkhaaDoorCf
namespace Go.Proofs.YtecpanppnljkhaaDoor
set_option linter.unusedVariables false
open Go.RowKit

theorem Inv.step {w w' : World} (h : Inv w) (hb : Below w.heap.size w w') : Inv w' := h.below hb
def binF (op : Int) (a b : List Int) (k : Nat) : Int := doN op (nth a k) (nth b k)
def binR (op : Int) (a b : List Int) (k : Nat) : Int := doE op (nth a k) (nth b k)
theorem bin_err {op : Int} {a b : List Int} (ho : isOpb op = true) (h : evE [a, b] = 0) : binE op a b = fe (binR op a b) a.length := by unfold binE; rw [if_pos ho, if_pos h]; rfl
theorem bin_ev {op : Int} {a b : List Int} (ho : isOpb op = true) (h : evE [a, b] ≠ 0) : binE op a b = evE [a, b] := by unfold binE; rw [if_pos ho, if_neg h]
theorem bin_no {op : Int} {a b : List Int} (ho : isOpb op = false) : binE op a b = 1 := by unfold binE; rw [ho]; rfl
set_option maxRecDepth 100000 in
set_option maxHeartbeats 4000000 in
theorem bin_any (op : Int) (A1 A2 : Option Addr) (c1 c2 : Nat) (a b : List Int) (w : World) (hI : Inv w) (h1 : Sl w A1 a) (h2 : Sl w A2 b) (hc1 : a.length ≤ c1) (hc2 : b.length ≤ c2) (k1 : Ok a) (k2 : Ok b) :
    Calls Tryd.prog 37 #[.int .i64 op, .slice A1 a.length c1, .slice A2 b.length c2] w (RetL w (orL (binE op a b) (binL op a b)) (binE op a b)) := by
  have C0 := fun W hb => laws_any op W (hI.below hb)
  have C1 : ∀ W g, Below w.heap.size w W → Blk W g 22 #[.slice A1 a.length c1, .slice A2 b.length c2] → Calls Tryd.prog 33 #[.slice (some ⟨g, 0, none⟩) 2 2] W (RetV W (.int .i64 (evE [a, b]))) :=
    fun W g hb hg => even2 g A1 A2 c1 c2 a b W hg (h1.step hb) (h2.step hb) hc1 hc2 k1 k2
  have bx1 := ((Blk.new w 3 #[.int .i64 op]).alloc (.cells #[.slice A1 a.length c1] 22)).alloc (.cells #[.slice A2 b.length c2] 22)
  have bx2 : Blk _ (w.heap.size + 1) _ _ := (Blk.at (t := 22) (cs := #[.slice A1 a.length c1]) (show (w.alloc (.cells #[.int .i64 op] 3)).heap.size = w.heap.size + 1 by simp)).alloc (.cells #[.slice A2 b.length c2] 22)
  have bx3 : Blk _ (w.heap.size + 1 + 1) _ _ := Blk.at (t := 22) (cs := #[.slice A2 b.length c2]) (show ((w.alloc (.cells #[.int .i64 op] 3)).alloc (.cells #[.slice A1 a.length c1] 22)).heap.size = w.heap.size + 1 + 1 by simp)
  cases ho : isOpb op with
  | false =>
    rw [show opE op = 1 by simp [opE, ho]] at C0
    have C0 := Lib.hid C0
    have HE := Lib.hid (bin_no (a := a) (b := b) ho)
    rw [HE.out]
    clear ho C1 bx1 bx2 bx3
    go_enter Tryd.func37, Tryd.ntmps37
    go_wp2_with fail
    refine (C0.out _ (al3 _ _ _ _)).mono ?_
    rintro e w1 ⟨rfl, hB⟩
    have hB0 := below_step (al3 _ _ _ _) hB
    go_wp2
    go_ret2
    exact retL_none (by decide) (below_step hB0 (al1 _ _))
  | true =>
    rw [show opE op = 0 by simp [opE, ho]] at C0
    have C0 := Lib.hid C0
    by_cases he : evE [a, b] = 0
    · have hl := (lsE_ok (evE_ok he).1).1 a (by simp)
      have E2 := Lib.hid (show b.length = a.length from (evE_ok he).2 b (by simp))
      rw [he] at C1
      have C1 := Lib.hid C1
      have C2 : ∀ W, Below w.heap.size w W → W.cell? ⟨w.heap.size, 0, none⟩ = some (.int .i64 op) → W.cell? ⟨w.heap.size + 1, 0, none⟩ = some (.slice A1 a.length c1) → W.cell? ⟨w.heap.size + 1 + 1, 0, none⟩ = some (.slice A2 b.length c2) → w.heap.size + 1 + 1 < W.heap.size →
          Calls Tryd.prog 79 #[.agg #[.slice none 0 0, .func (.func 78) #[] #[.pointer (some ⟨w.heap.size, 0, none⟩), .pointer (some ⟨w.heap.size + 1, 0, none⟩), .pointer (some ⟨w.heap.size + 1 + 1, 0, none⟩)]], .int .i64 (a.length : Int)] W (RetL W (orL (binE op a b) (binL op a b)) (binE op a b)) := fun W hb d1 d2 d3 hlt => by
        have := first_bin ⟨w.heap.size, 0, none⟩ ⟨w.heap.size + 1, 0, none⟩ ⟨w.heap.size + 1 + 1, 0, none⟩ (binF op a b) (binR op a b) a.length W hl (fun k W' hk hB => by
          have hB' := below_step hb hB
          have hs := hB.size
          exact binc_any _ _ _ op A1 A2 c1 c2 a b k W' hk E2.out (by omega) (by omega) (by omega) ((hB.cell (by show w.heap.size < _; omega)).trans d1) ((hB.cell (by show w.heap.size + 1 < _; omega)).trans d2) ((hB.cell (by show w.heap.size + 1 + 1 < _; omega)).trans d3) (h1.step hB') (h2.step hB') hl)
        rw [← bin_err ho he] at this
        exact this
      obtain ⟨r, hr⟩ : ∃ r, binE op a b = r := ⟨_, rfl⟩
      obtain ⟨z, hz⟩ : ∃ z, orL r (binL op a b) = z := ⟨_, rfl⟩
      rw [hr] at C2 ⊢
      rw [hz] at C2 ⊢
      have C2 := Lib.hid C2
      clear he ho hr hz
      go_enter Tryd.func37, Tryd.ntmps37
      go_wp2_with fail
      refine (C0.out _ (al3 _ _ _ _)).mono ?_
      rintro e w1 ⟨rfl, hB⟩
      have hB0 := below_step (al3 _ _ _ _) hB
      have b1 := bx1.below hB bx1.lt
      have b2 := bx2.below hB bx2.lt
      have b3 := bx3.below hB bx3.lt
      have hlt := b3.lt
      clear bx1 bx2 bx3
      have D1 : ∀ o, (w1.alloc o).cell? ⟨w.heap.size + 1, 0, none⟩ = some (.slice A1 a.length c1) := fun o => (b2.alloc o).cell 0
      have D2 : ∀ o, (w1.alloc o).cell? ⟨w.heap.size + 1 + 1, 0, none⟩ = some (.slice A2 b.length c2) := fun o => (b3.alloc o).cell 0
      go_wp2_with fail
      refine (C1.out _ _ (below_step hB0 (al2 _ _ _)) ?_).mono ?_
      · exact Blk.at (by simp)
      rintro e w2 ⟨rfl, hB2⟩
      have hB3 := below_step (below_step hB0 (al2 _ _ _)) hB2
      have b1 := ((b1.alloc _).alloc _).below hB2 (by simp; omega)
      have b2 := ((b2.alloc _).alloc _).below hB2 (by simp; omega)
      have b3 := ((b3.alloc _).alloc _).below hB2 (by simp; omega)
      have hlt := b3.lt
      clear D1 D2
      have D1 : ∀ o, (w2.alloc o).cell? ⟨w.heap.size + 1, 0, none⟩ = some (.slice A1 a.length c1) := fun o => (b2.alloc o).cell 0
      go_wp2_with fail
      refine (C2.out _ ?_ ?_ ?_ ?_ ?_).mono ?_
      · exact below_step hB3 (al1 _ _)
      · exact (b1.alloc _).cell 0
      · exact (b2.alloc _).cell 0
      · exact (b3.alloc _).cell 0
      · exact (b3.alloc _).lt
      rintro e w4 ⟨A', c', rfl, hcc, hsl, hB4⟩
      go_wp2
      go_ret2
      exact ⟨A', c', rfl, hcc, hsl, below_step (below_step hB3 (al1 _ _)) hB4⟩
    · have HE := Lib.hid he
      have HG := Lib.hid (bin_ev ho he)
      rw [HG.out]
      have hd : (evE [a, b] != 0) = true := by rw [bne_iff_ne]; exact he
      have C1 := Lib.hid C1
      clear he ho
      go_enter Tryd.func37, Tryd.ntmps37
      go_wp2_with fail
      refine (C0.out _ (al3 _ _ _ _)).mono ?_
      rintro e w1 ⟨rfl, hB⟩
      have hB0 := below_step (al3 _ _ _ _) hB
      have b2 := bx2.below hB bx2.lt
      have b3 := bx3.below hB bx3.lt
      clear bx1 bx2 bx3
      have D1 : ∀ o, (w1.alloc o).cell? ⟨w.heap.size + 1, 0, none⟩ = some (.slice A1 a.length c1) := fun o => (b2.alloc o).cell 0
      have D2 : ∀ o, (w1.alloc o).cell? ⟨w.heap.size + 1 + 1, 0, none⟩ = some (.slice A2 b.length c2) := fun o => (b3.alloc o).cell 0
      go_wp2_with fail
      refine (C1.out _ _ (below_step hB0 (al2 _ _ _)) ?_).mono ?_
      · exact Blk.at (by simp)
      rintro e w2 ⟨rfl, hB2⟩
      have hB3 := below_step (below_step hB0 (al2 _ _ _)) hB2
      go_wp2
      go_ret2
      exact retL_none HE.out hB3
end Go.Proofs.YtecpanppnljkhaaDoor
