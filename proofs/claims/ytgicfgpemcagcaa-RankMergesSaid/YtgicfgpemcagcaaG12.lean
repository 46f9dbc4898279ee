/- Walks and mathematics of rank, part 12. -/
import Derived.Test.YtgicfgpemcagcaaG11
import Derived.Test.YtgicfgpemcagcaaG05
import Derived.Test.YtgicfgpemcagcaaG06
import Derived.Deep.RegionHeld3
import Derived.Test.YtgicfgpemcagcaaG09
/- Walks of the specification: Fill, Bin, Pick, Off, Pack, Gather. -/
namespace Go.Proofs.Ytgicfgpemcagcaa
set_option linter.unusedVariables false
open Go.RowKit Go.Shelf

theorem retL_of {w W : World} {A : Option Addr} {c : Nat} {zs L : List Int} (e : zs = L) (hc : L.length ≤ c) (h : Sl W A L) (hB : Below w.heap.size w W) : RetL w zs 0 (.returned (.tuple #[.slice A L.length c, .int .i64 0])) W := by
  subst e
  exact ⟨_, _, rfl, hc, h, hB⟩
theorem fil_cases (n : Int) (l : List Int) : filE n l = if shortB l = true then (if wordsB l = true ∧ isWb n = true then 0 else 2) else 3 := by
  simp [filE, lsE, shortB, wordsB]
theorem ls1_cases (l : List Int) : lsE [l] = if shortB l = true then (if wordsB l = true then 0 else 2) else 3 := by
  simp [lsE, shortB, wordsB]
theorem fil_ok {n : Int} {l : List Int} (h : lsE [l] = 0) (hn : isWb n = true) : filE n l = 0 := by
  rw [ls1_cases] at h; rw [fil_cases]
  cases h1 : shortB l <;> cases h2 : wordsB l <;> simp_all
theorem fil_no {n : Int} {l : List Int} (h : lsE [l] = 0) (hn : isWb n = false) : filE n l = 2 := by
  rw [ls1_cases] at h; rw [fil_cases]
  cases h1 : shortB l <;> cases h2 : wordsB l <;> simp_all
theorem fil_ls {n : Int} {l : List Int} (h : lsE [l] ≠ 0) : filE n l = lsE [l] := by
  rw [ls1_cases] at h ⊢; rw [fil_cases]
  cases h1 : shortB l <;> cases h2 : wordsB l <;> simp_all
end Go.Proofs.Ytgicfgpemcagcaa
/- Walks of the specification: Bin. -/
namespace Go.Proofs.Ytgicfgpemcagcaa
set_option linter.unusedVariables false
open Go.RowKit Go.Shelf

theorem keepR {w wr W W' : World} {p1 p2 : Addr} {v1 v2 : Value} (h1 : p1.block < wr.heap.size) (h2 : p2.block < wr.heap.size)
    (h : W.cell? p1 = some v1 ∧ W.cell? p2 = some v2 ∧ Below w.heap.size w W ∧ Below wr.heap.size wr W) (hb : Below W.heap.size W W') :
    W'.cell? p1 = some v1 ∧ W'.cell? p2 = some v2 ∧ Below w.heap.size w W' ∧ Below wr.heap.size wr W' := by
  obtain ⟨a1, a2, a3, a4⟩ := h
  have hs := a4.size
  exact ⟨(hb.cell (by omega)).trans a1, (hb.cell (by omega)).trans a2, below_step a3 hb, below_step a4 hb⟩
end Go.Proofs.Ytgicfgpemcagcaa
/- Walks of the specification: Order, Put. -/
namespace Go.Proofs.Ytgicfgpemcagcaa
set_option linter.unusedVariables false
open Go.RowKit Go.Shelf
/-- Block g is just these bools. -/
def FullB (w : World) (g : Nat) (bs : List Bool) : Prop := Blk w g 4 (bs.map Value.bool).toArray
section
variable {w w' : World} {g : Nat} {bs : List Bool}
theorem FullB.made (w : World) (n : Nat) : FullB (w.alloc (.cells (madeCells #[.bool false] n) 4)) w.heap.size (List.replicate n false) := by
  have h := Blk.new w 4 (madeCells #[.bool false] n)
  have e : ((List.replicate n false).map Value.bool).toArray = madeCells #[.bool false] n := by
    rw [List.map_replicate, ← toList_madeCells_one]
  unfold FullB
  rw [e]
  exact h
theorem FullB.lt (h : FullB w g bs) : g < w.heap.size := Blk.lt h
theorem FullB.cell (h : FullB w g bs) (k : Nat) (hk : k < bs.length) : w.cell? ⟨g, k, none⟩ = some (.bool (bs.getD k false)) := by
  rw [Blk.cell h k]
  simp [List.getElem?_eq_getElem hk, List.getD_eq_getElem?_getD]
theorem FullB.frozen (h : FullB w g bs) (k : Nat) : w.frozen? ⟨g, k, none⟩ = false := Blk.frozen h k
theorem FullB.set_ (h : FullB w g bs) (k : Nat) (x : Bool) : FullB (w.setCell ⟨g, k, none⟩ (.bool x)) g (bs.set k x) := by
  have := Blk.set_ h k (.bool x)
  unfold FullB
  rw [List.map_set]
  simpa using this
end
/-- the flags after k places -/
def seenK (p : List Int) (n : Nat) : Nat → List Bool
  | 0 => List.replicate n false
  | k + 1 => (seenK p n k).set (nth p k).toNat true
theorem seenK_length (p : List Int) (n k : Nat) : (seenK p n k).length = n := by
  induction k with
  | zero => simp [seenK]
  | succ k ih => simp [seenK, ih]
theorem seenK_get (p : List Int) (n k : Nat) (hk : k ≤ p.length) (ho : ordB p n k = true) (j : Nat) (hj : j < n) : (seenK p n k).getD j false = hadB p k (j : Int) := by
  unfold hadB
  induction k with
  | zero => simp [seenK, List.getD_eq_getElem?_getD, hj]
  | succ k ih =>
    rw [ordB_succ] at ho
    simp only [Bool.and_eq_true] at ho
    have ih := ih (by omega) ho.1
    have hp : 0 ≤ nth p k ∧ nth p k < n := by have := ho.2.1; unfold plB at this; simpa using this
    rw [take_snoc p k (by omega)]
    unfold seenK
    rw [List.getD_eq_getElem?_getD, List.getElem?_set, seenK_length]
    by_cases e : (nth p k).toNat = j
    · have e2 : nth p k = (j : Int) := by omega
      rw [if_pos e, if_pos (by omega)]
      simp [e2]
    · have e2 : ¬ nth p k = (j : Int) := by omega
      rw [if_neg e, ← List.getD_eq_getElem?_getD, ih, Bool.eq_iff_iff]
      simp
      intro h
      exact absurd h.symm e2
set_option maxRecDepth 100000 in
theorem bool_info : ∃ i, Try.prog.info? 4 = some i ∧ i.zero = some (.bool false) ∧ i.size = 1 ∧ i.bytes = 1 := by
  refine ⟨_, rfl, ?_, ?_, ?_⟩ <;> kernel_rfl
set_option maxRecDepth 100000 in
set_option maxHeartbeats 4000000 in
theorem order_any (A : Option Addr) (c : Nat) (p : List Int) (n : Nat) (w : World) (h : Sl w A p) (hl : p.length ≤ 1048576) (hn : p.length = n) :
    Calls Try.prog 48 #[.slice A p.length c, .int .i64 (n : Int)] w (RetV w (.bool (ordB p n p.length))) := by
  obtain ⟨i0, hi, hz0, hz1, hz2⟩ := bool_info
  have hd : ((p.length : Int) != (n : Int)) = false := by rw [bne_eq_false_iff_eq]; omega
  have HNL := Lib.hid hn
  have hnb : n ≤ 1048576 := by omega
  have HT := Lib.hid (fun (k : Nat) (h1 : ordB p n k = false) (h2 : k ≤ p.length) => ordB_stop h1 h2)
  have hmk := fun W => run_make_row (P := Try.prog) 62 4 i0 (.bool false) Try.underlying62 hi hz0 hz1 rfl .i64 .i64 n (by rw [hz2]; omega) (by omega) W
  have fR := FullB.made w n
  have hB1 := (Below.refl w.heap.size w).alloc (Nat.le_refl _) (.cells (madeCells #[.bool false] n) 4)
  clear hn
  go_enter Try.func48, Try.ntmps48
  go_wp2
  go_loopw [6] (fun i wr => ∃ k : Nat, k ≤ p.length ∧ i = .int .i64 k ∧ Hid (ordB p n k = true) ∧ FullB wr w.heap.size (seenK p n k) ∧ Below w.heap.size w wr) (fun i _ => p.length - (intOf i).toNat)
  case atStart => exact ⟨0, Nat.zero_le _, rfl, Lib.hid rfl, fR, hB1⟩
  case round =>
    clear fR hB1 hmk
    obtain ⟨k, hk, rfl, HOr, fR, hBr⟩ := hrel
    by_cases hlt : k < p.length
    · obtain ⟨bp, op, rfl, hbp, hcp⟩ := (h.step hBr).at_ hlt
      have k3 : (0 : Int) ≤ (k : Int) := by omega
      have k4 : (k : Int) < (p.length : Int) := by omega
      have HS := Lib.hid (ordB_succ p n k)
      have HK : Hid (seenK p n (k + 1) = (seenK p n k).set (nth p k).toNat true) := Lib.hid rfl
      have HG := Lib.hid (fun j hj => seenK_get p n k hk HOr.out j hj)
      have HL := Lib.hid (seenK_length p n k)
      have C2 := lies_any (nth p k) 0 ((n : Int) - 1) wr
      obtain ⟨y, hy⟩ : ∃ y, nth p k = y := ⟨_, rfl⟩
      rw [hy] at hcp HS HK C2
      clear hy
      cases hpl : plB y n with
      | false =>
        have hdl : decide (0 ≤ y ∧ y ≤ (n : Int) - 1) = false := by unfold plB at hpl; simp at hpl ⊢; omega
        rw [hdl] at C2
        rw [hpl] at HS
        have C2 := Lib.hid C2
        have HE := Lib.hid (HT.out (k + 1) (by rw [HS.out]; simp) hlt)
        clear hdl hpl
        go_wp2_with fail
        refine C2.out.mono ?_
        rintro e w' ⟨rfl, rfl⟩
        go_wp2
        go_ret
        exact ⟨by rw [HE.out]; rfl, hBr⟩
      | true =>
        have hdl : decide (0 ≤ y ∧ y ≤ (n : Int) - 1) = true := by unfold plB at hpl; simp at hpl ⊢; omega
        have hyb : 0 ≤ y ∧ y < n := by unfold plB at hpl; simpa using hpl
        rw [hdl] at C2
        rw [hpl] at HS
        have C2 := Lib.hid C2
        obtain ⟨j, rfl⟩ : ∃ j : Nat, y = j := ⟨y.toNat, by omega⟩
        have hj : j < n := by omega
        rw [show ((j : Nat) : Int).toNat = j by simp] at HK
        have k6 : (0 : Int) ≤ (j : Int) := by omega
        have k7 : (j : Int) < (n : Int) := by omega
        have dR := fR.cell j (by rw [HL.out]; exact hj)
        have fr := fR.frozen j
        rw [HG.out j hj] at dR
        cases hhb : hadB p k (j : Int) with
        | true =>
          rw [hhb] at dR HS
          have HE := Lib.hid (HT.out (k + 1) (by rw [HS.out]; simp) hlt)
          clear hdl hpl hyb hhb
          go_wp2_with fail
          refine C2.out.mono ?_
          rintro e w' ⟨rfl, rfl⟩
          go_wp2
          go_ret
          exact ⟨by rw [HE.out]; rfl, hBr⟩
        | false =>
          rw [hhb] at dR HS
          have HN := Lib.hid (show ordB p n (k + 1) = true by rw [HS.out, HOr.out]; rfl)
          clear hdl hpl hyb hhb
          go_wp2_with fail
          refine C2.out.mono ?_
          rintro e w' ⟨rfl, rfl⟩
          go_wp2
          go_roundw
          case rel => exact ⟨k + 1, by omega, by go_num, HN, by rw [HK.out]; exact fR.set_ j true, hBr.setCell (p := ⟨w.heap.size, j, none⟩) (Nat.le_refl _) _⟩
          case measure => simp [intOf]; omega
    · obtain rfl : k = p.length := by omega
      go_wp2
      go_ret
      exact ⟨by rw [HOr.out]; rfl, hBr⟩
end Go.Proofs.Ytgicfgpemcagcaa
