/- Walks of scan: checked. -/
import Derived.Test.YtecpanppnljkhaaGreatDoorEc
namespace Go.Proofs.YtecpanppnljkhaaGreatDoor
set_option linter.unusedVariables false
set_option maxRecDepth 100000
open Go.RowKit
/-- The error of an operation, and of lists. -/
def cE (op : Int) (L : List (List Int)) : Int := if neE op = 0 then lsE L else neE op
theorem cE_ne {op : Int} (L : List (List Int)) (h : neE op ≠ 0) : cE op L = neE op := by unfold cE; rw [if_neg h]
theorem cE_ls {op : Int} (L : List (List Int)) (h : neE op = 0) : cE op L = lsE L := by unfold cE; rw [if_pos h]
theorem cE_ok {op : Int} {L : List (List Int)} (h : cE op L = 0) : neE op = 0 ∧ lsE L = 0 := by
  unfold cE at h
  by_cases h0 : neE op = 0
  · rw [if_pos h0] at h; exact ⟨h0, h⟩
  · rw [if_neg h0] at h; exact absurd h h0
set_option maxHeartbeats 2000000 in
theorem checked_any (op : Int) (A : Option Addr) (c : Nat) (L : List (List Int)) (w : World) (hI : Inv w) (h : Sll w A L) (hl : L.length ≤ 9223372036854775807) (hs : AllShort L) :
    Calls Tryz.prog 39 #[.int .i64 op, .slice A L.length c] w (RetOp (cE op L) op w) := by
  have hB0 : Below w.heap.size w (w.alloc (.cells #[.int .i64 0, .nilFunc] 58)) := (Below.refl _ _).alloc (Nat.le_refl _) _
  have C1 := operationOf_any op _ (hI.below hB0)
  have bR := Blk.new w 58 #[.int .i64 0, .nilFunc]
  have C2 := fun W (hW : Sll W A L) => scheck_any A c L W hW hl hs
  by_cases he : neE op = 0
  · rw [cE_ls L he]
    rw [he] at C1
    have C1 := Lib.hid C1
    clear he
    by_cases hz : lsE L = 0
    · rw [hz] at C2
      rw [hz]
      have C2 := Lib.hid C2
      clear hz
      go_enter Tryz.func39, Tryz.ntmps39
      go_wp2_with fail
      refine C1.out.mono ?_
      rintro e w1 ⟨n, f, rfl, hB, hg, _⟩
      obtain ⟨rfl, g, rfl, hgl, hgb⟩ := hg rfl
      have hB1 := hB0.trans (hB.mono (by simp))
      have hsz := hB.size
      simp at hsz hgl
      have dR := bR.below hB bR.lt
      have hB2 := hB1.alloc (by omega) (.cells #[.int .i64 (neN op), (.func (.func 87) #[] #[.pointer (some ⟨g, 0, none⟩)])] 58)
      have hgb2 := hgb.alloc (.cells #[.int .i64 (neN op), (.func (.func 87) #[] #[.pointer (some ⟨g, 0, none⟩)])] 58)
      have dR2 := dR.alloc (.cells #[.int .i64 (neN op), (.func (.func 87) #[] #[.pointer (some ⟨g, 0, none⟩)])] 58)
      have b6 := Blk.new w1 58 #[.int .i64 (neN op), (.func (.func 87) #[] #[.pointer (some ⟨g, 0, none⟩)])]
      have k60 := b6.cell 0
      have k61 := b6.cell 1
      have r0 := dR2.cell 0
      have r1 := dR2.cell 1
      have rf0 := dR2.frozen 0
      have rf1 := dR2.frozen 1
      have p0 := ((dR2.set_ 0 (.int .i64 (neN op))).set_ 1 (.func (.func 87) #[] #[.pointer (some ⟨g, 0, none⟩)])).cell 0
      have p1 := ((dR2.set_ 0 (.int .i64 (neN op))).set_ 1 (.func (.func 87) #[] #[.pointer (some ⟨g, 0, none⟩)])).cell 1
      have hgb3 := (hgb2.far (p := ⟨w.heap.size, 0, none⟩) (by show g ≠ w.heap.size; omega) (.int .i64 (neN op))).far (p := ⟨w.heap.size, 1, none⟩) (by show g ≠ w.heap.size; omega) (.func (.func 87) #[] #[.pointer (some ⟨g, 0, none⟩)])
      have hB3 := (hB2.setCell (p := ⟨w.heap.size, 0, none⟩) (Nat.le_refl _) (.int .i64 (neN op))).setCell (p := ⟨w.heap.size, 1, none⟩) (Nat.le_refl _) (.func (.func 87) #[] #[.pointer (some ⟨g, 0, none⟩)])
      have C2' := Lib.hid (C2.out _ (h.below hB2))
      have hgl2 : w.heap.size ≤ g := by omega
      simp at k60 k61 r0 r1 rf0 rf1 p0 p1
      have hlt6 : w.heap.size ≠ w1.heap.size := by omega
      clear hgl
      go_wp2_with fail
      refine C2'.out.mono ?_
      rintro e w' ⟨rfl, rfl⟩
      go_wp2
      exact bodyPost_ret (v := .tuple #[.agg #[.int .i64 (neN op), (.func (.func 87) #[] #[.pointer (some ⟨g, 0, none⟩)])], .int .i64 0]) (by simp [results, Tryz.results39, go_sem, p0, p1]) rfl ⟨_, _, rfl, hB3, fun _ => ⟨rfl, g, rfl, hgl2, hgb3⟩, fun h => absurd rfl h⟩
    · have hd : (lsE L != 0) = true := by rw [bne_iff_ne]; exact hz
      have HE := Lib.hid hz
      obtain ⟨x, hx⟩ : ∃ x, lsE L = x := ⟨_, rfl⟩
      rw [hx] at C2 hd HE
      rw [hx]
      have C2 := Lib.hid C2
      clear hz hx
      go_enter Tryz.func39, Tryz.ntmps39
      go_wp2_with fail
      refine C1.out.mono ?_
      rintro e w1 ⟨n, f, rfl, hB, hg, _⟩
      obtain ⟨rfl, g, rfl, hgl, hgb⟩ := hg rfl
      have hB1 := hB0.trans (hB.mono (by simp))
      have hsz := hB.size
      simp at hsz hgl
      have dR := bR.below hB bR.lt
      have hB2 := hB1.alloc (by omega) (.cells #[.int .i64 (neN op), (.func (.func 87) #[] #[.pointer (some ⟨g, 0, none⟩)])] 58)
      have dR2 := dR.alloc (.cells #[.int .i64 (neN op), (.func (.func 87) #[] #[.pointer (some ⟨g, 0, none⟩)])] 58)
      have r0 := dR2.cell 0
      have r1 := dR2.cell 1
      have rf0 := dR2.frozen 0
      have rf1 := dR2.frozen 1
      have p0 := ((dR2.set_ 0 (.int .i64 0)).set_ 1 .nilFunc).cell 0
      have p1 := ((dR2.set_ 0 (.int .i64 0)).set_ 1 .nilFunc).cell 1
      have hB3 := (hB2.setCell (p := ⟨w.heap.size, 0, none⟩) (Nat.le_refl _) (.int .i64 0)).setCell (p := ⟨w.heap.size, 1, none⟩) (Nat.le_refl _) .nilFunc
      have C2' := Lib.hid (C2.out _ (h.below hB2))
      simp at r0 r1 rf0 rf1 p0 p1
      have hlt6 : w.heap.size ≠ w1.heap.size := by omega
      clear hgl
      go_wp2_with fail
      refine C2'.out.mono ?_
      rintro e w' ⟨rfl, rfl⟩
      go_wp2
      exact bodyPost_ret (v := .tuple #[.agg #[.int .i64 0, .nilFunc], .int .i64 x]) (by simp [results, Tryz.results39, go_sem, p0, p1]) rfl (retOp_err HE.out hB3)
  · rw [cE_ne L he]
    have hd : (neE op != 0) = true := by rw [bne_iff_ne]; exact he
    have HE := Lib.hid he
    obtain ⟨x, hx⟩ : ∃ x, neE op = x := ⟨_, rfl⟩
    rw [hx] at C1 hd HE
    rw [hx]
    have C1 := Lib.hid C1
    clear he hx C2
    go_enter Tryz.func39, Tryz.ntmps39
    go_wp2_with fail
    refine C1.out.mono ?_
    rintro e w1 ⟨n, f, rfl, hB, hg, hz⟩
    obtain ⟨rfl, rfl⟩ := hz HE.out
    clear hg hz
    have hB1 := hB0.trans (hB.mono (by simp))
    have hsz := hB.size
    simp at hsz
    have dR := bR.below hB bR.lt
    have hB2 := hB1.alloc (by omega) (.cells #[.int .i64 0, .nilFunc] 58)
    have dR2 := dR.alloc (.cells #[.int .i64 0, .nilFunc] 58)
    have r0 := dR2.cell 0
    have r1 := dR2.cell 1
    have rf0 := dR2.frozen 0
    have rf1 := dR2.frozen 1
    have p0 := ((dR2.set_ 0 (.int .i64 0)).set_ 1 .nilFunc).cell 0
    have p1 := ((dR2.set_ 0 (.int .i64 0)).set_ 1 .nilFunc).cell 1
    have hB3 := (hB2.setCell (p := ⟨w.heap.size, 0, none⟩) (Nat.le_refl _) (.int .i64 0)).setCell (p := ⟨w.heap.size, 1, none⟩) (Nat.le_refl _) .nilFunc
    simp at r0 r1 rf0 rf1 p0 p1
    have hlt6 : w.heap.size ≠ w1.heap.size := by omega
    go_wp2
    exact bodyPost_ret (v := .tuple #[.agg #[.int .i64 0, .nilFunc], .int .i64 x]) (by simp [results, Tryz.results39, go_sem, p0, p1]) rfl (retOp_err HE.out hB3)
end Go.Proofs.YtecpanppnljkhaaGreatDoor
