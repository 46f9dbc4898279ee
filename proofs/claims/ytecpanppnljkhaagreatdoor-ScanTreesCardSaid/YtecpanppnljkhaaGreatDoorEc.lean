/- Walks of scan: what joins words; an operation; checked. -/
import Derived.Test.YtecpanppnljkhaaGreatDoorEb
namespace Go.Proofs.YtecpanppnljkhaaGreatDoor
set_option linter.unusedVariables false
set_option maxRecDepth 100000
open Go.RowKit
theorem join_any (op a b : Int) (g : Nat) (w : World) (hb : Blk w g 3 #[.int .i64 op]) :
    Calls Tryz.prog 87 #[.int .i64 a, .int .i64 b, .pointer (some ⟨g, 0, none⟩)] w (Ret (.int .i64 (doN op a b)) w) := by
  have c0 := hb.cell 0
  simp at c0
  have C := Lib.hid (do_any op a b w)
  clear hb
  go_enter Tryz.func87, Tryz.ntmps87
  go_wp2_with fail
  refine C.out.mono ?_
  rintro e w1 ⟨rfl, hB⟩
  go_wp2
  go_ret
  exact ⟨rfl, hB⟩
/-- 'Returned an operation and an error'. -/
def RetOp (er op : Int) (w : World) (e : Ending) (w' : World) : Prop := ∃ (n : Int) (f : Value), e = .returned (.tuple #[.agg #[.int .i64 n, f], .int .i64 er]) ∧ Below w.heap.size w w' ∧ (er = 0 → n = neN op ∧ ∃ g, f = .func (.func 87) #[] #[.pointer (some ⟨g, 0, none⟩)] ∧ w.heap.size ≤ g ∧ Blk w' g 3 #[.int .i64 op]) ∧ (er ≠ 0 → n = 0 ∧ f = .nilFunc)
theorem retOp_err {er op : Int} {w w' : World} (h : er ≠ 0) (hB : Below w.heap.size w w') : RetOp er op w (.returned (.tuple #[.agg #[.int .i64 0, .nilFunc], .int .i64 er])) w' := ⟨0, .nilFunc, rfl, hB, fun h0 => absurd h0 h, fun _ => ⟨rfl, rfl⟩⟩
theorem operationOf_any (op : Int) (w : World) (hI : Inv w) : Calls Tryz.prog 59 #[.int .i64 op] w (RetOp (neE op) op w) := by
  have hB0 : Below w.heap.size w ((w.alloc (.cells #[.int .i64 op] 3)).alloc (.cells #[.int .i64 0, .nilFunc] 58)) := ((Below.refl _ _).alloc (Nat.le_refl _) _).alloc (by simp) _
  have hI1 := hI.below hB0
  have C := neutral_any op _ hI1
  have bA := (Blk.new w 3 #[.int .i64 op]).alloc (.cells #[.int .i64 0, .nilFunc] 58)
  have bB := Blk.new (w.alloc (.cells #[.int .i64 op] 3)) 58 #[.int .i64 0, .nilFunc]
  have a0 := bA.cell 0
  simp at a0
  by_cases he : neE op = 0
  · rw [he] at C
    have C := Lib.hid C
    rw [he]
    clear he
    go_enter Tryz.func59, Tryz.ntmps59
    go_wp2_with fail
    refine C.out.mono ?_
    rintro e w1 ⟨rfl, hB⟩
    have cA := bA.below hB bA.lt
    have cB := bB.below hB bB.lt
    have hsz := hB.size
    simp at hsz
    have f0 := cB.frozen 0
    have f1 := cB.frozen 1
    have d0 := cB.cell 0
    have d1 := cB.cell 1
    have p0 := ((cB.set_ 0 (.int .i64 (neN op))).set_ 1 (.func (.func 87) #[] #[.pointer (some ⟨w.heap.size, 0, none⟩)])).cell 0
    have p1 := ((cB.set_ 0 (.int .i64 (neN op))).set_ 1 (.func (.func 87) #[] #[.pointer (some ⟨w.heap.size, 0, none⟩)])).cell 1
    have q0 := (cA.far (p := ⟨w.heap.size + 1, 0, none⟩) (by simp) (.int .i64 (neN op))).far (p := ⟨w.heap.size + 1, 1, none⟩) (by simp) (.func (.func 87) #[] #[.pointer (some ⟨w.heap.size, 0, none⟩)])
    have q1 := ((hB0.trans (hB.mono (by simp; omega))).setCell (p := ⟨w.heap.size + 1, 0, none⟩) (by simp) (.int .i64 (neN op))).setCell (p := ⟨w.heap.size + 1, 1, none⟩) (by simp) (.func (.func 87) #[] #[.pointer (some ⟨w.heap.size, 0, none⟩)])
    simp at f0 f1 d0 d1 p0 p1
    go_wp2
    exact bodyPost_ret (v := .tuple #[.agg #[.int .i64 (neN op), .func (.func 87) #[] #[.pointer (some ⟨w.heap.size, 0, none⟩)]], .int .i64 0]) (by simp [results, Tryz.results59, go_sem, p0, p1]) rfl ⟨_, _, rfl, q1, fun _ => ⟨rfl, _, rfl, Nat.le_refl _, q0⟩, fun h => absurd rfl h⟩
  · have hd : (neE op != 0) = true := by rw [bne_iff_ne]; exact he
    have HE := Lib.hid he
    obtain ⟨x, hx⟩ : ∃ x, neE op = x := ⟨_, rfl⟩
    obtain ⟨y, hy⟩ : ∃ y, neN op = y := ⟨_, rfl⟩
    rw [hx] at C hd HE
    rw [hy] at C
    rw [hx]
    have C := Lib.hid C
    clear he hx hy
    go_enter Tryz.func59, Tryz.ntmps59
    go_wp2_with fail
    refine C.out.mono ?_
    rintro e w1 ⟨rfl, hB⟩
    have cB := bB.below hB bB.lt
    have hsz := hB.size
    simp at hsz
    have f0 := cB.frozen 0
    have f1 := cB.frozen 1
    have d0 := cB.cell 0
    have d1 := cB.cell 1
    have p0 := ((cB.set_ 0 (.int .i64 0)).set_ 1 .nilFunc).cell 0
    have p1 := ((cB.set_ 0 (.int .i64 0)).set_ 1 .nilFunc).cell 1
    have q1 := ((hB0.trans (hB.mono (by simp; omega))).setCell (p := ⟨w.heap.size + 1, 0, none⟩) (by simp) (.int .i64 0)).setCell (p := ⟨w.heap.size + 1, 1, none⟩) (by simp) .nilFunc
    simp at f0 f1 d0 d1 p0 p1
    go_wp2
    exact bodyPost_ret (v := .tuple #[.agg #[.int .i64 0, .nilFunc], .int .i64 x]) (by simp [results, Tryz.results59, go_sem, p0, p1]) rfl (retOp_err HE.out q1)
end Go.Proofs.YtecpanppnljkhaaGreatDoor
