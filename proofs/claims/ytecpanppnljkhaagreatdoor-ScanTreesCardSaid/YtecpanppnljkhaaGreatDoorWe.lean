/- Walks, part e: what the package-level table holds; Laws; the specification's Do. -/
import Derived.Test.YtecpanppnljkhaaGreatDoorWd
namespace Go.Proofs.YtecpanppnljkhaaGreatDoor
open Go.RowKit
set_option linter.unusedVariables false

/-- the table holds what the text lays in it -/
structure Inv (w : World) : Prop where
  size : 1 ≤ w.heap.size
  assoc : ∀ k : Nat, k < 12 → w.cell? ⟨0, k * 5 + 1, none⟩ = some (.bool (aB k))
  comm : ∀ k : Nat, k < 12 → w.cell? ⟨0, k * 5 + 1 + 1, none⟩ = some (.bool (cB k))
  idem : ∀ k : Nat, k < 12 → w.cell? ⟨0, k * 5 + 1 + 2, none⟩ = some (.bool (iB k))
  neut : ∀ k : Nat, k < 12 → w.cell? ⟨0, k * 5 + 4, none⟩ = some (.int .i64 (nt k))
theorem Inv.below {w w' : World} (h : Inv w) (hb : Below w.heap.size w w') : Inv w' :=
  have hs := h.size
  ⟨Nat.le_trans h.size hb.size, fun k hk => (hb.cell (p := ⟨0, _, none⟩) (by show 0 < _; omega)).trans (h.assoc k hk), fun k hk => (hb.cell (p := ⟨0, _, none⟩) (by show 0 < _; omega)).trans (h.comm k hk), fun k hk => (hb.cell (p := ⟨0, _, none⟩) (by show 0 < _; omega)).trans (h.idem k hk), fun k hk => (hb.cell (p := ⟨0, _, none⟩) (by show 0 < _; omega)).trans (h.neut k hk)⟩
theorem alloc_old {w : World} (h : Inv w) : ∀ (o : Obj) (i : Nat), (w.alloc o).cell? ⟨0, i, none⟩ = w.cell? ⟨0, i, none⟩ := fun o i =>
  ((Below.refl w.heap.size w).alloc (Nat.le_refl _) o).cell (p := ⟨0, i, none⟩) (by show 0 < _; have := h.size; omega)
theorem opNat {op : Int} (h : isOpb op = true) : ∃ k : Nat, op = k ∧ k < 12 ∧ (k : Int) < 12 := ⟨op.toNat, by have := (isOpb_iff op).1 h; omega, by have := (isOpb_iff op).1 h; omega, by have := (isOpb_iff op).1 h; omega⟩

theorem laws_t (op : Int) (w : World) (hI : Inv w) (ho : isOpb op = true) : Calls Tryz.prog 105 #[.int .i64 op] w (Ret (.tuple #[.agg #[.bool (aB op), .bool (cB op), .bool (iB op)], .int .i64 0]) w) := by
  obtain ⟨k, rfl, hk, hk'⟩ := opNat ho
  have HO := Lib.hid ho
  have hal := alloc_old hI
  have h1 := hI.assoc k hk
  have h2 := hI.comm k hk
  have h3 := hI.idem k hk
  clear ho
  go_enter Tryz.func105, Tryz.ntmps105
  go_wp2_with fail
  refine (isop_t _ _ HO.out).mono ?_
  rintro e w2 ⟨rfl, rfl⟩
  go_wp2
  exact bodyPost_ret (v := .tuple #[.agg #[.bool (aB k), .bool (cB k), .bool (iB k)], .int .i64 0]) (by simp [results, Tryz.results105, go_sem]) rfl ⟨rfl, (Below.refl _ _).alloc (Nat.le_refl _) _⟩
theorem laws_f (op : Int) (w : World) (ho : isOpb op = false) : Calls Tryz.prog 105 #[.int .i64 op] w (Ret (.tuple #[.agg #[.bool false, .bool false, .bool false], .int .i64 1]) w) := by
  have HO := Lib.hid ho
  clear ho
  go_enter Tryz.func105, Tryz.ntmps105
  go_wp2_with fail
  refine (isop_f _ _ HO.out).mono ?_
  rintro e w2 ⟨rfl, rfl⟩
  go_wp2
  exact bodyPost_ret (v := .tuple #[.agg #[.bool false, .bool false, .bool false], .int .i64 1]) (by simp [results, Tryz.results105, go_sem]) rfl ⟨rfl, (Below.refl _ _).alloc (Nat.le_refl _) _⟩
theorem laws_any (op : Int) (w : World) (hI : Inv w) : Calls Tryz.prog 105 #[.int .i64 op] w (Ret (.tuple #[.agg #[.bool (aB op), .bool (cB op), .bool (iB op)], .int .i64 (opE op)]) w) := by
  by_cases ho : isOpb op = true
  · rw [show opE op = 0 from by simp [opE, ho]]; exact laws_t op w hI ho
  · have h := bf ho
    rw [show opE op = 1 from by simp [opE, ho], isOpb_not_aB h, isOpb_not_cB h, isOpb_not_iB h]; exact laws_f op w h

end Go.Proofs.YtecpanppnljkhaaGreatDoor
