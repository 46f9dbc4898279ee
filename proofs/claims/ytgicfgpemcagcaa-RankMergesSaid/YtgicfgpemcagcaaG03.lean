/- Walks and mathematics of rank, part 3. -/
import Derived.Test.YtgicfgpemcagcaaG02
/- Walks, part c: the specification's operations on two words. -/
namespace Go.Proofs.Ytgicfgpemcagcaa
open Go.RowKit
set_option linter.unusedVariables false

end Go.Proofs.Ytgicfgpemcagcaa
/- Walks, part d: Do, Laws, Neutral, Name, keys, in the program and the specification. -/
namespace Go.Proofs.Ytgicfgpemcagcaa
open Go.RowKit
set_option linter.unusedVariables false

theorem is_t (n : Int) (w : World) (h : isWb n = true) : Calls Try.prog 76 #[.int .i64 n] w fun e w' => e = .returned (.bool true) ∧ w = w' := (is_any n w).mono fun e w' ⟨he, hw⟩ => ⟨by rw [he, h], hw⟩
theorem is_f (n : Int) (w : World) (h : isWb n = false) : Calls Try.prog 76 #[.int .i64 n] w fun e w' => e = .returned (.bool false) ∧ w = w' := (is_any n w).mono fun e w' ⟨he, hw⟩ => ⟨by rw [he, h], hw⟩
theorem bf {p : Bool} (h : ¬ p = true) : p = false := by simpa using h

end Go.Proofs.Ytgicfgpemcagcaa
/- Walks, part e: what the package-level table holds; Laws; the specification's Do. -/
namespace Go.Proofs.Ytgicfgpemcagcaa
open Go.RowKit
set_option linter.unusedVariables false

/-- the table holds what the text lays in it -/
structure Inv (w : World) : Prop where
  size : 1 ≤ w.heap.size
  assoc : ∀ k : Nat, k < 12 → w.cell? ⟨0, k * 5 + 1, none⟩ = some (.bool (aB k))
  comm : ∀ k : Nat, k < 12 → w.cell? ⟨0, k * 5 + 1 + 1, none⟩ = some (.bool (cB k))
  idem : ∀ k : Nat, k < 12 → w.cell? ⟨0, k * 5 + 1 + 2, none⟩ = some (.bool (iB k))
  neut : ∀ k : Nat, k < 12 → w.cell? ⟨0, k * 5 + 4, none⟩ = some (.int .i64 (nt k))
theorem Inv.below {w w' : World} (h : Inv w) (hb : Below w.heap.size w w') : Inv w' :=
  have hs := h.size
  ⟨Nat.le_trans h.size hb.size, fun k hk => (hb.cell (p := ⟨0, _, none⟩) (by show 0 < _; omega)).trans (h.assoc k hk), fun k hk => (hb.cell (p := ⟨0, _, none⟩) (by show 0 < _; omega)).trans (h.comm k hk), fun k hk => (hb.cell (p := ⟨0, _, none⟩) (by show 0 < _; omega)).trans (h.idem k hk), fun k hk => (hb.cell (p := ⟨0, _, none⟩) (by show 0 < _; omega)).trans (h.neut k hk)⟩
theorem alloc_old {w : World} (h : Inv w) : ∀ (o : Obj) (i : Nat), (w.alloc o).cell? ⟨0, i, none⟩ = w.cell? ⟨0, i, none⟩ := fun o i =>
  ((Below.refl w.heap.size w).alloc (Nat.le_refl _) o).cell (p := ⟨0, i, none⟩) (by show 0 < _; have := h.size; omega)
theorem opNat {op : Int} (h : isOpb op = true) : ∃ k : Nat, op = k ∧ k < 12 ∧ (k : Int) < 12 := ⟨op.toNat, by have := (isOpb_iff op).1 h; omega, by have := (isOpb_iff op).1 h; omega, by have := (isOpb_iff op).1 h; omega⟩

end Go.Proofs.Ytgicfgpemcagcaa
