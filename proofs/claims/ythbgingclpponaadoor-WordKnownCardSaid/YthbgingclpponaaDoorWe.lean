/- Walks, part e: what the package-level tables hold; Laws, Neutral, Name. -/
import Derived.Test.YthbgingclpponaaDoorWd
import Derived.Lib.SmallJoins
import Derived.Lib.ItoaMem
namespace Go.Proofs.YthbgingclpponaaDoor
open Go.RowKit
set_option linter.unusedVariables false

/-- the tables hold what the text lays in them -/
structure Inv (w : World) : Prop where
  size : 4 ≤ w.heap.size
  name : ∀ k : Nat, k < 12 → w.cell? ⟨0, k * 5, none⟩ = some (.string ⟨(nameL k).toArray⟩)
  assoc : ∀ k : Nat, k < 12 → w.cell? ⟨0, k * 5 + 1, none⟩ = some (.bool (aB k))
  comm : ∀ k : Nat, k < 12 → w.cell? ⟨0, k * 5 + 1 + 1, none⟩ = some (.bool (cB k))
  idem : ∀ k : Nat, k < 12 → w.cell? ⟨0, k * 5 + 1 + 2, none⟩ = some (.bool (iB k))
  neut : ∀ k : Nat, k < 12 → w.cell? ⟨0, k * 5 + 4, none⟩ = some (.int .i64 (nt k))
  tab : Lib.TabIs Tryd.prog w "internal/strconv.uint64pow10" .u64 Lib.pow10Tab
theorem pow10_global : Tryd.prog.globalNamed "internal/strconv.uint64pow10" = some 1 := by kernel_rfl
theorem Inv.below {w w' : World} (h : Inv w) (hb : Below w.heap.size w w') : Inv w' :=
  have hs := h.size
  ⟨Nat.le_trans h.size hb.size, fun k hk => (hb.cell (p := ⟨0, _, none⟩) (by show 0 < _; omega)).trans (h.name k hk), fun k hk => (hb.cell (p := ⟨0, _, none⟩) (by show 0 < _; omega)).trans (h.assoc k hk),
   fun k hk => (hb.cell (p := ⟨0, _, none⟩) (by show 0 < _; omega)).trans (h.comm k hk), fun k hk => (hb.cell (p := ⟨0, _, none⟩) (by show 0 < _; omega)).trans (h.idem k hk), fun k hk => (hb.cell (p := ⟨0, _, none⟩) (by show 0 < _; omega)).trans (h.neut k hk),
   Joins.tab_stays pow10_global h.tab hb (Nat.le_refl _)⟩
theorem Inv.alloc {w : World} (h : Inv w) (o : Obj) : Inv (w.alloc o) := h.below ((Below.refl _ _).alloc (Nat.le_refl _) _)
theorem alloc_old {w : World} (h : Inv w) : ∀ (o : Obj) (i : Nat), (w.alloc o).cell? ⟨0, i, none⟩ = w.cell? ⟨0, i, none⟩ := fun o i =>
  ((Below.refl w.heap.size w).alloc (Nat.le_refl _) o).cell (p := ⟨0, i, none⟩) (by show 0 < _; have := h.size; omega)
theorem opNat {op : Int} (h : isOpb op = true) : ∃ k : Nat, op = k ∧ k < 12 ∧ (k : Int) < 12 := ⟨op.toNat, by have := (isOpb_iff op).1 h; omega, by have := (isOpb_iff op).1 h; omega, by have := (isOpb_iff op).1 h; omega⟩

theorem laws_t (op : Int) (w : World) (hI : Inv w) (ho : isOpb op = true) : Calls Tryd.prog 13 #[.int .i64 op] w (Ret (.tuple #[.agg #[.bool (aB op), .bool (cB op), .bool (iB op)], .int .i64 0]) w) := by
  obtain ⟨k, rfl, hk, hk'⟩ := opNat ho
  have HO := Lib.hid ho
  have hal := alloc_old hI
  have h1 := hI.assoc k hk
  have h2 := hI.comm k hk
  have h3 := hI.idem k hk
  clear ho
  go_enter Tryd.func13, Tryd.ntmps13
  go_wp2_with fail
  refine (isop_t _ _ HO.out).mono ?_
  rintro e w2 ⟨rfl, rfl⟩
  go_wp2
  exact bodyPost_ret (v := .tuple #[.agg #[.bool (aB k), .bool (cB k), .bool (iB k)], .int .i64 0]) (by simp [results, Tryd.results13, go_sem]) rfl ⟨rfl, (Below.refl _ _).alloc (Nat.le_refl _) _⟩
theorem laws_f (op : Int) (w : World) (ho : isOpb op = false) : Calls Tryd.prog 13 #[.int .i64 op] w (Ret (.tuple #[.agg #[.bool false, .bool false, .bool false], .int .i64 1]) w) := by
  have HO := Lib.hid ho
  clear ho
  go_enter Tryd.func13, Tryd.ntmps13
  go_wp2_with fail
  refine (isop_f _ _ HO.out).mono ?_
  rintro e w2 ⟨rfl, rfl⟩
  go_wp2
  exact bodyPost_ret (v := .tuple #[.agg #[.bool false, .bool false, .bool false], .int .i64 1]) (by simp [results, Tryd.results13, go_sem]) rfl ⟨rfl, (Below.refl _ _).alloc (Nat.le_refl _) _⟩
theorem name_t (op : Int) (w : World) (hI : Inv w) (ho : isOpb op = true) : Calls Tryd.prog 17 #[.int .i64 op] w fun e w' => e = .returned (.tuple #[.string ⟨(nameL op).toArray⟩, .int .i64 0]) ∧ w = w' := by
  obtain ⟨k, rfl, hk, hk'⟩ := opNat ho
  have HO := Lib.hid ho
  have h1 := hI.name k hk
  clear ho
  go_enter Tryd.func17, Tryd.ntmps17
  go_wp2_with fail
  refine (isop_t _ _ HO.out).mono ?_
  rintro e w2 ⟨rfl, rfl⟩
  go_wp2
  go_ret2
  exact ⟨rfl, rfl⟩
theorem name_f (op : Int) (w : World) (ho : isOpb op = false) : Calls Tryd.prog 17 #[.int .i64 op] w fun e w' => e = .returned (.tuple #[.string ⟨#[]⟩, .int .i64 1]) ∧ w = w' := by
  have HO := Lib.hid ho
  clear ho
  go_enter Tryd.func17, Tryd.ntmps17
  go_wp2_with fail
  refine (isop_f _ _ HO.out).mono ?_
  rintro e w2 ⟨rfl, rfl⟩
  go_wp2
  go_ret2
  exact ⟨rfl, rfl⟩
theorem neutral_t (op : Int) (w : World) (hI : Inv w) (ha : aB op = true) : Calls Tryd.prog 15 #[.int .i64 op] w (Ret (.tuple #[.int .i64 (nt op), .int .i64 0]) w) := by
  have ho := aB_op ha
  obtain ⟨k, rfl, hk, hk'⟩ := opNat ho
  have HL := Lib.hid (laws_t k w hI ho)
  have HA := Lib.hid ha
  clear ho ha
  go_enter Tryd.func15, Tryd.ntmps15
  go_wp2_with fail
  rw [HA.out] at HL
  refine HL.out.mono ?_
  rintro e w1 ⟨rfl, hb⟩
  have hI1 := hI.below hb
  have hal := alloc_old hI1
  have h1 := hI1.neut k hk
  have hsz := hI1.size
  go_wp2
  go_ret2
  exact ⟨rfl, hb.trans (((Below.refl _ _).alloc hb.size _))⟩
theorem neutral_n (op : Int) (w : World) (hI : Inv w) (ho : isOpb op = true) (ha : aB op = false) : Calls Tryd.prog 15 #[.int .i64 op] w (Ret (.tuple #[.int .i64 0, .int .i64 4]) w) := by
  have HL := Lib.hid (laws_t op w hI ho)
  have HA := Lib.hid ha
  clear ho ha
  go_enter Tryd.func15, Tryd.ntmps15
  go_wp2_with fail
  rw [HA.out] at HL
  refine HL.out.mono ?_
  rintro e w1 ⟨rfl, hb⟩
  go_wp2
  go_ret2
  exact ⟨rfl, hb.trans (((Below.refl _ _).alloc hb.size _))⟩
theorem neutral_f (op : Int) (w : World) (ho : isOpb op = false) : Calls Tryd.prog 15 #[.int .i64 op] w (Ret (.tuple #[.int .i64 0, .int .i64 1]) w) := by
  have HL := Lib.hid (laws_f op w ho)
  clear ho
  go_enter Tryd.func15, Tryd.ntmps15
  go_wp2_with fail
  refine HL.out.mono ?_
  rintro e w1 ⟨rfl, hb⟩
  go_wp2
  go_ret2
  exact ⟨rfl, hb.trans (((Below.refl _ _).alloc hb.size _))⟩
theorem neutral_any (op : Int) (w : World) (hI : Inv w) : Calls Tryd.prog 15 #[.int .i64 op] w (Ret (.tuple #[.int .i64 (neN op), .int .i64 (neE op)]) w) := by
  by_cases ho : isOpb op = true
  · by_cases ha : aB op = true
    · rw [show neN op = nt op from by simp [neN, ha], show neE op = 0 from by simp [neE, ha, ho]]; exact neutral_t op w hI ha
    · rw [show neN op = 0 from by simp [neN, ha], show neE op = 4 from by simp [neE, ha, ho]]; exact neutral_n op w hI ho (bf ha)
  · rw [show neN op = 0 from by simp [neN, isOpb_not_aB (bf ho)], show neE op = 1 from by simp [neE, ho]]; exact neutral_f op w (bf ho)
theorem laws_any (op : Int) (w : World) (hI : Inv w) : Calls Tryd.prog 13 #[.int .i64 op] w (Ret (.tuple #[.agg #[.bool (aB op), .bool (cB op), .bool (iB op)], .int .i64 (opE op)]) w) := by
  by_cases ho : isOpb op = true
  · rw [show opE op = 0 from by simp [opE, ho]]; exact laws_t op w hI ho
  · have h := bf ho
    rw [show opE op = 1 from by simp [opE, ho], isOpb_not_aB h, isOpb_not_cB h, isOpb_not_iB h]; exact laws_f op w h
theorem nameL_no {op : Int} (h : isOpb op = false) : nameL op = [] := by
  have h' : ¬ (0 ≤ op ∧ op ≤ 11) := by rw [← isOpb_iff, h]; simp
  unfold nameL
  repeat (rw [if_neg (by omega)])
theorem name_any (op : Int) (w : World) (hI : Inv w) : Calls Tryd.prog 17 #[.int .i64 op] w fun e w' => e = .returned (.tuple #[.string ⟨(nameL op).toArray⟩, .int .i64 (opE op)]) ∧ w = w' := by
  by_cases ho : isOpb op = true
  · rw [show opE op = 0 from by simp [opE, ho]]; exact name_t op w hI ho
  · rw [show opE op = 1 from by simp [opE, ho], nameL_no (bf ho)]; exact name_f op w (bf ho)
end Go.Proofs.YthbgingclpponaaDoor
