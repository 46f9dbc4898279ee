/- Walks, part f: Neutral, of both sides. -/
import Derived.Test.YtecpanppnljkhaaDoorWe
namespace Go.Proofs.YtecpanppnljkhaaDoor
set_option linter.unusedVariables false
open Go.RowKit
theorem neutral_t (op : Int) (w : World) (hI : Inv w) (ha : aB op = true) : Calls Tryd.prog 99 #[.int .i64 op] w (Ret (.tuple #[.int .i64 (nt op), .int .i64 0]) w) := by
  have ho := aB_op ha
  obtain ⟨k, rfl, hk, hk'⟩ := opNat ho
  have HL := Lib.hid (laws_t k w hI ho)
  have HA := Lib.hid ha
  clear ho ha
  go_enter Tryd.func99, Tryd.ntmps99
  go_wp2_with fail
  rw [HA.out] at HL
  refine HL.out.mono ?_
  rintro e w1 ⟨rfl, hb⟩
  have hI1 := hI.below hb
  have hal := alloc_old hI1
  have h1 := hI1.neut k hk
  have hsz := hI1.size
  go_wp2
  go_ret2
  exact ⟨rfl, hb.trans (((Below.refl _ _).alloc hb.size _))⟩
theorem neutral_n (op : Int) (w : World) (hI : Inv w) (ho : isOpb op = true) (ha : aB op = false) : Calls Tryd.prog 99 #[.int .i64 op] w (Ret (.tuple #[.int .i64 0, .int .i64 4]) w) := by
  have HL := Lib.hid (laws_t op w hI ho)
  have HA := Lib.hid ha
  clear ho ha
  go_enter Tryd.func99, Tryd.ntmps99
  go_wp2_with fail
  rw [HA.out] at HL
  refine HL.out.mono ?_
  rintro e w1 ⟨rfl, hb⟩
  go_wp2
  go_ret2
  exact ⟨rfl, hb.trans (((Below.refl _ _).alloc hb.size _))⟩
theorem neutral_f (op : Int) (w : World) (ho : isOpb op = false) : Calls Tryd.prog 99 #[.int .i64 op] w (Ret (.tuple #[.int .i64 0, .int .i64 1]) w) := by
  have HL := Lib.hid (laws_f op w ho)
  clear ho
  go_enter Tryd.func99, Tryd.ntmps99
  go_wp2_with fail
  refine HL.out.mono ?_
  rintro e w1 ⟨rfl, hb⟩
  go_wp2
  go_ret2
  exact ⟨rfl, hb.trans (((Below.refl _ _).alloc hb.size _))⟩
theorem neutral_any (op : Int) (w : World) (hI : Inv w) : Calls Tryd.prog 99 #[.int .i64 op] w (Ret (.tuple #[.int .i64 (neN op), .int .i64 (neE op)]) w) := by
  by_cases ho : isOpb op = true
  · by_cases ha : aB op = true
    · rw [show neN op = nt op from by simp [neN, ha], show neE op = 0 from by simp [neE, ha, ho]]; exact neutral_t op w hI ha
    · rw [show neN op = 0 from by simp [neN, ha], show neE op = 4 from by simp [neE, ha, ho]]; exact neutral_n op w hI ho (bf ha)
  · rw [show neN op = 0 from by simp [neN, isOpb_not_aB (bf ho)], show neE op = 1 from by simp [neE, ho]]; exact neutral_f op w (bf ho)
end Go.Proofs.YtecpanppnljkhaaDoor
