/- Walks of scan: slices.Concat. -/
import Derived.Test.YtecpanppnljkhaaGreatDoorEk
import Derived.Test.YtecpanppnljkhaaGreatDoorEh
import Derived.Laws.AppendOwnNone
namespace Go.Proofs.YtecpanppnljkhaaGreatDoor
set_option linter.unusedVariables false
set_option maxRecDepth 100000
open Go.RowKit Go.Shelf
/-- Nothing is appended. -/
theorem run_app_empty {P : Program} (w : World) (t ty e : TypeId) (i : TypeInfo) (ht : P.underlying t = some (.slice e)) (hi : P.info? e = some i) (base A : Option Addr) (n c d : Nat) (hle : n ≤ c) :
    (Builtin.append_ #[t, t] ty #[.slice base n c, .slice A 0 d]).run P w = .ok (.slice base n c) w := by
  cases base <;> cases A <;> simp [Builtin.append_, run_underlying ht, sizeOf, typeInfo, hi, Builtin.lenOf, hle, Builtin.firstCells, loadCells, loadCellsFrom, storeCells]
/-- How many the first lists have. -/
def cpK (L : List (List Int)) (k : Nat) : List Int := (L.take k).flatten
theorem cpK_succ (L : List (List Int)) (k : Nat) (hk : k < L.length) : cpK L (k + 1) = cpK L k ++ nthL L k := by
  unfold cpK
  rw [List.take_add_one, List.flatten_append, List.getElem?_eq_getElem hk, nthL_eq L k hk]
  simp
theorem cpK_le (L : List (List Int)) (k : Nat) : (cpK L k).length ≤ L.flatten.length := by
  have : L.flatten = cpK L k ++ (L.drop k).flatten := by unfold cpK; rw [← List.flatten_append, List.take_append_drop]
  rw [this, List.length_append]; omega
theorem cpK_all (L : List (List Int)) : cpK L L.length = L.flatten := by unfold cpK; rw [List.take_length]
theorem below_app' {w wr w1 : World} {base : Nat} {v : Value} {zs : List Int} (hB : Below base w wr) (hb : base ≤ wr.heap.size) (h : OwnI wr base v zs) (hg : wr.grownBy w1 v.ownBlock) : Below base w w1 :=
  hB.grown hg hb (fun k e => (h.lt k e).1)
set_option maxHeartbeats 4000000 in
theorem concat_any (A : Option Addr) (c : Nat) (L : List (List Int)) (w : World) (h : Sll w A L) (hl : L.flatten.length ≤ 16777216) (hn : L.length ≤ 16777216) :
    Calls Tryz.prog 83 #[.slice A L.length c] w fun e w' => ∃ A' c', e = .returned (.slice A' L.flatten.length c') ∧ OwnI w' w.heap.size (.slice A' L.flatten.length c') L.flatten ∧ Below w.heap.size w w' := by
  obtain ⟨i0, hi, hz0, hz1, hz2⟩ := info_parts int_info
  have HL := Lib.hid (cpK_le L)
  have HA := Lib.hid (cpK_all L)
  have C1 := Lib.hid (growNil_any L.flatten.length w hl)
  obtain ⟨F, hF⟩ : ∃ F, L.flatten = F := ⟨_, rfl⟩
  rw [hF] at HL HA C1 hl ⊢
  obtain ⟨N, hN⟩ : ∃ N, F.length = N := ⟨_, rfl⟩
  rw [hN] at HL C1 hl ⊢
  have HN := Lib.hid hN
  have HF := Lib.hid hF
  clear hF hN
  go_enter Tryz.func83, Tryz.ntmps83
  go_wp2
  go_loop [3, 11] (fun t i => ∃ k : Nat, k ≤ L.length ∧ i = .int .i64 k ∧ t = .int .i64 ((cpK L k).length : Int)) (fun _ i => L.length - (intOf i).toNat)
  case atStart => exact ⟨0, Nat.zero_le _, rfl, rfl⟩
  case round =>
    obtain ⟨k, hk, rfl, rfl⟩ := hrel
    by_cases hlt : k < L.length
    · obtain ⟨b, off, rfl, hb, hc⟩ := h (by omega)
      obtain ⟨A', c', hc1, hcc, hs⟩ := hc k hlt
      have h1 := HL.out (k + 1)
      have h2 := Lib.hid (show (cpK L (k + 1)).length = (cpK L k).length + (nthL L k).length by rw [cpK_succ L k hlt, List.length_append])
      rw [h2.out] at h1
      obtain ⟨x, hx⟩ : ∃ x, (cpK L k).length = x := ⟨_, rfl⟩
      obtain ⟨y, hy⟩ : ∃ y, (nthL L k).length = y := ⟨_, rfl⟩
      rw [hx, hy] at h1 h2
      rw [hy] at hc1
      rw [hx]
      clear hx hy hc hs
      have hk1 : (0 : Int) ≤ (k : Int) := by omega
      have hk2 : (k : Int) < (L.length : Int) := by omega
      have hw : IntKind.i64.wrap ((x : Int) + (y : Int)) = ((x + y : Nat) : Int) := by unfold IntKind.wrap; simp [IntKind.signed, IntKind.bits]; omega
      have hd : decide (((x + y : Nat) : Int) < 0) = false := by simp; omega
      go_wp2
      go_round
      case rel => exact ⟨k + 1, by omega, by go_num, by rw [h2.out, Int.natCast_add]⟩
      case measure => simp [intOf]; omega
    · obtain rfl : k = L.length := by omega
      rw [HA.out, HN.out]
      go_wp2_with fail
      refine C1.out.mono ?_
      rintro e w1 ⟨A1, c1, rfl, hO, hB⟩
      have hO' : OwnI w1 w.heap.size (.slice A1 0 c1) (cpK L 0) := hO
      clear HL C1
      go_wp2
      go_loopw [6, 27] (fun v i wr => ∃ k : Nat, k ≤ L.length ∧ i = .int .i64 k ∧ OwnI wr w.heap.size v (cpK L k) ∧ Below w.heap.size w wr) (fun _ i _ => L.length - (intOf i).toNat)
      case atStart => exact ⟨0, Nat.zero_le _, rfl, hO', hB⟩
      case round =>
        clear hO hO' hB
        obtain ⟨k, hk, rfl, hown, hBr⟩ := hrel
        by_cases hlt : k < L.length
        · obtain ⟨b, off, rfl, hb, hc⟩ := (Sll.below h hBr) (by omega)
          obtain ⟨A', c', hc1, hcc, hs⟩ := hc k hlt
          have h1 := cpK_le L (k + 1)
          have HS := Lib.hid (cpK_succ L k hlt)
          rw [HF.out, HN.out, HS.out, List.length_append] at h1
          have hk1 : (0 : Int) ≤ (k : Int) := by omega
          have hk2 : (k : Int) < (L.length : Int) := by omega
          obtain ⟨ys, hy⟩ : ∃ ys, nthL L k = ys := ⟨_, rfl⟩
          rw [hy] at hc1 h1 hcc hs HS
          clear hy hc
          by_cases h0 : ys.length = 0
          · obtain rfl : ys = [] := List.eq_nil_of_length_eq_zero h0
            obtain ⟨A3, c3, rfl, hcc3, _⟩ := hown.form
            have hr := Lib.hid (run_app_empty (P := Tryz.prog) wr 22 22 3 i0 Tryz.underlying22 hi A3 A' (cpK L k).length c3 c' hcc3)
            obtain ⟨x, hx⟩ : ∃ x, (cpK L k).length = x := ⟨_, rfl⟩
            rw [hx] at hr
            rw [hx]
            have HX := Lib.hid hx
            clear hx hcc3
            go_wp2_with (at_builtin; refine Lib.wpList_append_run _ rfl _ _ 22 22 rfl _ _ rfl rfl _ _ hr.out ?_)
            go_roundw
            case rel => exact ⟨k + 1, by omega, by go_num, by rw [HS.out, List.append_nil, ← HX.out]; rw [HX.out]; exact HX.out ▸ hown, hBr⟩
            case measure => simp [intOf]; omega
          · obtain ⟨by', oy, rfl, hby, _⟩ := hs (by omega)
            go_wp2_with (at_builtin; refine wpList_append_own _ rfl _ _ 22 rfl w.heap.size 3 i0 (.int .i64 0) 1 8 Tryz.underlying22 hi hz0 hz1 hz2 rfl (by decide) _ _ _ rfl hown ⟨by', oy, none⟩ ys.length c' (ys.map (Value.int .i64)) rfl (by simp) (Sl.news hs) (by intro u hu; obtain ⟨q, _, rfl⟩ := List.mem_map.1 hu; rfl) (by unfold maxLen; omega) (by omega) hBr.size ?_; intro v' w2 hown' hgrow _; have ho2 := OwnI.apps hown'; have hB2 := below_app' hBr hBr.size hown hgrow)
            go_roundw
            case rel => exact ⟨k + 1, by omega, by go_num, by rw [HS.out]; exact ho2, hB2⟩
            case measure => simp [intOf]; omega
        · obtain rfl : k = L.length := by omega
          rw [HA.out] at hown
          obtain ⟨A3, c3, rfl, hcc3, _⟩ := hown.form
          rw [HN.out] at hown hcc3 ⊢
          go_wp2
          go_ret
          exact ⟨A3, c3, rfl, hown, hBr⟩
