/- Walks of scan: inOrder on words, from, and the three parts that are kept. -/
import Derived.Test.YtecpanppnljkhaaGreatDoorEd
import Derived.Test.YtecpanppnljkhaaGreatDoorGa
import Derived.Deep.OwnRows
namespace Go.Proofs.YtecpanppnljkhaaGreatDoor
set_option linter.unusedVariables false
set_option maxRecDepth 100000
open Go.RowKit
theorem ret_val {u v : Value} (h : u = v) : Ending.returned u = .returned v := by rw [h]
set_option maxHeartbeats 2000000 in
theorem inOrder_any (op x : Int) (g : Nat) (A : Option Addr) (c : Nat) (l : List Int) (w : World) (hg : Blk w g 3 #[.int .i64 op]) (h : Sl w A l) (hl : l.length ≤ 1048576) :
    Calls Tryz.prog 82 #[.func (.func 87) #[] #[.pointer (some ⟨g, 0, none⟩)], .int .i64 x, .slice A l.length c] w (RetS w (inL (doN op) x l)) := by
  obtain ⟨i0, hi, hz0, hz1, hz2⟩ := info_parts int_info
  have hmk := fun W => run_make_row (P := Tryz.prog) 22 3 i0 (.int .i64 0) Tryz.underlying22 hi hz0 hz1 rfl .i64 .i64 (l.length + 1) (by rw [hz2]; omega) (by omega) W
  rw [show ((l.length + 1 : Nat) : Int) = (l.length : Int) + 1 from by omega] at hmk
  have fS := Full.made w (l.length + 1) (by unfold maxLen; omega)
  have hB0 : Below w.heap.size w (w.alloc (.cells (madeCells #[.int .i64 0] (l.length + 1)) 3)) := (Below.refl _ _).alloc (Nat.le_refl _) _
  obtain ⟨wm, hwm⟩ : ∃ wm, w.alloc (.cells (madeCells #[.int .i64 0] (l.length + 1)) 3) = wm := ⟨_, rfl⟩
  rw [hwm] at fS hB0
  have hmk1 := hmk w
  rw [hwm] at hmk1
  have c0 := fS.cell 0 (by simp)
  have f0 := fS.frozen 0
  have fS1 := fS.set_ 0 x
  have hB1 := hB0.setCell (p := ⟨w.heap.size, 0, none⟩) (Nat.le_refl _) (.int .i64 x)
  rw [show (List.replicate (l.length + 1) (0 : Int)).set 0 x = mk (scN (doN op) x l) 1 ++ List.replicate l.length 0 by rw [List.replicate_succ]; rfl] at fS1
  have hn0 : (0 : Int) < (l.length : Int) + 1 := by omega
  have HS := Lib.hid fS1
  have HB := Lib.hid hB1
  clear hmk hwm hB0 fS1 hB1 fS
  go_enter Tryz.func82, Tryz.ntmps82
  go_wp2
  go_loopw [19] (fun i wr => ∃ k : Nat, k ≤ l.length ∧ i = .int .i64 k ∧ Full wr w.heap.size (mk (scN (doN op) x l) (k + 1) ++ List.replicate (l.length - k) 0) ∧ Below w.heap.size w wr) (fun i _ => l.length - (intOf i).toNat)
  case atStart => exact ⟨0, Nat.zero_le _, rfl, HS.out, HB.out⟩
  case round =>
    clear HS HB c0 f0
    obtain ⟨k, hk, rfl, hF, hB⟩ := hrel
    by_cases hlt : k < l.length
    · obtain ⟨b, o, rfl, hb, hc⟩ := (h.step hB).at_ hlt
      have hgk := hg.below hB hg.lt
      have d1 := hF.cell k (by rw [List.length_append, mk_length]; omega)
      rw [nth_app_lt _ _ _ (by rw [mk_length]; omega), nth_mk _ _ _ (by omega)] at d1
      have d2 := hF.cell (k + 1) (by rw [List.length_append, mk_length, List.length_replicate]; omega)
      have d3 := hF.frozen (k + 1)
      have HK : Hid (scN (doN op) x l (k + 1) = doN op (scN (doN op) x l k) (nth l k)) := Lib.hid rfl
      obtain ⟨y, hy⟩ : ∃ y, nth l k = y := ⟨_, rfl⟩
      obtain ⟨z, hz⟩ : ∃ z, scN (doN op) x l k = z := ⟨_, rfl⟩
      rw [hy] at hc HK
      rw [hz] at d1 HK
      have C := join_any op z y g wr hgk
      obtain ⟨u, hu⟩ : ∃ u, doN op z y = u := ⟨_, rfl⟩
      rw [hu] at C HK
      have C := Lib.hid C
      have HM := Lib.hid (mk_set (scN (doN op) x l) (l.length + 1) (k + 1) 0 (by omega))
      have q1 : (0 : Int) ≤ (k : Int) := by omega
      have q2 : (k : Int) < (l.length : Int) := by omega
      have q3 : (k : Int) < (l.length : Int) + 1 := by omega
      have q4 : (k : Int) + 1 < (l.length : Int) + 1 := by omega
      have HF := Lib.hid hF
      clear hy hz hu d2 d3 hF
      go_wp2_with fail
      refine C.out.mono ?_
      rintro e w1 ⟨rfl, hB2⟩
      have hF1 := HF.out.below hB2 (Nat.le_refl _)
      have d2 := hF1.cell (k + 1) (by rw [List.length_append, mk_length, List.length_replicate]; omega)
      have d3 := hF1.frozen (k + 1)
      have hs2 := hB.size
      have hB3 := (hB.trans (hB2.mono hs2)).setCell (p := ⟨w.heap.size, k + 1, none⟩) (Nat.le_refl _) (.int .i64 u)
      have hF2 := hF1.set_ (k + 1) u
      rw [← HK.out, show l.length - k = l.length + 1 - (k + 1) by omega, HM.out, HK.out] at hF2
      have HF2 := Lib.hid hF2
      have HB3 := Lib.hid hB3
      have hnn : ((k : Int) + 1).toNat = k + 1 := by omega
      clear hF1 hF2 hB3 hB2
      go_wp2
      go_roundw
      case rel => exact ⟨k + 1, by omega, by go_num, by rw [show l.length - (k + 1) = l.length + 1 - (k + 1 + 1) by omega]; exact HF2.out, HB3.out⟩
      case measure => simp [intOf]; omega
    · obtain rfl : k = l.length := by omega
      have HI := Lib.hid (inL_length (doN op) x l)
      have hs := hF.sl
      rw [Nat.sub_self, List.replicate_zero, List.append_nil] at hs
      go_wp2
      go_ret
      refine ⟨some ⟨w.heap.size, 0, none⟩, l.length + 1, ret_val (by rw [HI.out]; rfl), by rw [HI.out]; exact Nat.le_refl _, hs, hB⟩
theorem from_any (op x y : Int) (g : Nat) (A : Option Addr) (c : Nat) (l : List Int) (w : World) (hg : Blk w g 3 #[.int .i64 op]) (h : Sl w A l) (hl : l.length ≤ 1048576) :
    Calls Tryz.prog 51 #[.agg #[.int .i64 y, .func (.func 87) #[] #[.pointer (some ⟨g, 0, none⟩)]], .int .i64 x, .slice A l.length c] w (RetS w (inL (doN op) x l)) := by
  have hB0 : Below w.heap.size w (w.alloc (.cells #[.int .i64 y, .func (.func 87) #[] #[.pointer (some ⟨g, 0, none⟩)]] 58)) := (Below.refl _ _).alloc (Nat.le_refl _) _
  have C := Lib.hid (inOrder_any op x g A c l _ (hg.below hB0 hg.lt) (h.step hB0) hl)
  go_enter Tryz.func51, Tryz.ntmps51
  go_wp2_with fail
  refine C.out.mono ?_
  rintro e w1 ⟨A', c', rfl, hc, hs, hB⟩
  go_wp2
  go_ret
  exact ⟨A', c', rfl, hc, hs, hB0.trans (hB.mono (by simp))⟩
/-- 'Returned a list that lies in what came in'. -/
def Cutwhole (w : World) (zs : List Int) (e : Ending) (w' : World) : Prop := ∃ b off c', e = .returned (.slice (some ⟨b, off, none⟩) zs.length c') ∧ zs.length ≤ c' ∧ Sl w (some ⟨b, off, none⟩) zs ∧ w = w'
theorem whole_any (A : Option Addr) (c n : Nat) (ys : List Int) (w : World) (h : Sl w A ys) (hn : ys.length = n + 1) (hc : ys.length ≤ c) (hm : n ≤ 1048576) :
    Calls Tryz.prog 30 #[.slice A ys.length c] w (Cutwhole w (ys.drop n)) := by
  obtain ⟨b, off, rfl, _, _⟩ := h (by omega)
  obtain ⟨B, hrun, hs⟩ := slice_from3 b off c n ys w h (by omega) hc
  have hi : (ys.length : Int) - 1 = (n : Int) := by omega
  have hw : IntKind.i64.wrap ((ys.length : Int) - 1) = (n : Int) := by rw [hi]; exact IntWalk.i64_in _ (by omega)
  have HN := Lib.hid hn
  have hlz : (ys.drop n).length = ys.length - n := by simp
  obtain ⟨zs, hz⟩ : ∃ zs, ys.drop n = zs := ⟨_, rfl⟩
  rw [hz] at hs hlz
  rw [hz]
  skip
  have HL := Lib.hid hlz
  clear hz hlz
  clear hn
  go_enter Tryz.func30, Tryz.ntmps30
  go_wp2
  go_ret
  exact ⟨b, B, c - n, ret_val (by rw [HL.out]; rfl), by rw [HL.out]; have := HN.out; omega, hs, rfl⟩
/-- 'Returned a list that lies in what came in'. -/
def Cutahead (w : World) (zs : List Int) (e : Ending) (w' : World) : Prop := ∃ b off c', e = .returned (.slice (some ⟨b, off, none⟩) zs.length c') ∧ zs.length ≤ c' ∧ Sl w (some ⟨b, off, none⟩) zs ∧ w = w'
theorem ahead_any (A : Option Addr) (c n : Nat) (ys : List Int) (w : World) (h : Sl w A ys) (hn : ys.length = n + 1) (hc : ys.length ≤ c) (hm : n ≤ 1048576) :
    Calls Tryz.prog 33 #[.slice A ys.length c] w (Cutahead w (ys.take n)) := by
  obtain ⟨b, off, rfl, _, _⟩ := h (by omega)
  obtain ⟨B, hrun, hs⟩ := slice_to3 b off c n ys w h (by omega) hc
  have hi : (ys.length : Int) - 1 = (n : Int) := by omega
  have hw : IntKind.i64.wrap ((ys.length : Int) - 1) = (n : Int) := by rw [hi]; exact IntWalk.i64_in _ (by omega)
  have HN := Lib.hid hn
  have hlz : (ys.take n).length = n := by simp; omega
  obtain ⟨zs, hz⟩ : ∃ zs, ys.take n = zs := ⟨_, rfl⟩
  rw [hz] at hs hlz
  rw [hz]
  skip
  have HL := Lib.hid hlz
  clear hz hlz
  clear hn
  go_enter Tryz.func33, Tryz.ntmps33
  go_wp2
  go_ret
  exact ⟨b, B, c, ret_val (by rw [HL.out]; rfl), by rw [HL.out]; have := HN.out; omega, hs, rfl⟩
/-- 'Returned a list that lies in what came in'. -/
def CutupTo (w : World) (zs : List Int) (e : Ending) (w' : World) : Prop := ∃ b off c', e = .returned (.slice (some ⟨b, off, none⟩) zs.length c') ∧ zs.length ≤ c' ∧ Sl w (some ⟨b, off, none⟩) zs ∧ w = w'
theorem upTo_any (A : Option Addr) (c n : Nat) (ys : List Int) (w : World) (h : Sl w A ys) (hn : ys.length = n + 1) (hc : ys.length ≤ c) (hm : n ≤ 1048576) :
    Calls Tryz.prog 36 #[.slice A ys.length c] w (CutupTo w (ys.drop 1)) := by
  obtain ⟨b, off, rfl, _, _⟩ := h (by omega)
  obtain ⟨B, hrun, hs⟩ := slice_from3 b off c 1 ys w h (by omega) hc
  have hi : (ys.length : Int) - 1 = (n : Int) := by omega
  have hw : IntKind.i64.wrap ((ys.length : Int) - 1) = (n : Int) := by rw [hi]; exact IntWalk.i64_in _ (by omega)
  have HN := Lib.hid hn
  have hlz : (ys.drop 1).length = ys.length - 1 := by simp
  obtain ⟨zs, hz⟩ : ∃ zs, ys.drop 1 = zs := ⟨_, rfl⟩
  rw [hz] at hs hlz
  rw [hz]
  rw [show ((1 : Nat) : Int) = 1 from rfl] at hrun
  have HL := Lib.hid hlz
  clear hz hlz
  clear hn hi hw
  go_enter Tryz.func36, Tryz.ntmps36
  go_wp2
  go_ret
  exact ⟨b, B, c - 1, ret_val (by rw [HL.out]; rfl), by rw [HL.out]; have := HN.out; omega, hs, rfl⟩
end Go.Proofs.YtecpanppnljkhaaGreatDoor
