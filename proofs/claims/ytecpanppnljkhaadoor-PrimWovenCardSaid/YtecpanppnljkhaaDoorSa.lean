/- Equal, and the chapter's examples. -/
import Derived.Test.YtecpanppnljkhaaDoorRc
import Derived.Test.YtecpanppnljkhaaDoorCi
import Derived.Test.YtecpanppnljkhaaDoorDb
import Derived.Test.YtecpanppnljkhaaDoorDg
import Derived.Test.YtecpanppnljkhaaDoorDh
import Derived.Test.YtecpanppnljkhaaDoorDi
import Derived.Test.YtecpanppnljkhaaDoorCh
import Derived.BigQuiet
namespace Go.Proofs.YtecpanppnljkhaaDoor
set_option linter.unusedVariables false
open Go.RowKit Go.Shelf
def EqRel (w : World) (xs ys : List Int) (s i : Value) (wr : World) : Prop :=
  ∃ (k m : Nat) (b : Bool), k ≤ xs.length ∧ i = .int .i64 k ∧ s = .bool b ∧ wr = w.drewN m ∧ (b = true → ∀ j, j < k → nth xs j = nth ys j) ∧ (b = false → xs ≠ ys)
set_option maxHeartbeats 1000000 in
theorem equal_any (A A' : Option Addr) (c c' : Nat) (xs ys : List Int) (w : World) (hx : Sl w A xs) (hy : Sl w A' ys) (hl : xs.length ≤ 9223372036854775807) (hl' : ys.length ≤ 9223372036854775807) :
    Calls Tryd.prog 14 #[.slice A xs.length c, .slice A' ys.length c'] w (Drew w (.bool (decide (xs = ys)))) := by
  by_cases hlen : xs.length = ys.length
  · have hd : ((xs.length : Int) == (ys.length : Int)) = true := by rw [beq_iff_eq]; omega
    have Hlen := Lib.hid hlen; clear hlen
    go_enter Tryd.func14, Tryd.ntmps14
    go_wp2
    go_loopw [5, 6] (fun s i wr => EqRel w xs ys s i wr) (fun s i _ => (xs.length - (intOf i).toNat))
    case atStart => exact ⟨0, 0, true, Nat.zero_le _, rfl, rfl, rfl, fun _ j hj => by omega, by simp⟩
    case round =>
      obtain ⟨k, m, b, hk, rfl, rfl, rfl, h1, h2⟩ := hrel
      cases b with
      | false =>
        have hne := h2 rfl
        have H := Lib.hid (show decide (xs = ys) = false by simpa using hne)
        clear h1 h2 hne
        go_wp2
        go_ret
        exact ⟨ret_bool H.out.symm, m, rfl⟩
      | true =>
        have ha := h1 rfl
        have H1 := Lib.hid ha
        clear h1 h2 ha
        by_cases hlt : k < xs.length
        · obtain ⟨b1, o1, rfl, hb1, hc1⟩ := hx.at_ hlt
          obtain ⟨b2, o2, rfl, hb2, hc2⟩ := hy.at_ (show k < ys.length by have := Hlen.out; omega)
          have hk1 : (0 : Int) ≤ (k : Int) := by omega
          have hk2 : (k : Int) < (xs.length : Int) := by omega
          have hk3 : (k : Int) < (ys.length : Int) := by have := Hlen.out; omega
          by_cases he : nth xs k = nth ys k
          · have hd1 : (nth xs k == nth ys k) = true := by rw [beq_iff_eq]; exact he
            have He := Lib.hid he; clear he
            go_wp2
            go_quiet (fail)
            go_wp2
            go_roundw
            case rel => exact ⟨k + 1, _, true, by omega, by go_num, rfl, by first | rfl | exact (World.drewN_drewN _ _ _).symm | (simp [World.drewN_add]; done), fun _ j hj => by
                by_cases e : j = k
                · subst e; exact He.out
                · exact H1.out j (by omega), by simp⟩
            case measure => simp [intOf]; omega
          · have hd1 : (nth xs k == nth ys k) = false := by rw [beq_eq_false_iff_ne]; exact he
            have He := Lib.hid he; clear he
            go_wp2
            go_quiet (fail)
            go_wp2
            go_roundw
            case rel => exact ⟨k + 1, _, false, by omega, by go_num, rfl, by first | rfl | exact (World.drewN_drewN _ _ _).symm | (simp [World.drewN_add]; done), by simp, fun _ e => He.out (by rw [e])⟩
            case measure => simp [intOf]; omega
        · obtain rfl : k = xs.length := by omega
          have H := Lib.hid (show decide (xs = ys) = true by simpa using eq_of_nth Hlen.out H1.out)
          go_wp2
          go_ret
          exact ⟨ret_bool H.out.symm, m, rfl⟩
  · have hd : ((xs.length : Int) == (ys.length : Int)) = false := by rw [beq_eq_false_iff_ne]; omega
    have H := Lib.hid (show decide (xs = ys) = false by simp; intro e; exact hlen (by rw [e]))
    clear hlen
    go_enter Tryd.func14, Tryd.ntmps14
    go_wp2
    go_loopw [5, 6] (fun s i wr => s = .bool false ∧ i = .int .i64 0 ∧ wr = w) (fun _ _ _ => 0)
    case atStart => exact ⟨rfl, rfl, rfl⟩
    case round =>
      obtain ⟨rfl, rfl, rfl⟩ := hrel
      go_wp2
      go_ret
      exact ⟨ret_bool H.out.symm, 0, rfl⟩

theorem Sl.al {w : World} {A : Option Addr} {zs : List Int} (h : Sl w A zs) (o : Obj) : Sl (w.alloc o) A zs := h.step ((Below.refl _ _).alloc (Nat.le_refl _) o)
theorem Sl.lit (w : World) (zs : List Int) : Sl (w.alloc (.cells (zs.map (Value.int .i64)).toArray 3)) (some ⟨w.heap.size, 0, none⟩) zs :=
  Full.sl (show Full _ _ _ from Blk.new w 3 _)
theorem retL_lit {w w' : World} {zs : List Int} {er : Int} {e : Ending} (xs : List Int) (n : Nat) (h : RetL w zs er e w') (h1 : zs = xs) (h2 : er = 0) (h3 : xs.length = n) :
    ∃ A c, e = .returned (.tuple #[.slice A n c, .int .i64 0]) ∧ n ≤ c ∧ Sl w' A xs ∧ Below w.heap.size w w' := by
  subst h1; subst h2; subst h3; exact h
theorem eq_lit (A A' : Option Addr) (c c' n : Nat) (zs : List Int) (w : World) (hn : zs.length = n) (hx : Sl w A zs) (hy : Sl w A' zs) (hl : zs.length ≤ 9223372036854775807) :
    Calls Tryd.prog 14 #[.slice A n c, .slice A' n c'] w fun e w' => e = .returned (.bool true) ∧ Below w.heap.size w w' := by
  subst hn
  refine (equal_any A A' c c' zs zs w hx hy hl hl).mono ?_
  rintro e w' ⟨rfl, m, rfl⟩
  exact ⟨by simp, below_drewN (Below.refl _ _) m⟩

/-- 'Returned true, and nothing of old is turned'. -/
def Good (w : World) (e : Ending) (w' : World) : Prop := e = .returned (.bool true) ∧ Below w.heap.size w w'
theorem eq_self (A A' : Option Addr) (c c' : Nat) (zs : List Int) (w : World) (hx : Sl w A zs) (hy : Sl w A' zs) (hl : zs.length ≤ 9223372036854775807) :
    Calls Tryd.prog 14 #[.slice A zs.length c, .slice A' zs.length c'] w (Good w) := eq_lit A A' c c' zs.length zs w rfl hx hy hl
theorem kbin (A0 : Option Addr) (A1 : Option Addr) (w : World) (hI : Inv w) (h0 : Sl w A0 [5, 1]) (h1 : Sl w A1 [2, 3]) : Calls Tryd.prog 37 #[.int .i64 1, .slice A0 2 2, .slice A1 2 2] w fun e w' => ∃ A c, e = .returned (.tuple #[.slice A 2 c, .int .i64 0]) ∧ 2 ≤ c ∧ Sl w' A [3, -2] ∧ Below w.heap.size w w' :=
  (bin_any 1 A0 A1 2 2 [5, 1] [2, 3] w hI h0 h1 (by decide) (by decide) (by unfold Ok; simp) (by unfold Ok; simp)).mono fun e w' H => retL_lit [3, -2] 2 H (by kernel_rfl) (by kernel_rfl) rfl
theorem kpick (A0 : Option Addr) (A1 : Option Addr) (A2 : Option Addr) (w : World) (h0 : Sl w A0 [1, 0, -2]) (h1 : Sl w A1 [1, 2, 3]) (h2 : Sl w A2 [4, 5, 6]) : Calls Tryd.prog 38 #[.slice A0 3 3, .slice A1 3 3, .slice A2 3 3] w fun e w' => ∃ A c, e = .returned (.tuple #[.slice A 3 c, .int .i64 0]) ∧ 3 ≤ c ∧ Sl w' A [1, 5, 3] ∧ Below w.heap.size w w' :=
  (pick_any A0 A1 A2 3 3 3 [1, 0, -2] [1, 2, 3] [4, 5, 6] w h0 h1 h2 (by decide) (by decide) (by decide) (by unfold Ok; simp) (by unfold Ok; simp) (by unfold Ok; simp)).mono fun e w' H => retL_lit [1, 5, 3] 3 H (by kernel_rfl) (by kernel_rfl) rfl
theorem kmerge (A0 : Option Addr) (A1 : Option Addr) (A2 : Option Addr) (w : World) (h0 : Sl w A0 [0, 1, 1, 0]) (h1 : Sl w A1 [1, 2]) (h2 : Sl w A2 [8, 9]) : Calls Tryd.prog 39 #[.slice A0 4 4, .slice A1 2 2, .slice A2 2 2] w fun e w' => ∃ A c, e = .returned (.tuple #[.slice A 4 c, .int .i64 0]) ∧ 4 ≤ c ∧ Sl w' A [8, 1, 2, 9] ∧ Below w.heap.size w w' :=
  (merge_any A0 A1 A2 4 2 2 [0, 1, 1, 0] [1, 2] [8, 9] w h0 h1 h2 (by decide) (by decide) (by decide) (by unfold Ok; simp) (by unfold Ok; simp) (by unfold Ok; simp)).mono fun e w' H => retL_lit [8, 1, 2, 9] 4 H (by kernel_rfl) (by kernel_rfl) rfl
theorem kgather (A0 : Option Addr) (A1 : Option Addr) (w : World) (h0 : Sl w A0 [7, 8, 9]) (h1 : Sl w A1 [2, 0, 2]) : Calls Tryd.prog 40 #[.slice A0 3 3, .slice A1 3 3] w fun e w' => ∃ A c, e = .returned (.tuple #[.slice A 3 c, .int .i64 0]) ∧ 3 ≤ c ∧ Sl w' A [9, 7, 9] ∧ Below w.heap.size w w' :=
  (gather_any A0 A1 3 3 [7, 8, 9] [2, 0, 2] w h0 h1 (by decide) (by decide) (by unfold Ok; simp) (by unfold Ok; simp)).mono fun e w' H => retL_lit [9, 7, 9] 3 H (by kernel_rfl) (by kernel_rfl) rfl
theorem kput (A0 : Option Addr) (A1 : Option Addr) (w : World) (h0 : Sl w A0 [7, 8, 9]) (h1 : Sl w A1 [2, 0, 1]) : Calls Tryd.prog 13 #[.slice A0 3 3, .slice A1 3 3] w fun e w' => ∃ A c, e = .returned (.tuple #[.slice A 3 c, .int .i64 0]) ∧ 3 ≤ c ∧ Sl w' A [8, 9, 7] ∧ Below w.heap.size w w' :=
  (put_any A0 A1 3 3 [7, 8, 9] [2, 0, 1] w h0 h1 (by decide) (by decide) (by unfold Ok; simp) (by unfold Ok; simp)).mono fun e w' H => retL_lit [8, 9, 7] 3 H (by kernel_rfl) (by kernel_rfl) rfl
theorem kiota (A0 : Option Addr) (w : World) (h0 : Sl w A0 [2, 0, 3]) : Calls Tryd.prog 41 #[.slice A0 3 3] w fun e w' => ∃ A c, e = .returned (.tuple #[.slice A 5 c, .int .i64 0]) ∧ 5 ≤ c ∧ Sl w' A [0, 1, 0, 1, 2] ∧ Below w.heap.size w w' :=
  (iota_any A0 3 [2, 0, 3] w h0 (by decide) (by unfold Ok; simp)).mono fun e w' H => retL_lit [0, 1, 0, 1, 2] 5 H (by kernel_rfl) (by kernel_rfl) rfl
theorem kpack (A0 : Option Addr) (A1 : Option Addr) (w : World) (h0 : Sl w A0 [1, 0, -2]) (h1 : Sl w A1 [1, 2, 3]) : Calls Tryd.prog 42 #[.slice A0 3 3, .slice A1 3 3] w fun e w' => ∃ A c, e = .returned (.tuple #[.slice A 2 c, .int .i64 0]) ∧ 2 ≤ c ∧ Sl w' A [1, 3] ∧ Below w.heap.size w w' :=
  (pack_any A0 A1 3 3 [1, 0, -2] [1, 2, 3] w h0 h1 (by decide) (by decide) (by unfold Ok; simp) (by unfold Ok; simp)).mono fun e w' H => retL_lit [1, 3] 2 H (by kernel_rfl) (by kernel_rfl) rfl
theorem krep (A0 : Option Addr) (A1 : Option Addr) (w : World) (h0 : Sl w A0 [7, 8, 9]) (h1 : Sl w A1 [2, 0, 1]) : Calls Tryd.prog 43 #[.slice A0 3 3, .slice A1 3 3] w fun e w' => ∃ A c, e = .returned (.tuple #[.slice A 3 c, .int .i64 0]) ∧ 3 ≤ c ∧ Sl w' A [7, 7, 9] ∧ Below w.heap.size w w' :=
  (rep_any A0 A1 3 3 [7, 8, 9] [2, 0, 1] w h0 h1 (by decide) (by decide) (by unfold Ok; simp) (by unfold Ok; simp)).mono fun e w' H => retL_lit [7, 7, 9] 3 H (by kernel_rfl) (by kernel_rfl) rfl
theorem koff (A0 : Option Addr) (A1 : Option Addr) (w : World) (h0 : Sl w A0 [1, 2147483647]) (h1 : Sl w A1 [5, 6]) : Calls Tryd.prog 44 #[.slice A0 2 2, .slice A1 2 2] w fun e w' => ∃ A c, e = .returned (.tuple #[.slice A 2 c, .int .i64 0]) ∧ 2 ≤ c ∧ Sl w' A [3, -2147483647] ∧ Below w.heap.size w w' :=
  (off_any A0 A1 2 2 [1, 2147483647] [5, 6] w h0 h1 (by decide) (by decide) (by unfold Ok; simp) (by unfold Ok; simp)).mono fun e w' H => retL_lit [3, -2147483647] 2 H (by kernel_rfl) (by kernel_rfl) rfl
theorem kcat (A0 : Option Addr) (A1 : Option Addr) (w : World) (h0 : Sl w A0 [1]) (h1 : Sl w A1 [2, 3]) : Calls Tryd.prog 45 #[.slice A0 1 1, .slice A1 2 2] w fun e w' => ∃ A c, e = .returned (.tuple #[.slice A 3 c, .int .i64 0]) ∧ 3 ≤ c ∧ Sl w' A [1, 2, 3] ∧ Below w.heap.size w w' :=
  (cat_any A0 A1 1 2 [1] [2, 3] w h0 h1 (by decide) (by decide) (by unfold Ok; simp) (by unfold Ok; simp)).mono fun e w' H => retL_lit [1, 2, 3] 3 H (by kernel_rfl) (by kernel_rfl) rfl
theorem klen (A0 : Option Addr) (w : World) (h0 : Sl w A0 [5, 6]) : Calls Tryd.prog 46 #[.slice A0 2 2] w fun e w' => ∃ A c, e = .returned (.tuple #[.slice A 1 c, .int .i64 0]) ∧ 1 ≤ c ∧ Sl w' A [2] ∧ Below w.heap.size w w' :=
  (len_any A0 2 [5, 6] w h0 (by decide) (by unfold Ok; simp)).mono fun e w' H => retL_lit [2] 1 H (by kernel_rfl) (by kernel_rfl) rfl
theorem kfill (A0 : Option Addr) (w : World) (h0 : Sl w A0 [1, 2, 3]) : Calls Tryd.prog 47 #[.int .i64 7, .slice A0 3 3] w fun e w' => ∃ A c, e = .returned (.tuple #[.slice A 3 c, .int .i64 0]) ∧ 3 ≤ c ∧ Sl w' A [7, 7, 7] ∧ Below w.heap.size w w' :=
  (fill_any 7 A0 3 [1, 2, 3] w h0 (by decide) (by unfold Ok; simp)).mono fun e w' H => retL_lit [7, 7, 7] 3 H (by kernel_rfl) (by kernel_rfl) rfl
theorem kweave (A0 A1 A2 : Option Addr) (g : Nat) (w : World) (hg : Blk w g 22 #[.slice A0 2 2, .slice A1 2 2, .slice A2 2 2]) (h0 : Sl w A0 [1, 2]) (h1 : Sl w A1 [3, 4]) (h2 : Sl w A2 [5, 6]) : Calls Tryd.prog 12 #[.slice (some ⟨g, 0, none⟩) 3 3] w fun e w' => ∃ A c, e = .returned (.tuple #[.slice A 6 c, .int .i64 0]) ∧ 6 ≤ c ∧ Sl w' A [1, 3, 5, 2, 4, 6] ∧ Below w.heap.size w w' :=
  (weave_any (some ⟨g, 0, none⟩) 3 [[1, 2], [3, 4], [5, 6]] w (sll3 hg h0 h1 h2 (by decide) (by decide) (by decide)) (by decide) (allShort_of (by simp))).mono fun e w' H => retL_lit [1, 3, 5, 2, 4, 6] 6 H (by kernel_rfl) (by kernel_rfl) rfl
theorem ktrap (A0 : Option Addr) (w : World) (h0 : Sl w A0 [0, 5]) : Calls Tryd.prog 48 #[.slice A0 2 2] w fun e w' => e = .returned (.int .i64 14) ∧ Below w.heap.size w w' :=
  (trap_any A0 2 [0, 5] w h0 (by decide) (by unfold Ok; simp)).mono fun e w' ⟨H, hB⟩ => ⟨H.trans (by kernel_rfl), hB⟩
end Go.Proofs.YtecpanppnljkhaaDoor
