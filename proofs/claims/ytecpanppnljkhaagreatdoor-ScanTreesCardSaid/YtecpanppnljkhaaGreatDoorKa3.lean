/- The laws' helpers, the chapter's examples. -/
import Derived.Test.YtecpanppnljkhaaGreatDoorKa2
import Derived.Test.YtecpanppnljkhaaGreatDoorKa1
import Derived.Test.YtecpanppnljkhaaGreatDoorJh
import Derived.Test.YtecpanppnljkhaaGreatDoorKa5
import Derived.BigQuiet
import Derived.OwnWalk
import Derived.WalkSpells
import Derived.Test.YtecpanppnljkhaaGreatDoorJg
import Derived.Test.YtecpanppnljkhaaGreatDoorQp
import Derived.Test.YtecpanppnljkhaaGreatDoorQa
import Derived.Below
namespace Go.Proofs.YtecpanppnljkhaaGreatDoor
set_option linter.unusedVariables false
open Go.RowKit Go.Shelf
attribute [local go_sem] Oper.semAt_some
set_option maxRecDepth 100000
theorem OwnI.app {w : World} {base n m : Nat} {v : Value} {zs ys : List Int} (h : w.ownsRow base 3 1 v (n + m) (zs.map (Value.int .i64) ++ ys.map (Value.int .i64))) (hn : zs.length = n) (hm : ys.length = m) : OwnI w base v (zs ++ ys) := by
  unfold OwnI
  rw [List.length_append, List.map_append, hn, hm]
  exact h
theorem below_app {w wr w1 : World} {base : Nat} {v : Value} {zs : List Int} (hB : Below base w wr) (hb : base ≤ wr.heap.size) (h : OwnI wr base v zs) (hg : wr.grownBy w1 v.ownBlock) : Below base w w1 :=
  hB.grown hg hb (fun k e => (h.lt k e).1)
theorem Sl.nil_of {w : World} {zs : List Int} (h : Sl w none zs) : zs = [] := by
  apply Classical.byContradiction
  intro hne
  obtain ⟨b, o, e, _⟩ := h (List.length_pos_iff.2 hne)
  cases e
def wlL (zs : List Int) (n : Nat) : List Int := mk (fun k => wrap32 (nth zs k)) (min zs.length n)
theorem retS_of {w W : World} {A : Option Addr} {c : Nat} {zs L : List Int} (e : zs = L) (hc : L.length ≤ c) (h : Sl W A L) (hB : Below w.heap.size w W) : RetS w zs (.returned (.slice A L.length c)) W := by
  subst e
  exact ⟨_, _, rfl, hc, h, hB⟩
theorem Sl.newsA {w : World} {ad : Addr} {zs : List Int} (h : Sl w (some ad) zs) : ∀ j u, (zs.map (Value.int .i64))[j]? = some u → w.cell? (ad.add j) = some u := by
  intro j u hj
  have hjl : j < zs.length := by
    have := (List.getElem?_eq_some_iff.1 hj).1
    simpa using this
  obtain ⟨b, o, e, hb, hc⟩ := h.at_ hjl
  cases e
  rw [List.getElem?_map, List.getElem?_eq_getElem hjl] at hj
  simp at hj
  subst hj
  rw [nth_eq zs j hjl] at hc
  have he : (⟨b, o, none⟩ : Addr).add j = ⟨b, o + j, none⟩ := by unfold Addr.add; split <;> simp_all
  rw [he]; exact hc
set_option maxHeartbeats 4000000 in
theorem copy_any (A : Option Addr) (c : Nat) (zs : List Int) (w : World) (h : Sl w A zs) (hn : A = none → c = 0) (hl : zs.length ≤ 1048576) :
    Calls Tryz.prog 56 #[.slice A zs.length c] w fun e w' => ∃ v, e = .returned v ∧ OwnI w' w.heap.size v zs ∧ Below w.heap.size w w' := by
  obtain ⟨i0, hi, hz0, hz1, hz2⟩ := info_parts int_info
  have hown := OwnI.empty w w.heap.size (Nat.le_refl _)
  have hB0 := (Below.refl w.heap.size w).alloc (Nat.le_refl _) (.cells #[] 3)
  have hS := h.step hB0
  go_enter Tryz.func56, Tryz.ntmps56
  cases A with
  | none =>
    obtain rfl := hn rfl
    obtain rfl := h.nil_of
    go_wp2
    go_ret
    exact ⟨_, rfl, hown, hB0⟩
  | some ad =>
    go_wp2_with (at_builtin; refine wpList_append_own _ rfl _ _ 22 rfl w.heap.size 3 i0 (.int .i64 0) 1 8 Tryz.underlying22 hi hz0 hz1 hz2 rfl (by decide) _ _ _ rfl hown ad zs.length c (zs.map (Value.int .i64)) rfl (by simp) (Sl.newsA hS) (by simp [Value.oneCell']) (by show 0 + _ ≤ _; unfold maxLen; omega) (by show (0 + _) * _ ≤ _; omega) hB0.size ?_; intro v' w2 hown' hgrow _)
    go_ret
    have hown3 := OwnI.app (zs := []) hown' rfl rfl
    exact ⟨_, rfl, hown3, below_app hB0 hB0.size hown hgrow⟩
def BEqRel (w : World) (xs ys : List Int) (s i : Value) (wr : World) : Prop :=
  ∃ (k m : Nat) (b : Bool), k ≤ xs.length ∧ i = .int .i64 k ∧ s = .bool b ∧ wr = w.drewN m ∧ (b = true → ∀ j, j < k → nth xs j = nth ys j) ∧ (b = false → xs ≠ ys)
set_option maxHeartbeats 1000000 in
theorem bequal_any (A A' : Option Addr) (c c' : Nat) (xs ys : List Int) (w : World) (hx : Sl w A xs) (hy : Sl w A' ys) (hl : xs.length ≤ 9223372036854775807) (hl' : ys.length ≤ 9223372036854775807) :
    Calls Tryz.prog 13 #[.slice A xs.length c, .slice A' ys.length c'] w (Drew w (.bool (decide (xs = ys)))) := by
  by_cases hlen : xs.length = ys.length
  · have hd : ((xs.length : Int) == (ys.length : Int)) = true := by rw [beq_iff_eq]; omega
    have Hlen := Lib.hid hlen; clear hlen
    go_enter Tryz.func13, Tryz.ntmps13
    go_wp2
    go_loopw [5, 6] (fun s i wr => BEqRel w xs ys s i wr) (fun s i _ => (xs.length - (intOf i).toNat))
    case atStart => exact ⟨0, 0, true, Nat.zero_le _, rfl, rfl, rfl, fun _ j hj => by omega, by simp⟩
    case round =>
      obtain ⟨k, m, b, hk, rfl, rfl, rfl, h1, h2⟩ := hrel
      cases b with
      | false =>
        have hne := h2 rfl
        have H := Lib.hid (show decide (xs = ys) = false by simpa using hne)
        clear h1 h2 hne
        go_wp2
        go_ret
        exact ⟨ret_bool H.out.symm, m, rfl⟩
      | true =>
        have ha := h1 rfl
        have H1 := Lib.hid ha
        clear h1 h2 ha
        by_cases hlt : k < xs.length
        · obtain ⟨b1, o1, rfl, hb1, hc1⟩ := hx.at_ hlt
          obtain ⟨b2, o2, rfl, hb2, hc2⟩ := hy.at_ (show k < ys.length by have := Hlen.out; omega)
          have hk1 : (0 : Int) ≤ (k : Int) := by omega
          have hk2 : (k : Int) < (xs.length : Int) := by omega
          have hk3 : (k : Int) < (ys.length : Int) := by have := Hlen.out; omega
          by_cases he : nth xs k = nth ys k
          · have hd1 : (nth xs k == nth ys k) = true := by rw [beq_iff_eq]; exact he
            have He := Lib.hid he; clear he
            go_wp2
            go_quiet (fail)
            go_wp2
            go_roundw
            case rel => exact ⟨k + 1, _, true, by omega, by go_num, rfl, by first | rfl | exact (World.drewN_drewN _ _ _).symm | (simp [World.drewN_add]; done), fun _ j hj => by
                by_cases e : j = k
                · subst e; exact He.out
                · exact H1.out j (by omega), by simp⟩
            case measure => simp [intOf]; omega
          · have hd1 : (nth xs k == nth ys k) = false := by rw [beq_eq_false_iff_ne]; exact he
            have He := Lib.hid he; clear he
            go_wp2
            go_quiet (fail)
            go_wp2
            go_roundw
            case rel => exact ⟨k + 1, _, false, by omega, by go_num, rfl, by first | rfl | exact (World.drewN_drewN _ _ _).symm | (simp [World.drewN_add]; done), by simp, fun _ e => He.out (by rw [e])⟩
            case measure => simp [intOf]; omega
        · obtain rfl : k = xs.length := by omega
          have H := Lib.hid (show decide (xs = ys) = true by simpa using eq_of_nth Hlen.out H1.out)
          go_wp2
          go_ret
          exact ⟨ret_bool H.out.symm, m, rfl⟩
  · have hd : ((xs.length : Int) == (ys.length : Int)) = false := by rw [beq_eq_false_iff_ne]; omega
    have H := Lib.hid (show decide (xs = ys) = false by simp; intro e; exact hlen (by rw [e]))
    clear hlen
    go_enter Tryz.func13, Tryz.ntmps13
    go_wp2
    go_loopw [5, 6] (fun s i wr => s = .bool false ∧ i = .int .i64 0 ∧ wr = w) (fun _ _ _ => 0)
    case atStart => exact ⟨rfl, rfl, rfl⟩
    case round =>
      obtain ⟨rfl, rfl, rfl⟩ := hrel
      go_wp2
      go_ret
      exact ⟨ret_bool H.out.symm, 0, rfl⟩
theorem Sl.lit (w : World) (zs : List Int) : Sl (w.alloc (.cells (zs.map (Value.int .i64)).toArray 3)) (some ⟨w.heap.size, 0, none⟩) zs :=
  Full.sl (show Full _ _ _ from Blk.new w 3 _)
end Go.Proofs.YtecpanppnljkhaaGreatDoor

namespace Go.Proofs.YtecpanppnljkhaaGreatDoor
set_option linter.unusedVariables false
set_option maxRecDepth 100000
open Go.RowKit Go.Shelf
def opN (n : Int) : Int := nth [0, 2, 7, 8, 9, 10, 11] (n % 7).toNat
theorem opN_aB (n : Int) : aB (opN n) = true := by
  have h : (n % 7).toNat < 7 := by omega
  unfold opN
  generalize (n % 7).toNat = k at h
  match k, h with
  | 0, _ => rfl
  | 1, _ => rfl
  | 2, _ => rfl
  | 3, _ => rfl
  | 4, _ => rfl
  | 5, _ => rfl
  | 6, _ => rfl
theorem flaggedN_any (n : Int) (w : World) : Calls Tryz.prog 37 #[.int .i64 n] w (Ret (.agg #[.bool true, .int .i64 n]) w) := by
  go_enter Tryz.func37, Tryz.ntmps37
  go_wp2
  refine bodyPost_ret (v := .agg #[.bool true, .int .i64 n]) ?_ rfl ⟨rfl, (Below.refl _ _).alloc (Nat.le_refl _) _⟩
  simp [results, Tryz.f37, go_sem]
theorem plainN_any (n : Int) (w : World) : Calls Tryz.prog 38 #[.int .i64 n] w (Ret (.agg #[.bool false, .int .i64 n]) w) := by
  go_enter Tryz.func38, Tryz.ntmps38
  go_wp2
  refine bodyPost_ret (v := .agg #[.bool false, .int .i64 n]) ?_ rfl ⟨rfl, (Below.refl _ _).alloc (Nat.le_refl _) _⟩
  simp [results, Tryz.f38, go_sem]
set_option maxHeartbeats 4000000 in
theorem same_refl (A A' : Option Addr) (c c' : Nat) (l : List (Bool × Int)) (w : World) (h : SlF w A l) (h' : SlF w A' l) (hl : l.length ≤ 9223372036854775807) :
    Calls Tryz.prog 28 #[.slice A l.length c, .slice A' l.length c'] w (Drew w (.bool true)) := by
  go_enter Tryz.func28, Tryz.ntmps28
  go_wp2
  go_loopw [5, 6] (fun s i wr => ∃ (k m : Nat), k ≤ l.length ∧ i = .int .i64 k ∧ s = .bool true ∧ wr = w.drewN m) (fun s i _ => l.length - (intOf i).toNat)
  case atStart => exact ⟨0, 0, Nat.zero_le _, rfl, rfl, rfl⟩
  case round =>
    obtain ⟨k, m, hk, rfl, rfl, rfl⟩ := hrel
    by_cases hlt : k < l.length
    · obtain ⟨b1, o1, rfl, hb1, hc1, hd1⟩ := h.at_ hlt
      obtain ⟨b2, o2, rfl, hb2, hc2, hd2⟩ := h'.at_ hlt
      have k1 : (0 : Int) ≤ (k : Int) := by omega
      have k2 : (k : Int) < (l.length : Int) := by omega
      obtain ⟨y, hy⟩ : ∃ y, fth l k = y := ⟨_, rfl⟩
      rw [hy] at hc1 hd1 hc2 hd2
      obtain ⟨y1, y2⟩ := y
      clear hy
      go_wp2
      go_quiet (fail)
      go_wp2
      go_roundw
      case rel => exact ⟨k + 1, _, by omega, by go_num, rfl, by first | rfl | exact (World.drewN_drewN _ _ _).symm | exact World.drewN_drewN _ _ _⟩
      case measure => simp [intOf]; omega
    · obtain rfl : k = l.length := by omega
      go_wp2
      go_ret
      exact ⟨rfl, m, rfl⟩
set_option maxHeartbeats 4000000 in
theorem equalLists_refl (A A' : Option Addr) (c c' : Nat) (L : List (List Int)) (w : World) (h : Sll w A L) (h' : Sll w A' L) (hl : L.length ≤ 9223372036854775807) (hs : AllShort L) :
    Calls Tryz.prog 21 #[.slice A L.length c, .slice A' L.length c'] w (Drew w (.bool true)) := by
  go_enter Tryz.func21, Tryz.ntmps21
  go_wp2
  go_loopw [5, 6] (fun s i wr => ∃ (k m : Nat), k ≤ L.length ∧ i = .int .i64 k ∧ s = .bool true ∧ wr = w.drewN m) (fun s i _ => L.length - (intOf i).toNat)
  case atStart => exact ⟨0, 0, Nat.zero_le _, rfl, rfl, rfl⟩
  case round =>
    obtain ⟨k, m, hk, rfl, rfl, rfl⟩ := hrel
    by_cases hlt : k < L.length
    · obtain ⟨b1, o1, rfl, hb1, hcs1⟩ := h (by omega)
      obtain ⟨b2, o2, rfl, hb2, hcs2⟩ := h' (by omega)
      obtain ⟨A1, c1, hc1, _, hs1⟩ := hcs1 k hlt
      obtain ⟨A2, c2, hc2, _, hs2⟩ := hcs2 k hlt
      have hsh := hs k hlt
      have k1 : (0 : Int) ≤ (k : Int) := by omega
      have k2 : (k : Int) < (L.length : Int) := by omega
      obtain ⟨y, hy⟩ : ∃ y, nthL L k = y := ⟨_, rfl⟩
      rw [hy] at hc1 hc2 hs1 hs2 hsh
      have CE := fun W hW1 hW2 => bequal_any A1 A2 c1 c2 y y W hW1 hW2 hsh hsh
      rw [decide_eq_true (rfl : y = y)] at CE
      have CE := Lib.hid CE
      clear hy hcs1 hcs2
      go_wp2
      refine wp_region_mix' (fun W' => (∃ n, W' = w.drewN n)) [false, false, false, false, false, false, false, false, true] (by kernel_rfl) (by kernel_rfl) ⟨m + 1, rfl⟩ ?_
      simp only [mixT, mixH, mixD]
      iterate 8 (refine wpLts_light ?_ (fun W' hW => ?_) ?_; rotate_left; (obtain ⟨n', rfl⟩ := hW; have q1 : (w.drewN n').cell? ⟨b1, o1 + k, none⟩ = some (.slice A1 y.length c1) := hc1; have q2 : (w.drewN n').cell? ⟨b2, o2 + k, none⟩ = some (.slice A2 y.length c2) := hc2; go_simp; try with_reducible rfl); simp only [Act.put, List.setIfInBounds_toArray, List.set_cons_zero, List.set_cons_succ])
      refine wpLts_heavy (wpLts_nil ?_)
      refine wpHvP_call 13 #[.slice A1 y.length c1, .slice A2 y.length c2] (by go_simp) ?_
      refine (CE.out ((w.drewN m).drew) hs1 hs2).mono ?_
      rintro e W1 ⟨rfl, m', rfl⟩
      have hd : (w.drewN m).drew.drewN m' = w.drewN (m + 1 + m') := (World.drewN_drewN (w.drewN m) 1 m').trans ((World.drewN_drewN w m (1 + m')).trans (by rw [Nat.add_assoc]))
      rw [hd]
      clear hd
      refine ⟨_, rfl, ⟨m + 1 + m', rfl⟩, ?_⟩
      simp only [Act.put, List.setIfInBounds_toArray, List.set_cons_zero, List.set_cons_succ]
      refine wpHvP_nil ?_
      go_wp2
      go_roundw
      case rel => exact ⟨k + 1, m + 1 + m', by omega, by go_num, rfl, rfl⟩
      case measure => simp [intOf]; omega
    · obtain rfl : k = L.length := by omega
      go_wp2
      go_ret
      exact ⟨rfl, m, rfl⟩
end Go.Proofs.YtecpanppnljkhaaGreatDoor

namespace Go.Proofs.YtecpanppnljkhaaGreatDoor
set_option linter.unusedVariables false
set_option maxRecDepth 100000
open Go.RowKit Go.Shelf
theorem retL_lit {w w' : World} {zs : List Int} {er : Int} {e : Ending} (xs : List Int) (n : Nat) (h : RetL w zs er e w') (h1 : zs = xs) (h2 : er = 0) (h3 : xs.length = n) :
    ∃ A c, e = .returned (.tuple #[.slice A n c, .int .i64 0]) ∧ n ≤ c ∧ Sl w' A xs ∧ Below w.heap.size w w' := by
  subst h1; subst h2; subst h3; exact h
theorem eq_lit (A A' : Option Addr) (c c' n : Nat) (zs : List Int) (w : World) (hn : zs.length = n) (hx : Sl w A zs) (hy : Sl w A' zs) (hl : zs.length ≤ 9223372036854775807) :
    Calls Tryz.prog 13 #[.slice A n c, .slice A' n c'] w fun e w' => e = .returned (.bool true) ∧ Below w.heap.size w w' := by
  subst hn
  refine (bequal_any A A' c c' zs zs w hx hy hl hl).mono ?_
  rintro e w' ⟨rfl, m, rfl⟩
  exact ⟨by simp, below_drewN' w m⟩
theorem Sl.lit' (w : World) (zs : List Int) (n : Nat) (cs : Array Value) (hn : n = w.heap.size) (hc : (zs.map (Value.int .i64)).toArray = cs) : Sl (w.alloc (.cells cs 3)) (some ⟨n, 0, none⟩) zs := by
  subst hn; subst hc; exact Sl.lit w zs
theorem Blk.new' (w : World) (t : TypeId) (cs : Array Value) (n : Nat) (hn : n = w.heap.size) : Blk (w.alloc (.cells cs t)) n t cs := by
  subst hn; exact Blk.new w t cs
theorem isD3 : IsD 3 2 := ⟨by decide, fun j hj => by match j, hj with | 0, _ => exact (by decide) | 1, _ => exact (by decide), by decide⟩
theorem isD4 : IsD 4 2 := ⟨by decide, fun j hj => by match j, hj with | 0, _ => exact (by decide) | 1, _ => exact (by decide), by decide⟩
theorem kfold (A A' : Option Addr) (w : World) (hI : Inv w) (h : Sl w A [1, 2, 3, 4]) (h' : Sl w A' [2, 0, 2]) : Calls Tryz.prog 7 #[.int .i64 0, .slice A 4 4, .slice A' 3 3] w fun e w' => ∃ B c, e = .returned (.tuple #[.slice B 3 c, .int .i64 0]) ∧ 3 ≤ c ∧ Sl w' B [3, 0, 7] ∧ Below w.heap.size w w' :=
  (fold_any 0 A A' 3 4 [1, 2, 3, 4] [2, 0, 2] w hI h (by decide) (by unfold Ok; simp) h' (by decide) (by unfold Ok; simp)).mono fun e w' H => retL_lit [3, 0, 7] 3 H (by kernel_rfl) (by kernel_rfl) rfl
theorem kscan (A A' : Option Addr) (w : World) (hI : Inv w) (h : Sl w A [1, 2, 3, 4]) (h' : Sl w A' [2, 0, 2]) : Calls Tryz.prog 9 #[.int .i64 0, .slice A 4 4, .slice A' 3 3] w fun e w' => ∃ B c, e = .returned (.tuple #[.slice B 4 c, .int .i64 0]) ∧ 4 ≤ c ∧ Sl w' B [0, 1, 0, 3] ∧ Below w.heap.size w w' :=
  (scan_any 0 A A' 3 4 [1, 2, 3, 4] [2, 0, 2] w hI h (by decide) (by unfold Ok; simp) h' (by decide) (by unfold Ok; simp)).mono fun e w' H => retL_lit [0, 1, 0, 3] 4 H (by kernel_rfl) (by kernel_rfl) rfl
theorem kthru (A A' : Option Addr) (w : World) (hI : Inv w) (h : Sl w A [1, 2, 3, 4]) (h' : Sl w A' [2, 0, 2]) : Calls Tryz.prog 11 #[.int .i64 0, .slice A 4 4, .slice A' 3 3] w fun e w' => ∃ B c, e = .returned (.tuple #[.slice B 4 c, .int .i64 0]) ∧ 4 ≤ c ∧ Sl w' B [1, 3, 3, 7] ∧ Below w.heap.size w w' :=
  (through_any 0 A A' 3 4 [1, 2, 3, 4] [2, 0, 2] w hI h (by decide) (by unfold Ok; simp) h' (by decide) (by unfold Ok; simp)).mono fun e w' H => retL_lit [1, 3, 3, 7] 4 H (by kernel_rfl) (by kernel_rfl) rfl
theorem ktree (A A' : Option Addr) (w : World) (hI : Inv w) (h : Sl w A [2, 3, 4]) (h' : Sl w A' [1, 0]) : Calls Tryz.prog 15 #[.int .i64 2, .slice A 3 3, .slice A' 2 2] w fun e w' => e = .returned (.tuple #[.int .i64 24, .int .i64 0]) ∧ Below w.heap.size w w' := by
  have H := tree_ok 2 2 A A' 3 2 [2, 3, 4] [1, 0] w hI h (by decide) (by unfold Ok; simp) h' (by simp) (by kernel_rfl) isD3 (by decide) ⟨by decide, fun j hj => by match j, hj with | 0, _ => exact (by decide) | 1, _ => exact (by decide)⟩
  have hM : nth (trF (doN 2) 2 [2, 3, 4] [1, 0] [1, 0].length).1 0 = scN (doN 2) (neN 2) [2, 3, 4] [2, 3, 4].length := (mon_op (op := 2) (by decide)).tree (l := [2, 3, 4]) (shape := [1, 0]) (d := 2) (fun j hj => by match j, hj with | 0, _ => exact (by unfold isW nth; decide) | 1, _ => exact (by unfold isW nth; decide) | 2, _ => exact (by unfold isW nth; decide)) isD3 ⟨by decide, fun j hj => by match j, hj with | 0, _ => exact (by decide) | 1, _ => exact (by decide)⟩ (by decide)
  have hS : scN (doN 2) (neN 2) [2, 3, 4] [2, 3, 4].length = 24 := by kernel_rfl
  refine H.mono ?_
  rintro e w' ⟨rfl, hB⟩
  exact ⟨congrArg (fun z => Ending.returned (Value.tuple #[.int .i64 z, .int .i64 0])) (hM.trans hS), hB⟩
theorem kblocks (A : Option Addr) (w : World) (hI : Inv w) (h : Sl w A [1, 2, 3, 4, 5]) : Calls Tryz.prog 17 #[.int .i64 0, .slice A 5 5, .int .i64 2] w fun e w' => ∃ B c B' c', e = .returned (.tuple #[.slice B 3 c, .slice B' 5 c', .int .i64 0]) ∧ Sl w' B [3, 7, 5] ∧ Sl w' B' [0, 1, 3, 6, 10] ∧ Below w.heap.size w w' := by
  have H := blocks_ok 0 2 A 5 [1, 2, 3, 4, 5] w hI h (by decide) (by unfold Ok; simp) (by kernel_rfl) (by decide) (by decide)
  rw [show blS 0 [1, 2, 3, 4, 5] 2 = [3, 7, 5] from by kernel_rfl, show blL 0 [1, 2, 3, 4, 5] 2 = [0, 1, 3, 6, 10] from by kernel_rfl] at H
  refine H.mono ?_
  rintro e w' ⟨B, c, B', c', rfl, _, _, h1, h2, hB⟩
  exact ⟨B, c, B', c', rfl, h1, h2, hB⟩
theorem klevels (A : Option Addr) (w : World) (hI : Inv w) (h : Sl w A [1, 2, 3]) : Calls Tryz.prog 19 #[.int .i64 0, .slice A 3 3] w fun e w' => ∃ B, e = .returned (.tuple #[.slice B 3 3, .int .i64 0]) ∧ Sll w' B [[1, 2, 3, 0], [3, 3], [6]] ∧ Below w.heap.size w w' := by
  refine (levels_ok 0 2 A 3 [1, 2, 3] w hI h (by decide) (by unfold Ok; simp) isD3 (by kernel_rfl)).mono ?_
  rintro e w' ⟨G, vs, rfl, hT, hB⟩
  have h3 := tree_sll (d := 2) hT (by decide)
  rw [show lvs (doN 0) (padL (neN 0) 2 [1, 2, 3]) 2 = [[1, 2, 3, 0], [3, 3], [6]] from by kernel_rfl] at h3
  exact ⟨_, rfl, h3, hB⟩
theorem kdown (A : Option Addr) (w : World) (hI : Inv w) (h : Sll w A [[1, 2, 3, 0], [3, 3], [6]]) : Calls Tryz.prog 22 #[.int .i64 0, .slice A 3 3, .int .i64 3] w fun e w' => ∃ B c, e = .returned (.tuple #[.slice B 3 c, .int .i64 0]) ∧ Sl w' B [0, 1, 3] ∧ Below w.heap.size w w' := by
  refine (down_ok 0 2 3 A 3 [[1, 2, 3, 0], [3, 3], [6]] w hI h (by decide) (fun j hj => by match j, hj with | 0, _ => exact (by decide) | 1, _ => exact (by decide) | 2, _ => exact (by decide)) (by decide) (by simp) (by kernel_rfl) isD4 (by kernel_rfl) (by decide)).mono ?_
  rintro e w' ⟨B, c, rfl, _, h1, hB⟩
  rw [show (dnL (doN 0) (neN 0) [[1, 2, 3, 0], [3, 3], [6]] 2).take 3 = [0, 1, 3] from by kernel_rfl] at h1
  exact ⟨B, c, rfl, h1, hB⟩
theorem kjoin (w : World) (hI : Inv w) : Calls Tryz.prog 24 #[.int .i64 0, .agg #[.bool true, .int .i64 2], .agg #[.bool false, .int .i64 3]] w fun e w' => e = .returned (.tuple #[.agg #[.bool true, .int .i64 5], .int .i64 0]) ∧ Below w.heap.size w w' := by
  refine (joinF_any 0 true false 2 3 w hI).mono ?_
  rintro e w' ⟨rfl, hB⟩
  exact ⟨by rw [show jV 0 (true, 2) (false, 3) = (true, 5) from by kernel_rfl, show jE 0 2 3 = 0 from by kernel_rfl]; rfl, hB⟩
theorem kflag (A : Option Addr) (w : World) (hI : Inv w) (h : SlF w A [(false, 1), (true, 2), (false, 3)]) : Calls Tryz.prog 26 #[.int .i64 0, .slice A 3 3] w fun e w' => ∃ B c, e = .returned (.tuple #[.slice B 3 c, .int .i64 0]) ∧ SlF w' B [(false, 1), (true, 2), (true, 5)] ∧ Below w.heap.size w w' := by
  refine (flagged_any 0 A 3 [(false, 1), (true, 2), (false, 3)] w hI h (by decide) (by simp)).mono ?_
  rintro e w' ⟨B, c, rfl, _, h1, hB⟩
  rw [show flO 0 [(false, 1), (true, 2), (false, 3)] = [(false, 1), (true, 2), (true, 5)] from by kernel_rfl] at h1
  exact ⟨B, c, by rw [show flO 0 [(false, 1), (true, 2), (false, 3)] = [(false, 1), (true, 2), (true, 5)] from by kernel_rfl, show flE 0 [(false, 1), (true, 2), (false, 3)] = 0 from by kernel_rfl]; rfl, h1, hB⟩
end Go.Proofs.YtecpanppnljkhaaGreatDoor

namespace Go.Proofs.YtecpanppnljkhaaGreatDoor
open Go Go.RowKit
section
variable {P : Program} {Q : Exit → Act → World → Prop}
def owB (l : List Oper) (n : Nat) : Bool :=
  Region.noSelect l.toArray &&
  ((List.range l.length).all fun k => match l[k]? with
    | some o => notDefer o && (o.after.all fun e => decide (e.on < k)) &&
      (match o.guard with | some (j, _) => Region.waitsFor .any l.toArray k j && (dstAt l j).isSome | none => true) &&
      (match o.dst with | some t => decide (t < n) && !(o.looksAt l.toArray).contains t | none => true) &&
      ((List.range l.length).all fun j => j == k || match dstAt l j with
        | some t => (dstAt l k != some t) && (!(o.looksAt l.toArray).contains t || Region.waitsFor .any l.toArray k j)
        | none => true)
    | none => false)
/-- Between the operations. -/
structure OwInv (R : Nat → Value → World → Prop) (l : List Oper) (w0 : World) (a0 : Act) (listed : Array Bool) (a : Act) (W : World) : Prop where
  size : listed.size = l.length
  near : ∀ j, listed.getD j false = true → ∀ t, dstAt l j = some t → R j (a.tmps.getD t undef) W
  far : ∀ t, (∀ j, listed.getD j false = true → dstAt l j ≠ some t) → a.tmps[t]? = a0.tmps[t]?
  tsize : a.tmps.size = a0.tmps.size
  defers : a.defers = a0.defers
  base : Below w0.heap.size w0 W
theorem getD_tmps {a b : Act} {t : Nat} (h : a.tmps[t]? = b.tmps[t]?) : a.tmps.getD t undef = b.tmps.getD t undef := by
  rw [Array.getD_eq_getD_getElem?, Array.getD_eq_getD_getElem?, h]
theorem wpAny_ow {l : List Oper} {R : Nat → Value → World → Prop} {w0 : World} {a0 : Act} (hB : owB l a0.tmps.size = true)
    (hmono : ∀ k v W W', R k v W → Below W.heap.size W W' → R k v W')
    (hguard : ∀ (k : Nat) (o : Oper) (j : Nat) (b : Bool), l[k]? = some o → o.guard = some (j, b) → ∀ v W, R j v W → v = .bool b)
    (hstep : ∀ (k : Nat) (o : Oper), l[k]? = some o → ∀ (a : Act) (W : World), Below w0.heap.size w0 W → a.defers = a0.defers →
      (∀ j t, dstAt l j = some t → Region.waitsFor .any l.toArray k j = true → R j (a.tmps.getD t undef) W) → (∀ t, (∀ j, dstAt l j ≠ some t) → a.tmps.getD t undef = a0.tmps.getD t undef) →
      Steps' P o a W (fun v W' => Below W.heap.size W W' ∧ R k v W'))
    (hQ : ∀ a W, Below w0.heap.size w0 W → (∀ k t, dstAt l k = some t → R k (a.tmps.getD t undef) W) → (∀ t, (∀ j, dstAt l j ≠ some t) → a.tmps[t]? = a0.tmps[t]?) → a.tmps.size = a0.tmps.size → a.defers = a0.defers → Q .normal a W) :
    ∀ (fuel : Nat) (listed : Array Bool) (a : Act) (W : World), listed.toList.count false = fuel → OwInv R l w0 a0 listed a W → wpAny P .any l.toArray Q fuel listed a W := by
  simp only [owB, Bool.and_eq_true] at hB
  obtain ⟨hsel, hall⟩ := hB
  have hk : ∀ k, k < l.length → ∃ o, l[k]? = some o ∧ (∀ e ∈ o.after, e.on < k) ∧ (∀ j b, o.guard = some (j, b) → Region.waitsFor .any l.toArray k j = true ∧ (dstAt l j).isSome = true) ∧
      (∀ t, o.dst = some t → t < a0.tmps.size ∧ ¬ t ∈ o.looksAt l.toArray) ∧ ∀ j, j < l.length → j ≠ k → ∀ t, dstAt l j = some t → dstAt l k ≠ some t ∧ (t ∈ o.looksAt l.toArray → Region.waitsFor .any l.toArray k j = true) := by
    intro k hkn
    have := List.all_eq_true.1 hall k (List.mem_range.2 hkn)
    cases ho : l[k]? with
    | none => rw [ho] at this; simp at this
    | some o =>
      rw [ho] at this
      simp only [Bool.and_eq_true] at this
      obtain ⟨⟨⟨⟨_, h2⟩, h3⟩, h4⟩, h5⟩ := this
      refine ⟨o, rfl, fun e he => by simpa using Array.all_eq_true_iff_forall_mem.1 h2 e he, fun j b hg => ?_, fun t ht => ?_, fun j hj hjk t ht => ?_⟩
      · rw [hg] at h3; simpa using h3
      · rw [ht] at h4
        simp only [Bool.and_eq_true, decide_eq_true_eq, Bool.not_eq_true'] at h4
        exact ⟨h4.1, fun hm => by rw [List.contains_iff_mem.2 hm] at h4; exact absurd h4.2 (by decide)⟩
      · have h6 := List.all_eq_true.1 h5 j (List.mem_range.2 hj)
        simp only [Bool.or_eq_true, beq_iff_eq, hjk, false_or, ht, Bool.and_eq_true, bne_iff_ne, ne_eq, Bool.not_eq_true'] at h6
        refine ⟨h6.1, fun hm => ?_⟩
        rcases h6.2 with h7 | h7
        · rw [List.contains_iff_mem.2 hm] at h7; cases h7
        · exact h7
  have dlt : ∀ j t, dstAt l j = some t → j < l.length := fun j t h => by
    rcases Nat.lt_or_ge j l.length with h1 | h1
    · exact h1
    · unfold dstAt at h; rw [List.getElem?_eq_none h1] at h; cases h
  have hdone : ∀ (listed : Array Bool) (a : Act) (W : World), OwInv R l w0 a0 listed a W → (∀ j, j < l.length → listed.getD j false = true) → Q .normal a W := fun listed a W inv hd =>
    hQ a W inv.base (fun k t ht => inv.near k (hd k (dlt k t ht)) t ht) (fun t hno => inv.far t fun j _ => hno j) inv.tsize inv.defers
  have hready : ∀ (listed : Array Bool), listed.size = l.length → Region.ready .any l.toArray listed = [] → ∀ j, j < l.length → listed.getD j false = true := by
    intro listed hs h0
    have : ∀ d j, j ≤ d → j < l.length → listed.getD j false = true := by
      intro d
      induction d with
      | zero =>
        intro j hjd hj
        obtain rfl : j = 0 := by omega
        cases hx : listed.getD 0 false with
        | true => rfl
        | false =>
          obtain ⟨o, ho, h2, _⟩ := hk 0 hj
          have : 0 ∈ Region.ready .any l.toArray listed := mem_ready.2 ⟨getD_in (by omega) hx, o, by simpa using ho, fun e he _ => by have := h2 e he; omega⟩
          rw [h0] at this; cases this
      | succ d ihd =>
        intro j hjd hj
        by_cases hjd' : j ≤ d
        · exact ihd j hjd' hj
        · cases hx : listed.getD j false with
          | true => rfl
          | false =>
            obtain ⟨o, ho, h2, _⟩ := hk j hj
            have : j ∈ Region.ready .any l.toArray listed := mem_ready.2 ⟨getD_in (by omega) hx, o, by simpa using ho, fun e he _ => by have := h2 e he; exact ihd e.on (by omega) (by omega)⟩
            rw [h0] at this; cases this
    exact fun j hj => this j j (Nat.le_refl _) hj
  intro fuel
  induction fuel with
  | zero =>
    intro listed a W hc inv
    have hd : ∀ j, j < l.length → listed.getD j false = true := fun j hj => by
      cases hx : listed.getD j false with
      | true => rfl
      | false =>
        have hlt : j < listed.size := by rw [inv.size]; exact hj
        have hm : false ∈ listed.toList := by
          have e : listed[j] = false := by simpa [Array.getD_eq_getD_getElem?, hlt] using hx
          rw [← e]; exact Array.mem_toList_iff.2 (Array.getElem_mem hlt)
        have := List.count_pos_iff.2 hm
        omega
    refine ⟨?_, hdone listed a W inv hd⟩
    refine List.eq_nil_iff_forall_not_mem.2 fun i hi => ?_
    obtain ⟨hun, o, ho, _⟩ := mem_ready.1 hi
    have hi' : i < l.length := by
      have := (Array.getElem?_eq_some_iff.1 ho).1
      simpa using this
    have := getD_both hun
    rw [hd i hi'] at this; cases this
  | succ fuel ih =>
    intro listed a W hc inv
    refine ⟨fun h0 => hdone listed a W inv (hready listed inv.size h0), fun i hi => ?_⟩
    obtain ⟨hun, o, hoi, hafter⟩ := mem_ready.1 hi
    have hin : i < l.length := by
      have := (Array.getElem?_eq_some_iff.1 hoi).1
      simpa using this
    obtain ⟨o', ho, h2, hg, hdst, h3⟩ := hk i hin
    obtain rfl : o' = o := by
      have : l.toArray[i]? = some o' := by simpa using ho
      exact Option.some.inj (this.symm.trans hoi)
    have hunl : listed.getD i false = false := getD_both hun
    have hlisted : ∀ j, Region.waitsFor .any l.toArray i j = true → listed.getD j false = true := by
      intro j hw
      obtain ⟨oj, hoj, e, he, hb, hon⟩ := Region.waitsFor_spec hw
      obtain rfl : o' = oj := Option.some.inj (hoi.symm.trans hoj)
      have hlj := hafter e he hb
      rwa [hon] at hlj
    have hwant : Region.wanted o' (yielded l.toArray a.tmps) = true := by
      cases hgd : o'.guard with
      | none => simp [Region.wanted, hgd]
      | some p =>
        obtain ⟨j, b⟩ := p
        obtain ⟨hw, hs⟩ := hg j b hgd
        obtain ⟨t, ht⟩ := Option.isSome_iff_exists.1 hs
        have hv := hguard i o' j b ho hgd _ _ (inv.near j (hlisted j hw) t ht)
        have hy : yielded l.toArray a.tmps j = some b := by
          have e1 : (l.toArray[j]?).bind (·.dst) = some t := by simpa [dstAt] using ht
          have e2 : a.tmps[t]? = some (.bool b) := by
            rw [Array.getD_eq_getD_getElem?] at hv
            cases hx : a.tmps[t]? with
            | none => rw [hx] at hv; cases hv
            | some u => rw [hx] at hv; simpa using hv
          unfold yielded
          rw [e1]
          simp [e2]
        simp [Region.wanted, hgd, hy]
    have hsz : i < listed.size := by rw [inv.size]; exact hin
    have hst := hstep i o' ho a W inv.base inv.defers (fun j t ht hw => inv.near j (hlisted j hw) t ht) (fun t hno => getD_tmps (inv.far t fun j _ => hno j))
    unfold wpOp
    simp only [hoi, hwant, if_true]
    refine .inl (hst.wp ?_)
    rintro v W' ⟨hBW, hRv⟩
    refine ih _ _ _ (count_set_true hun hc) ⟨by simpa using inv.size, fun j hj t ht => ?_, fun t hno => ?_, by rw [put_size, inv.tsize], by rw [put_defers', inv.defers], inv.base.trans (hBW.mono inv.base.size)⟩
    · by_cases hij : i = j
      · subst hij
        have hd' : o'.dst = some t := by simpa [dstAt, ho] using ht
        have hlt : t < a.tmps.size := by rw [inv.tsize]; exact (hdst t hd').1
        have : (a.put o'.dst v).tmps.getD t undef = v := by rw [hd']; simp [Act.put, hlt]
        rw [this]; exact hRv
      · rw [getD_set_ne false hij] at hj
        have hd' : o'.dst ≠ some t := by
          have := (h3 j (dlt j t ht) (Ne.symm hij) t ht).1
          simpa [dstAt, ho] using this
        have e : (a.put o'.dst v).tmps.getD t undef = a.tmps.getD t undef := by
          rw [Array.getD_eq_getD_getElem?, Array.getD_eq_getD_getElem?, put_far _ _ _ _ hd']
        rw [e]
        exact hmono _ _ _ _ (inv.near j hj t ht) hBW
    · have hd' : o'.dst ≠ some t := by
        have := hno i (by simp [hsz])
        simpa [dstAt, ho] using this
      rw [put_far _ _ _ _ hd']
      exact inv.far t fun j hj => hno j (getD_set_true hj)
theorem wp_region_ow {id : Nat} {a : Act} {w : World} {l : List Oper} (R : Nat → Value → World → Prop) (hm : P.follows .mixedOrders = true) (hB : owB l a.tmps.size = true)
    (hmono : ∀ k v W W', R k v W → Below W.heap.size W W' → R k v W')
    (hguard : ∀ (k : Nat) (o : Oper) (j : Nat) (b : Bool), l[k]? = some o → o.guard = some (j, b) → ∀ v W, R j v W → v = .bool b)
    (hstep : ∀ (k : Nat) (o : Oper), l[k]? = some o → ∀ (a' : Act) (W : World), Below w.heap.size w W → a'.defers = a.defers →
      (∀ j t, dstAt l j = some t → Region.waitsFor .any l.toArray k j = true → R j (a'.tmps.getD t undef) W) → (∀ t, (∀ j, dstAt l j ≠ some t) → a'.tmps.getD t undef = a.tmps.getD t undef) →
      Steps' P o a' W (fun v W' => Below W.heap.size W W' ∧ R k v W'))
    (hQ : ∀ a' W, Below w.heap.size w W → (∀ k t, dstAt l k = some t → R k (a'.tmps.getD t undef) W) → (∀ t, (∀ j, dstAt l j ≠ some t) → a'.tmps[t]? = a.tmps[t]?) → a'.tmps.size = a.tmps.size → a'.defers = a.defers → Q .normal a' W) :
    (Code.region id l.toArray true).wp P Q a w := by
  refine wp_region_any hm ?_
  refine wpAny_ow (R := R) (w0 := w) (a0 := a) hB hmono hguard hstep hQ _ _ _ _ (by simp) ⟨by simp, fun j hj => (by rw [getD_replicate_false] at hj; cases hj), fun t _ => rfl, rfl, rfl, (Below.refl _ _).drew⟩
end
end Go.Proofs.YtecpanppnljkhaaGreatDoor

namespace Go.Proofs.YtecpanppnljkhaaGreatDoor
set_option linter.unusedVariables false
open Go.RowKit Go.Shelf
theorem Sl.al {w : World} {A : Option Addr} {zs : List Int} (h : Sl w A zs) (o : Obj) : Sl (w.alloc o) A zs := h.below ((Below.refl w.heap.size w).alloc (Nat.le_refl _) o) (Nat.le_refl _)
theorem Sll.al {w : World} {A : Option Addr} {L : List (List Int)} (h : Sll w A L) (o : Obj) : Sll (w.alloc o) A L := h.below ((Below.refl w.heap.size w).alloc (Nat.le_refl _) o)
theorem Sll.step {w w' : World} {A : Option Addr} {L : List (List Int)} (h : Sll w A L) (hb : Below w.heap.size w w') : Sll w' A L := h.below hb
theorem SlF.al {w : World} {A : Option Addr} {ps : List (Bool × Int)} (h : SlF w A ps) (o : Obj) : SlF (w.alloc o) A ps := h.below ((Below.refl w.heap.size w).alloc (Nat.le_refl _) o) (Nat.le_refl _)
theorem sll_three {w : World} {g n1 n2 n3 : Nat} {A1 A2 A3 : Option Addr} {l1 l2 l3 : List Int} (hb : Blk w g 22 #[.slice A1 n1 n1, .slice A2 n2 n2, .slice A3 n3 n3]) (h1 : Sl w A1 l1) (h2 : Sl w A2 l2) (h3 : Sl w A3 l3) (e1 : l1.length = n1 := by rfl) (e2 : l2.length = n2 := by rfl) (e3 : l3.length = n3 := by rfl) : Sll w (some ⟨g, 0, none⟩) [l1, l2, l3] := fun _ =>
  ⟨g, 0, rfl, hb.lt, fun j hj => by
    subst e1; subst e2; subst e3
    rw [Nat.zero_add, hb.cell]
    match j, hj with
    | 0, _ => exact ⟨A1, l1.length, rfl, Nat.le_refl _, h1⟩
    | 1, _ => exact ⟨A2, l2.length, rfl, Nat.le_refl _, h2⟩
    | 2, _ => exact ⟨A3, l3.length, rfl, Nat.le_refl _, h3⟩⟩
/-- What is known of a slot. -/
inductive Kd where
  | val (v : Value)
  | sl (zs : List Int)
  | sll (L : List (List Int))
  | slf (ps : List (Bool × Int))
def Kd.R : Kd → Value → World → Prop
  | .val u, v, _ => v = u
  | .sl zs, v, W => ∃ n : Nat, v = .slice (some ⟨n, 0, none⟩) zs.length zs.length ∧ Sl W (some ⟨n, 0, none⟩) zs
  | .sll L, v, W => ∃ n : Nat, v = .slice (some ⟨n, 0, none⟩) L.length L.length ∧ Sll W (some ⟨n, 0, none⟩) L
  | .slf ps, v, W => ∃ n : Nat, v = .slice (some ⟨n, 0, none⟩) ps.length ps.length ∧ SlF W (some ⟨n, 0, none⟩) ps
theorem Kd.mono {k : Kd} {v : Value} {W W' : World} (h : k.R v W) (hb : Below W.heap.size W W') : k.R v W' := by
  cases k with
  | val u => exact h
  | sl zs => obtain ⟨n, e, h⟩ := h; exact ⟨n, e, h.step hb⟩
  | sll L => obtain ⟨n, e, h⟩ := h; exact ⟨n, e, h.step hb⟩
  | slf ps => obtain ⟨n, e, h⟩ := h; exact ⟨n, e, h.step hb⟩
def Kd.isT : Kd → Bool → Bool
  | .val (.bool b), c => b == c
  | _, _ => false
theorem Kd.isT_spec {k : Kd} {c : Bool} (h : k.isT c = true) {v : Value} {W : World} (hr : k.R v W) : v = .bool c := by
  cases k with
  | val u =>
    cases u with
    | bool b =>
      have : b = c := by simpa [Kd.isT] using h
      subst this; exact hr
    | _ => cases h
  | _ => cases h
theorem kd_guard {KD : List Kd} {l : List Oper} (h : ((List.range l.length).all fun k => match l[k]? with | some o => (match o.guard with | some (j, b) => (KD.getD j (.val undef)).isT b | none => true) | none => true) = true) :
    ∀ (k : Nat) (o : Oper) (j : Nat) (b : Bool), l[k]? = some o → o.guard = some (j, b) → ∀ v W, (KD.getD j (.val undef)).R v W → v = .bool b := fun k o j b ho hg v W hr => by
  have hk : k < l.length := (List.getElem?_eq_some_iff.1 ho).1
  have := List.all_eq_true.1 h k (List.mem_range.2 hk)
  simp only [ho, hg] at this
  exact Kd.isT_spec this hr
def noDst (l : List Oper) (t : Nat) : Bool := l.all fun o => o.dst != some t
theorem noDst_spec {l : List Oper} {t : Nat} (h : noDst l t = true) : ∀ j, dstAt l j ≠ some t := fun j hj => by
  unfold dstAt at hj
  obtain ⟨o, ho, hd⟩ := Option.bind_eq_some_iff.1 hj
  have := List.all_eq_true.1 h o (List.mem_of_getElem? ho)
  rw [hd] at this
  simp at this
set_option maxRecDepth 100000 in
set_option maxHeartbeats 40000000 in
theorem joined_any (w : World) (hI : Inv w) : Calls Tryz.prog 14 #[] w (Ret (.bool true) w) := by
  go_enter Tryz.func14, Tryz.ntmps14
  have hBB : Below w.heap.size w w := Below.refl _ _
  go_wp2_with fail
  have l0 : Sl (World.alloc w (.cells #[.int .i64 1, .int .i64 2, .int .i64 3, .int .i64 4] 3)) (some ⟨w.heap.size, 0, none⟩) [1, 2, 3, 4] := Sl.lit' w [1, 2, 3, 4] (w.heap.size) #[.int .i64 1, .int .i64 2, .int .i64 3, .int .i64 4] (by simp) rfl
  replace hBB := hBB.alloc hBB.size (.cells #[.int .i64 1, .int .i64 2, .int .i64 3, .int .i64 4] 3)
  replace l0 := l0.al (.cells #[.int .i64 2, .int .i64 0, .int .i64 2] 3)
  have l1 : Sl (World.alloc (World.alloc w (.cells #[.int .i64 1, .int .i64 2, .int .i64 3, .int .i64 4] 3)) (.cells #[.int .i64 2, .int .i64 0, .int .i64 2] 3)) (some ⟨w.heap.size + 1, 0, none⟩) [2, 0, 2] := Sl.lit' (World.alloc w (.cells #[.int .i64 1, .int .i64 2, .int .i64 3, .int .i64 4] 3)) [2, 0, 2] (w.heap.size + 1) #[.int .i64 2, .int .i64 0, .int .i64 2] (by simp) rfl
  replace hBB := hBB.alloc hBB.size (.cells #[.int .i64 2, .int .i64 0, .int .i64 2] 3)
  refine (kfold _ _ _ (hI.below hBB) l0 l1).mono ?_
  rintro e w1 ⟨Aha, cha, rfl, hcha, ha, hB⟩
  replace l0 := l0.step hB
  replace l1 := l1.step hB
  replace hBB := hBB.trans (hB.mono hBB.size)
  clear hB
  go_wp2_with fail
  refine (kscan _ _ _ (hI.below hBB) l0 l1).mono ?_
  rintro e w2 ⟨Ahb, chb, rfl, hchb, hb, hB⟩
  replace l0 := l0.step hB
  replace l1 := l1.step hB
  replace ha := ha.step hB
  replace hBB := hBB.trans (hB.mono hBB.size)
  clear hB
  go_wp2_with fail
  refine (kthru _ _ _ (hI.below hBB) l0 l1).mono ?_
  clear l0
  clear l1
  rintro e w3 ⟨Ahc, chc, rfl, hchc, hc, hB⟩
  replace ha := ha.step hB
  replace hb := hb.step hB
  replace hBB := hBB.trans (hB.mono hBB.size)
  clear hB
  go_wp2_with fail
  replace ha := ha.al (.cells #[.int .i64 2, .int .i64 3, .int .i64 4] 3)
  replace hb := hb.al (.cells #[.int .i64 2, .int .i64 3, .int .i64 4] 3)
  replace hc := hc.al (.cells #[.int .i64 2, .int .i64 3, .int .i64 4] 3)
  have u0 : Sl (World.alloc w3 (.cells #[.int .i64 2, .int .i64 3, .int .i64 4] 3)) (some ⟨w3.heap.size, 0, none⟩) [2, 3, 4] := Sl.lit' w3 [2, 3, 4] (w3.heap.size) #[.int .i64 2, .int .i64 3, .int .i64 4] (by simp) rfl
  replace hBB := hBB.alloc hBB.size (.cells #[.int .i64 2, .int .i64 3, .int .i64 4] 3)
  replace ha := ha.al (.cells #[.int .i64 1, .int .i64 0] 3)
  replace hb := hb.al (.cells #[.int .i64 1, .int .i64 0] 3)
  replace hc := hc.al (.cells #[.int .i64 1, .int .i64 0] 3)
  replace u0 := u0.al (.cells #[.int .i64 1, .int .i64 0] 3)
  have u1 : Sl (World.alloc (World.alloc w3 (.cells #[.int .i64 2, .int .i64 3, .int .i64 4] 3)) (.cells #[.int .i64 1, .int .i64 0] 3)) (some ⟨w3.heap.size + 1, 0, none⟩) [1, 0] := Sl.lit' (World.alloc w3 (.cells #[.int .i64 2, .int .i64 3, .int .i64 4] 3)) [1, 0] (w3.heap.size + 1) #[.int .i64 1, .int .i64 0] (by simp) rfl
  replace hBB := hBB.alloc hBB.size (.cells #[.int .i64 1, .int .i64 0] 3)
  refine (ktree _ _ _ (hI.below hBB) u0 u1).mono ?_
  clear u0
  clear u1
  rintro e w4 ⟨rfl, hB⟩
  replace ha := ha.step hB
  replace hb := hb.step hB
  replace hc := hc.step hB
  replace hBB := hBB.trans (hB.mono hBB.size)
  clear hB
  go_wp2_with fail
  replace ha := ha.al (.cells #[.int .i64 1, .int .i64 2, .int .i64 3, .int .i64 4, .int .i64 5] 3)
  replace hb := hb.al (.cells #[.int .i64 1, .int .i64 2, .int .i64 3, .int .i64 4, .int .i64 5] 3)
  replace hc := hc.al (.cells #[.int .i64 1, .int .i64 2, .int .i64 3, .int .i64 4, .int .i64 5] 3)
  have u0 : Sl (World.alloc w4 (.cells #[.int .i64 1, .int .i64 2, .int .i64 3, .int .i64 4, .int .i64 5] 3)) (some ⟨w4.heap.size, 0, none⟩) [1, 2, 3, 4, 5] := Sl.lit' w4 [1, 2, 3, 4, 5] (w4.heap.size) #[.int .i64 1, .int .i64 2, .int .i64 3, .int .i64 4, .int .i64 5] (by simp) rfl
  replace hBB := hBB.alloc hBB.size (.cells #[.int .i64 1, .int .i64 2, .int .i64 3, .int .i64 4, .int .i64 5] 3)
  refine (kblocks _ _ (hI.below hBB) u0).mono ?_
  clear u0
  rintro e w5 ⟨Ax, cx, Ay, cy, rfl, hx, hy, hB⟩
  replace ha := ha.step hB
  replace hb := hb.step hB
  replace hc := hc.step hB
  replace hBB := hBB.trans (hB.mono hBB.size)
  clear hB
  go_wp2_with fail
  replace ha := ha.al (.cells #[.int .i64 3, .int .i64 0, .int .i64 7] 3)
  replace hb := hb.al (.cells #[.int .i64 3, .int .i64 0, .int .i64 7] 3)
  replace hc := hc.al (.cells #[.int .i64 3, .int .i64 0, .int .i64 7] 3)
  replace hx := hx.al (.cells #[.int .i64 3, .int .i64 0, .int .i64 7] 3)
  replace hy := hy.al (.cells #[.int .i64 3, .int .i64 0, .int .i64 7] 3)
  have z : Sl (World.alloc w5 (.cells #[.int .i64 3, .int .i64 0, .int .i64 7] 3)) (some ⟨w5.heap.size, 0, none⟩) [3, 0, 7] := Sl.lit' w5 [3, 0, 7] (w5.heap.size) #[.int .i64 3, .int .i64 0, .int .i64 7] (by simp) rfl
  replace hBB := hBB.alloc hBB.size (.cells #[.int .i64 3, .int .i64 0, .int .i64 7] 3)
  refine (eq_lit _ _ _ _ 3 [3, 0, 7] _ rfl ha z (by decide)).mono ?_
  clear z
  clear ha
  rintro e w6 ⟨rfl, hB⟩
  replace hb := hb.step hB
  replace hc := hc.step hB
  replace hx := hx.step hB
  replace hy := hy.step hB
  replace hBB := hBB.trans (hB.mono hBB.size)
  clear hB
  go_wp2_with fail
  replace hb := hb.al (.cells #[.int .i64 0, .int .i64 1, .int .i64 0, .int .i64 3] 3)
  replace hc := hc.al (.cells #[.int .i64 0, .int .i64 1, .int .i64 0, .int .i64 3] 3)
  replace hx := hx.al (.cells #[.int .i64 0, .int .i64 1, .int .i64 0, .int .i64 3] 3)
  replace hy := hy.al (.cells #[.int .i64 0, .int .i64 1, .int .i64 0, .int .i64 3] 3)
  have z : Sl (World.alloc w6 (.cells #[.int .i64 0, .int .i64 1, .int .i64 0, .int .i64 3] 3)) (some ⟨w6.heap.size, 0, none⟩) [0, 1, 0, 3] := Sl.lit' w6 [0, 1, 0, 3] (w6.heap.size) #[.int .i64 0, .int .i64 1, .int .i64 0, .int .i64 3] (by simp) rfl
  replace hBB := hBB.alloc hBB.size (.cells #[.int .i64 0, .int .i64 1, .int .i64 0, .int .i64 3] 3)
  refine (eq_lit _ _ _ _ 4 [0, 1, 0, 3] _ rfl hb z (by decide)).mono ?_
  clear z
  clear hb
  rintro e w7 ⟨rfl, hB⟩
  replace hc := hc.step hB
  replace hx := hx.step hB
  replace hy := hy.step hB
  replace hBB := hBB.trans (hB.mono hBB.size)
  clear hB
  go_wp2_with fail
  replace hc := hc.al (.cells #[.int .i64 1, .int .i64 3, .int .i64 3, .int .i64 7] 3)
  replace hx := hx.al (.cells #[.int .i64 1, .int .i64 3, .int .i64 3, .int .i64 7] 3)
  replace hy := hy.al (.cells #[.int .i64 1, .int .i64 3, .int .i64 3, .int .i64 7] 3)
  have z : Sl (World.alloc w7 (.cells #[.int .i64 1, .int .i64 3, .int .i64 3, .int .i64 7] 3)) (some ⟨w7.heap.size, 0, none⟩) [1, 3, 3, 7] := Sl.lit' w7 [1, 3, 3, 7] (w7.heap.size) #[.int .i64 1, .int .i64 3, .int .i64 3, .int .i64 7] (by simp) rfl
  replace hBB := hBB.alloc hBB.size (.cells #[.int .i64 1, .int .i64 3, .int .i64 3, .int .i64 7] 3)
  refine (eq_lit _ _ _ _ 4 [1, 3, 3, 7] _ rfl hc z (by decide)).mono ?_
  clear z
  clear hc
  rintro e w8 ⟨rfl, hB⟩
  replace hx := hx.step hB
  replace hy := hy.step hB
  replace hBB := hBB.trans (hB.mono hBB.size)
  clear hB
  go_wp2_with fail
  replace hx := hx.al (.cells #[.int .i64 3, .int .i64 7, .int .i64 5] 3)
  replace hy := hy.al (.cells #[.int .i64 3, .int .i64 7, .int .i64 5] 3)
  have z : Sl (World.alloc w8 (.cells #[.int .i64 3, .int .i64 7, .int .i64 5] 3)) (some ⟨w8.heap.size, 0, none⟩) [3, 7, 5] := Sl.lit' w8 [3, 7, 5] (w8.heap.size) #[.int .i64 3, .int .i64 7, .int .i64 5] (by simp) rfl
  replace hBB := hBB.alloc hBB.size (.cells #[.int .i64 3, .int .i64 7, .int .i64 5] 3)
  refine (eq_lit _ _ _ _ 3 [3, 7, 5] _ rfl hx z (by decide)).mono ?_
  clear z
  clear hx
  rintro e w9 ⟨rfl, hB⟩
  replace hy := hy.step hB
  replace hBB := hBB.trans (hB.mono hBB.size)
  clear hB
  go_wp2_with fail
  replace hy := hy.al (.cells #[.int .i64 0, .int .i64 1, .int .i64 3, .int .i64 6, .int .i64 10] 3)
  have z : Sl (World.alloc w9 (.cells #[.int .i64 0, .int .i64 1, .int .i64 3, .int .i64 6, .int .i64 10] 3)) (some ⟨w9.heap.size, 0, none⟩) [0, 1, 3, 6, 10] := Sl.lit' w9 [0, 1, 3, 6, 10] (w9.heap.size) #[.int .i64 0, .int .i64 1, .int .i64 3, .int .i64 6, .int .i64 10] (by simp) rfl
  replace hBB := hBB.alloc hBB.size (.cells #[.int .i64 0, .int .i64 1, .int .i64 3, .int .i64 6, .int .i64 10] 3)
  refine (eq_lit _ _ _ _ 5 [0, 1, 3, 6, 10] _ rfl hy z (by decide)).mono ?_
  clear z
  clear hy
  rintro e w10 ⟨rfl, hB⟩
  replace hBB := hBB.trans (hB.mono hBB.size)
  clear hB
  go_wp2_with fail
  have u0 : Sl (World.alloc w10 (.cells #[.int .i64 1, .int .i64 2, .int .i64 3] 3)) (some ⟨w10.heap.size, 0, none⟩) [1, 2, 3] := Sl.lit' w10 [1, 2, 3] (w10.heap.size) #[.int .i64 1, .int .i64 2, .int .i64 3] (by simp) rfl
  replace hBB := hBB.alloc hBB.size (.cells #[.int .i64 1, .int .i64 2, .int .i64 3] 3)
  refine (klevels _ _ (hI.below hBB) u0).mono ?_
  clear u0
  rintro e w11 ⟨Am, rfl, hm, hB⟩
  replace hBB := hBB.trans (hB.mono hBB.size)
  clear hB
  go_wp2_with fail
  replace hm := hm.al (.cells #[.int .i64 1, .int .i64 2, .int .i64 3, .int .i64 0] 3)
  have u0 : Sl (World.alloc w11 (.cells #[.int .i64 1, .int .i64 2, .int .i64 3, .int .i64 0] 3)) (some ⟨w11.heap.size, 0, none⟩) [1, 2, 3, 0] := Sl.lit' w11 [1, 2, 3, 0] (w11.heap.size) #[.int .i64 1, .int .i64 2, .int .i64 3, .int .i64 0] (by simp) rfl
  replace hBB := hBB.alloc hBB.size (.cells #[.int .i64 1, .int .i64 2, .int .i64 3, .int .i64 0] 3)
  replace hm := hm.al (.cells #[.int .i64 3, .int .i64 3] 3)
  replace u0 := u0.al (.cells #[.int .i64 3, .int .i64 3] 3)
  have u1 : Sl (World.alloc (World.alloc w11 (.cells #[.int .i64 1, .int .i64 2, .int .i64 3, .int .i64 0] 3)) (.cells #[.int .i64 3, .int .i64 3] 3)) (some ⟨w11.heap.size + 1, 0, none⟩) [3, 3] := Sl.lit' (World.alloc w11 (.cells #[.int .i64 1, .int .i64 2, .int .i64 3, .int .i64 0] 3)) [3, 3] (w11.heap.size + 1) #[.int .i64 3, .int .i64 3] (by simp) rfl
  replace hBB := hBB.alloc hBB.size (.cells #[.int .i64 3, .int .i64 3] 3)
  replace hm := hm.al (.cells #[.int .i64 6] 3)
  replace u0 := u0.al (.cells #[.int .i64 6] 3)
  replace u1 := u1.al (.cells #[.int .i64 6] 3)
  have u2 : Sl (World.alloc (World.alloc (World.alloc w11 (.cells #[.int .i64 1, .int .i64 2, .int .i64 3, .int .i64 0] 3)) (.cells #[.int .i64 3, .int .i64 3] 3)) (.cells #[.int .i64 6] 3)) (some ⟨w11.heap.size + 2, 0, none⟩) [6] := Sl.lit' (World.alloc (World.alloc w11 (.cells #[.int .i64 1, .int .i64 2, .int .i64 3, .int .i64 0] 3)) (.cells #[.int .i64 3, .int .i64 3] 3)) [6] (w11.heap.size + 2) #[.int .i64 6] (by simp) rfl
  replace hBB := hBB.alloc hBB.size (.cells #[.int .i64 6] 3)
  replace hm := hm.al (.cells #[.slice (some ⟨w11.heap.size, 0, none⟩) 4 4, .slice (some ⟨w11.heap.size + 1, 0, none⟩) 2 2, .slice (some ⟨w11.heap.size + 2, 0, none⟩) 1 1] 22)
  replace u0 := u0.al (.cells #[.slice (some ⟨w11.heap.size, 0, none⟩) 4 4, .slice (some ⟨w11.heap.size + 1, 0, none⟩) 2 2, .slice (some ⟨w11.heap.size + 2, 0, none⟩) 1 1] 22)
  replace u1 := u1.al (.cells #[.slice (some ⟨w11.heap.size, 0, none⟩) 4 4, .slice (some ⟨w11.heap.size + 1, 0, none⟩) 2 2, .slice (some ⟨w11.heap.size + 2, 0, none⟩) 1 1] 22)
  replace u2 := u2.al (.cells #[.slice (some ⟨w11.heap.size, 0, none⟩) 4 4, .slice (some ⟨w11.heap.size + 1, 0, none⟩) 2 2, .slice (some ⟨w11.heap.size + 2, 0, none⟩) 1 1] 22)
  replace hBB := hBB.alloc hBB.size (.cells #[.slice (some ⟨w11.heap.size, 0, none⟩) 4 4, .slice (some ⟨w11.heap.size + 1, 0, none⟩) 2 2, .slice (some ⟨w11.heap.size + 2, 0, none⟩) 1 1] 22)
  have hg : Blk (World.alloc (World.alloc (World.alloc (World.alloc w11 (.cells #[.int .i64 1, .int .i64 2, .int .i64 3, .int .i64 0] 3)) (.cells #[.int .i64 3, .int .i64 3] 3)) (.cells #[.int .i64 6] 3)) (.cells #[.slice (some ⟨w11.heap.size, 0, none⟩) 4 4, .slice (some ⟨w11.heap.size + 1, 0, none⟩) 2 2, .slice (some ⟨w11.heap.size + 2, 0, none⟩) 1 1] 22)) (w11.heap.size + 3) 22 #[.slice (some ⟨w11.heap.size, 0, none⟩) 4 4, .slice (some ⟨w11.heap.size + 1, 0, none⟩) 2 2, .slice (some ⟨w11.heap.size + 2, 0, none⟩) 1 1] := Blk.new' (World.alloc (World.alloc (World.alloc w11 (.cells #[.int .i64 1, .int .i64 2, .int .i64 3, .int .i64 0] 3)) (.cells #[.int .i64 3, .int .i64 3] 3)) (.cells #[.int .i64 6] 3)) 22 #[.slice (some ⟨w11.heap.size, 0, none⟩) 4 4, .slice (some ⟨w11.heap.size + 1, 0, none⟩) 2 2, .slice (some ⟨w11.heap.size + 2, 0, none⟩) 1 1] (w11.heap.size + 3) (by simp)
  have hL := sll_three hg u0 u1 u2
  refine (kdown _ _ (hI.below hBB) hL).mono ?_
  clear u0
  clear u1
  clear u2
  rintro e w12 ⟨Ad, cd, rfl, hd, hB⟩
  replace hm := hm.step hB
  replace hBB := hBB.trans (hB.mono hBB.size)
  clear hB
  clear hg hL
  go_wp2_with fail
  refine (flaggedN_any _ _).mono ?_
  rintro e w13 ⟨rfl, hB⟩
  replace hm := hm.step hB
  replace hd := hd.step hB
  replace hBB := hBB.trans (hB.mono hBB.size)
  clear hB
  go_wp2_with fail
  refine (plainN_any _ _).mono ?_
  rintro e w14 ⟨rfl, hB⟩
  replace hm := hm.step hB
  replace hd := hd.step hB
  replace hBB := hBB.trans (hB.mono hBB.size)
  clear hB
  go_wp2_with fail
  refine (kjoin _ (hI.below hBB)).mono ?_
  rintro e w15 ⟨rfl, hB⟩
  replace hm := hm.step hB
  replace hd := hd.step hB
  replace hBB := hBB.trans (hB.mono hBB.size)
  clear hB
  replace hm := hm.al (.cells #[.bool true, .int .i64 5] 41)
  replace hd := hd.al (.cells #[.bool true, .int .i64 5] 41)
  replace hBB := hBB.alloc hBB.size (.cells #[.bool true, .int .i64 5] 41)
  have hj := Blk.new w15 41 #[.bool true, .int .i64 5]
  go_wp2_with fail
  refine (plainN_any _ _).mono ?_
  rintro e w16 ⟨rfl, hB⟩
  replace hm := hm.step hB
  replace hd := hd.step hB
  replace hj := hj.below hB hj.lt
  replace hBB := hBB.trans (hB.mono hBB.size)
  clear hB
  go_wp2_with fail
  refine (flaggedN_any _ _).mono ?_
  rintro e w17 ⟨rfl, hB⟩
  replace hm := hm.step hB
  replace hd := hd.step hB
  replace hj := hj.below hB hj.lt
  replace hBB := hBB.trans (hB.mono hBB.size)
  clear hB
  go_wp2_with fail
  refine (plainN_any _ _).mono ?_
  rintro e w18 ⟨rfl, hB⟩
  replace hm := hm.step hB
  replace hd := hd.step hB
  replace hj := hj.below hB hj.lt
  replace hBB := hBB.trans (hB.mono hBB.size)
  clear hB
  go_wp2_with fail
  replace hm := hm.al (.cells #[.bool false, .int .i64 1, .bool true, .int .i64 2, .bool false, .int .i64 3] 41)
  replace hd := hd.al (.cells #[.bool false, .int .i64 1, .bool true, .int .i64 2, .bool false, .int .i64 3] 41)
  replace hj := hj.alloc (.cells #[.bool false, .int .i64 1, .bool true, .int .i64 2, .bool false, .int .i64 3] 41)
  replace hBB := hBB.alloc hBB.size (.cells #[.bool false, .int .i64 1, .bool true, .int .i64 2, .bool false, .int .i64 3] 41)
  have hf : SlF (World.alloc w18 (.cells #[.bool false, .int .i64 1, .bool true, .int .i64 2, .bool false, .int .i64 3] 41)) (some ⟨w18.heap.size, 0, none⟩) [(false, 1), (true, 2), (false, 3)] := FullF.sl (Blk.new w18 41 #[.bool false, .int .i64 1, .bool true, .int .i64 2, .bool false, .int .i64 3])
  refine (kflag _ _ (hI.below hBB) hf).mono ?_
  rintro e w19 ⟨Ak, ck, rfl, hk, hB⟩
  replace hm := hm.step hB
  replace hd := hd.step hB
  replace hj := hj.below hB hj.lt
  replace hBB := hBB.trans (hB.mono hBB.size)
  clear hB
  clear hf
  go_wp2
  have HBB := Lib.hid hBB
  have hc0 := hj.cell 0
  have hc1 := hj.cell 1
  have hjlt := hj.lt
  simp only [List.getElem?_toArray, List.getElem?_cons_zero, List.getElem?_cons_succ] at hc0 hc1
  obtain ⟨KD, hKD⟩ : ∃ KD : List Kd, KD = [.val (.int .i64 0), .val (.bool true), .val (.bool true), .val (.int .i64 0), .val (.bool true), .val (.bool true), .val (.bool true), .val (.int .i64 0), .val (.bool true), .val (.bool true), .val (.bool true), .val (.int .i64 0), .val (.bool true), .val (.bool true), .val (.bool true), .val (.slice Am 3 3), .sl [1, 2, 3, 0], .sl [3, 3], .sl [6], .sll [[1, 2, 3, 0], [3, 3], [6]], .val (.bool true), .val (.bool true), .val (.bool true), .val (.slice Ad 3 cd), .sl [0, 1, 3], .val (.bool true), .val (.bool true), .val (.bool true), .val (.agg #[.bool true, .int .i64 5]), .val (.agg #[.bool true, .int .i64 5]), .val (.bool true), .val (.bool true), .val (.bool true), .val (.slice Ak 3 ck), .val (.agg #[.bool false, .int .i64 1]), .val (.agg #[.bool true, .int .i64 2]), .val (.agg #[.bool true, .int .i64 5]), .slf [(false, 1), (true, 2), (true, 5)], .val (.bool true), .val (.bool true), .val (.bool true)] := ⟨_, rfl⟩
  refine wp_region_ow (fun k v W => (KD.getD k (.val undef)).R v W) (by kernel_rfl) (by kernel_rfl) (fun k v W W' h hb => Kd.mono h hb) ?_ ?_ ?_
  · subst hKD
    exact kd_guard (by kernel_rfl)
  · intro k o ho a W hW hdf hin hout
    subst hKD
    match k, ho with
    | 0, ho =>
      obtain rfl := Option.some.inj ho
      have s4 : a.tmps.getD 4 undef = .int .i64 0 := hout 4 (noDst_spec (by kernel_rfl))
      refine .inl ⟨.int .i64 0, W, ?_, Below.refl _ _, rfl⟩
      go_simp
    | 1, ho =>
      obtain rfl := Option.some.inj ho
      have e0 : a.tmps.getD 129 undef = .int .i64 0 := hin 0 129 rfl (by kernel_rfl)
      refine .inl ⟨.bool true, W, ?_, Below.refl _ _, rfl⟩
      go_simp
    | 2, ho =>
      obtain rfl := Option.some.inj ho
      have e1 : a.tmps.getD 130 undef = .bool true := hin 1 130 rfl (by kernel_rfl)
      refine .inl ⟨.bool true, W, ?_, Below.refl _ _, rfl⟩
      go_simp
    | 3, ho =>
      obtain rfl := Option.some.inj ho
      have s6 : a.tmps.getD 6 undef = .int .i64 0 := hout 6 (noDst_spec (by kernel_rfl))
      refine .inl ⟨.int .i64 0, W, ?_, Below.refl _ _, rfl⟩
      go_simp
    | 4, ho =>
      obtain rfl := Option.some.inj ho
      have e3 : a.tmps.getD 132 undef = .int .i64 0 := hin 3 132 rfl (by kernel_rfl)
      refine .inl ⟨.bool true, W, ?_, Below.refl _ _, rfl⟩
      go_simp
    | 5, ho =>
      obtain rfl := Option.some.inj ho
      have e2 : a.tmps.getD 131 undef = .bool true := hin 2 131 rfl (by kernel_rfl)
      have e4 : a.tmps.getD 133 undef = .bool true := hin 4 133 rfl (by kernel_rfl)
      refine .inl ⟨.bool true, W, ?_, Below.refl _ _, rfl⟩
      go_simp
    | 6, ho =>
      obtain rfl := Option.some.inj ho
      have e5 : a.tmps.getD 134 undef = .bool true := hin 5 134 rfl (by kernel_rfl)
      refine .inl ⟨.bool true, W, ?_, Below.refl _ _, rfl⟩
      go_simp
    | 7, ho =>
      obtain rfl := Option.some.inj ho
      have s8 : a.tmps.getD 8 undef = .int .i64 0 := hout 8 (noDst_spec (by kernel_rfl))
      refine .inl ⟨.int .i64 0, W, ?_, Below.refl _ _, rfl⟩
      go_simp
    | 8, ho =>
      obtain rfl := Option.some.inj ho
      have e7 : a.tmps.getD 136 undef = .int .i64 0 := hin 7 136 rfl (by kernel_rfl)
      refine .inl ⟨.bool true, W, ?_, Below.refl _ _, rfl⟩
      go_simp
    | 9, ho =>
      obtain rfl := Option.some.inj ho
      have e6 : a.tmps.getD 135 undef = .bool true := hin 6 135 rfl (by kernel_rfl)
      have e8 : a.tmps.getD 137 undef = .bool true := hin 8 137 rfl (by kernel_rfl)
      refine .inl ⟨.bool true, W, ?_, Below.refl _ _, rfl⟩
      go_simp
    | 10, ho =>
      obtain rfl := Option.some.inj ho
      have e9 : a.tmps.getD 138 undef = .bool true := hin 9 138 rfl (by kernel_rfl)
      refine .inl ⟨.bool true, W, ?_, Below.refl _ _, rfl⟩
      go_simp
    | 11, ho =>
      obtain rfl := Option.some.inj ho
      have s10 : a.tmps.getD 10 undef = .int .i64 0 := hout 10 (noDst_spec (by kernel_rfl))
      refine .inl ⟨.int .i64 0, W, ?_, Below.refl _ _, rfl⟩
      go_simp
    | 12, ho =>
      obtain rfl := Option.some.inj ho
      have e11 : a.tmps.getD 140 undef = .int .i64 0 := hin 11 140 rfl (by kernel_rfl)
      refine .inl ⟨.bool true, W, ?_, Below.refl _ _, rfl⟩
      go_simp
    | 13, ho =>
      obtain rfl := Option.some.inj ho
      have e10 : a.tmps.getD 139 undef = .bool true := hin 10 139 rfl (by kernel_rfl)
      have e12 : a.tmps.getD 141 undef = .bool true := hin 12 141 rfl (by kernel_rfl)
      refine .inl ⟨.bool true, W, ?_, Below.refl _ _, rfl⟩
      go_simp
    | 14, ho =>
      obtain rfl := Option.some.inj ho
      have e13 : a.tmps.getD 142 undef = .bool true := hin 13 142 rfl (by kernel_rfl)
      refine .inl ⟨.bool true, W, ?_, Below.refl _ _, rfl⟩
      go_simp
    | 15, ho =>
      obtain rfl := Option.some.inj ho
      have s14 : a.tmps.getD 14 undef = .slice Am 3 3 := hout 14 (noDst_spec (by kernel_rfl))
      refine .inl ⟨.slice Am 3 3, W, ?_, Below.refl _ _, rfl⟩
      go_simp
    | 16, ho =>
      obtain rfl := Option.some.inj ho
      refine .inl ⟨.slice (some ⟨W.heap.size, 0, none⟩) 4 4, W.alloc (.cells #[.int .i64 1, .int .i64 2, .int .i64 3, .int .i64 0] 3), ?_, (Below.refl _ _).alloc (Nat.le_refl _) _, ⟨W.heap.size, rfl, Sl.lit' W _ _ _ rfl rfl⟩⟩
      go_simp
    | 17, ho =>
      obtain rfl := Option.some.inj ho
      refine .inl ⟨.slice (some ⟨W.heap.size, 0, none⟩) 2 2, W.alloc (.cells #[.int .i64 3, .int .i64 3] 3), ?_, (Below.refl _ _).alloc (Nat.le_refl _) _, ⟨W.heap.size, rfl, Sl.lit' W _ _ _ rfl rfl⟩⟩
      go_simp
    | 18, ho =>
      obtain rfl := Option.some.inj ho
      refine .inl ⟨.slice (some ⟨W.heap.size, 0, none⟩) 1 1, W.alloc (.cells #[.int .i64 6] 3), ?_, (Below.refl _ _).alloc (Nat.le_refl _) _, ⟨W.heap.size, rfl, Sl.lit' W _ _ _ rfl rfl⟩⟩
      go_simp
    | 19, ho =>
      obtain rfl := Option.some.inj ho
      obtain ⟨n16, e16, h16⟩ := hin 16 145 rfl (by kernel_rfl)
      obtain ⟨n17, e17, h17⟩ := hin 17 146 rfl (by kernel_rfl)
      obtain ⟨n18, e18, h18⟩ := hin 18 147 rfl (by kernel_rfl)
      have e16 : a.tmps[145]?.getD undef = .slice (some ⟨n16, 0, none⟩) 4 4 := by rw [← Array.getD_eq_getD_getElem?]; exact e16
      have e17 : a.tmps[146]?.getD undef = .slice (some ⟨n17, 0, none⟩) 2 2 := by rw [← Array.getD_eq_getD_getElem?]; exact e17
      have e18 : a.tmps[147]?.getD undef = .slice (some ⟨n18, 0, none⟩) 1 1 := by rw [← Array.getD_eq_getD_getElem?]; exact e18
      refine .inl ⟨.slice (some ⟨W.heap.size, 0, none⟩) 3 3, W.alloc (.cells #[.slice (some ⟨n16, 0, none⟩) 4 4, .slice (some ⟨n17, 0, none⟩) 2 2, .slice (some ⟨n18, 0, none⟩) 1 1] 22), ?_, (Below.refl _ _).alloc (Nat.le_refl _) _, ⟨W.heap.size, rfl, sll_three (Blk.new W 22 _) (h16.al _) (h17.al _) (h18.al _)⟩⟩
      go_simp
    | 20, ho =>
      obtain rfl := Option.some.inj ho
      have e15 : a.tmps.getD 144 undef = .slice Am 3 3 := hin 15 144 rfl (by kernel_rfl)
      obtain ⟨n19, e19, h19⟩ := hin 19 148 rfl (by kernel_rfl)
      have e19 : a.tmps.getD 148 undef = .slice (some ⟨n19, 0, none⟩) 3 3 := e19
      refine .inr ⟨21, #[.slice Am 3 3, .slice (some ⟨n19, 0, none⟩) 3 3], W, ?_, ?_⟩
      · go_simp
      · refine (equalLists_refl Am (some ⟨n19, 0, none⟩) 3 3 [[1, 2, 3, 0], [3, 3], [6]] W (hm.below hW) h19 (by decide) (fun j hj => by match j, hj with | 0, _ => exact (by decide) | 1, _ => exact (by decide) | 2, _ => exact (by decide))).mono ?_
        rintro e W' ⟨rfl, m, rfl⟩
        exact ⟨_, rfl, below_drewN' W m, rfl⟩
    | 21, ho =>
      obtain rfl := Option.some.inj ho
      have e14 : a.tmps.getD 143 undef = .bool true := hin 14 143 rfl (by kernel_rfl)
      have e20 : a.tmps.getD 149 undef = .bool true := hin 20 149 rfl (by kernel_rfl)
      refine .inl ⟨.bool true, W, ?_, Below.refl _ _, rfl⟩
      go_simp
    | 22, ho =>
      obtain rfl := Option.some.inj ho
      have e21 : a.tmps.getD 150 undef = .bool true := hin 21 150 rfl (by kernel_rfl)
      refine .inl ⟨.bool true, W, ?_, Below.refl _ _, rfl⟩
      go_simp
    | 23, ho =>
      obtain rfl := Option.some.inj ho
      have s15 : a.tmps.getD 15 undef = .slice Ad 3 cd := hout 15 (noDst_spec (by kernel_rfl))
      refine .inl ⟨.slice Ad 3 cd, W, ?_, Below.refl _ _, rfl⟩
      go_simp
    | 24, ho =>
      obtain rfl := Option.some.inj ho
      refine .inl ⟨.slice (some ⟨W.heap.size, 0, none⟩) 3 3, W.alloc (.cells #[.int .i64 0, .int .i64 1, .int .i64 3] 3), ?_, (Below.refl _ _).alloc (Nat.le_refl _) _, ⟨W.heap.size, rfl, Sl.lit' W _ _ _ rfl rfl⟩⟩
      go_simp
    | 25, ho =>
      obtain rfl := Option.some.inj ho
      have e23 : a.tmps.getD 152 undef = .slice Ad 3 cd := hin 23 152 rfl (by kernel_rfl)
      obtain ⟨n24, e24, h24⟩ := hin 24 153 rfl (by kernel_rfl)
      have e24 : a.tmps.getD 153 undef = .slice (some ⟨n24, 0, none⟩) 3 3 := e24
      refine .inr ⟨13, #[.slice Ad 3 cd, .slice (some ⟨n24, 0, none⟩) 3 3], W, ?_, ?_⟩
      · go_simp
      · refine (eq_lit Ad (some ⟨n24, 0, none⟩) cd 3 3 [0, 1, 3] W rfl (hd.step hW) h24 (by decide)).mono ?_
        rintro e W' ⟨rfl, hB⟩
        exact ⟨_, rfl, hB, rfl⟩
    | 26, ho =>
      obtain rfl := Option.some.inj ho
      have e22 : a.tmps.getD 151 undef = .bool true := hin 22 151 rfl (by kernel_rfl)
      have e25 : a.tmps.getD 154 undef = .bool true := hin 25 154 rfl (by kernel_rfl)
      refine .inl ⟨.bool true, W, ?_, Below.refl _ _, rfl⟩
      go_simp
    | 27, ho =>
      obtain rfl := Option.some.inj ho
      have e26 : a.tmps.getD 155 undef = .bool true := hin 26 155 rfl (by kernel_rfl)
      refine .inl ⟨.bool true, W, ?_, Below.refl _ _, rfl⟩
      go_simp
    | 28, ho =>
      obtain rfl := Option.some.inj ho
      have s16 : a.tmps.getD 16 undef = .pointer (some ⟨w15.heap.size, 0, none⟩) := hout 16 (noDst_spec (by kernel_rfl))
      have q0 : W.cell? ⟨w15.heap.size, 0, none⟩ = some (.bool true) := (hW.cell (p := ⟨w15.heap.size, 0, none⟩) hjlt).trans hc0
      have q1 : W.cell? ⟨w15.heap.size, 1, none⟩ = some (.int .i64 5) := (hW.cell (p := ⟨w15.heap.size, 1, none⟩) hjlt).trans hc1
      refine .inl ⟨.agg #[.bool true, .int .i64 5], W, ?_, Below.refl _ _, rfl⟩
      go_simp
    | 29, ho =>
      obtain rfl := Option.some.inj ho
      refine .inr ⟨37, #[.int .i64 5], W, ?_, ?_⟩
      · go_simp
      · refine (flaggedN_any 5 W).mono ?_
        rintro e W' ⟨rfl, hB⟩
        exact ⟨_, rfl, hB, rfl⟩
    | 30, ho =>
      obtain rfl := Option.some.inj ho
      have e28 : a.tmps.getD 157 undef = .agg #[.bool true, .int .i64 5] := hin 28 157 rfl (by kernel_rfl)
      have e29 : a.tmps.getD 158 undef = .agg #[.bool true, .int .i64 5] := hin 29 158 rfl (by kernel_rfl)
      refine .inl ⟨.bool true, W, ?_, Below.refl _ _, rfl⟩
      go_simp
    | 31, ho =>
      obtain rfl := Option.some.inj ho
      have e27 : a.tmps.getD 156 undef = .bool true := hin 27 156 rfl (by kernel_rfl)
      have e30 : a.tmps.getD 159 undef = .bool true := hin 30 159 rfl (by kernel_rfl)
      refine .inl ⟨.bool true, W, ?_, Below.refl _ _, rfl⟩
      go_simp
    | 32, ho =>
      obtain rfl := Option.some.inj ho
      have e31 : a.tmps.getD 160 undef = .bool true := hin 31 160 rfl (by kernel_rfl)
      refine .inl ⟨.bool true, W, ?_, Below.refl _ _, rfl⟩
      go_simp
    | 33, ho =>
      obtain rfl := Option.some.inj ho
      have s17 : a.tmps.getD 17 undef = .slice Ak 3 ck := hout 17 (noDst_spec (by kernel_rfl))
      refine .inl ⟨.slice Ak 3 ck, W, ?_, Below.refl _ _, rfl⟩
      go_simp
    | 34, ho =>
      obtain rfl := Option.some.inj ho
      refine .inr ⟨38, #[.int .i64 1], W, ?_, ?_⟩
      · go_simp
      · refine (plainN_any 1 W).mono ?_
        rintro e W' ⟨rfl, hB⟩
        exact ⟨_, rfl, hB, rfl⟩
    | 35, ho =>
      obtain rfl := Option.some.inj ho
      refine .inr ⟨37, #[.int .i64 2], W, ?_, ?_⟩
      · go_simp
      · refine (flaggedN_any 2 W).mono ?_
        rintro e W' ⟨rfl, hB⟩
        exact ⟨_, rfl, hB, rfl⟩
    | 36, ho =>
      obtain rfl := Option.some.inj ho
      refine .inr ⟨37, #[.int .i64 5], W, ?_, ?_⟩
      · go_simp
      · refine (flaggedN_any 5 W).mono ?_
        rintro e W' ⟨rfl, hB⟩
        exact ⟨_, rfl, hB, rfl⟩
    | 37, ho =>
      obtain rfl := Option.some.inj ho
      have e34 : a.tmps.getD 163 undef = .agg #[.bool false, .int .i64 1] := hin 34 163 rfl (by kernel_rfl)
      have e35 : a.tmps.getD 164 undef = .agg #[.bool true, .int .i64 2] := hin 35 164 rfl (by kernel_rfl)
      have e36 : a.tmps.getD 165 undef = .agg #[.bool true, .int .i64 5] := hin 36 165 rfl (by kernel_rfl)
      rw [Array.getD_eq_getD_getElem?] at e34 e35 e36
      refine .inl ⟨.slice (some ⟨W.heap.size, 0, none⟩) 3 3, W.alloc (.cells #[.bool false, .int .i64 1, .bool true, .int .i64 2, .bool true, .int .i64 5] 41), ?_, (Below.refl _ _).alloc (Nat.le_refl _) _, ⟨W.heap.size, rfl, FullF.sl (Blk.new W 41 #[.bool false, .int .i64 1, .bool true, .int .i64 2, .bool true, .int .i64 5])⟩⟩
      go_simp
    | 38, ho =>
      obtain rfl := Option.some.inj ho
      have e33 : a.tmps.getD 162 undef = .slice Ak 3 ck := hin 33 162 rfl (by kernel_rfl)
      obtain ⟨n37, e37, h37⟩ := hin 37 166 rfl (by kernel_rfl)
      have e37 : a.tmps.getD 166 undef = .slice (some ⟨n37, 0, none⟩) 3 3 := e37
      refine .inr ⟨28, #[.slice Ak 3 ck, .slice (some ⟨n37, 0, none⟩) 3 3], W, ?_, ?_⟩
      · go_simp
      · refine (same_refl Ak (some ⟨n37, 0, none⟩) ck 3 [(false, 1), (true, 2), (true, 5)] W (hk.step hW) h37 (by decide)).mono ?_
        rintro e W' ⟨rfl, m, rfl⟩
        exact ⟨_, rfl, below_drewN' W m, rfl⟩
    | 39, ho =>
      obtain rfl := Option.some.inj ho
      have e32 : a.tmps.getD 161 undef = .bool true := hin 32 161 rfl (by kernel_rfl)
      have e38 : a.tmps.getD 167 undef = .bool true := hin 38 167 rfl (by kernel_rfl)
      refine .inl ⟨.bool true, W, ?_, Below.refl _ _, rfl⟩
      go_simp
    | 40, ho =>
      obtain rfl := Option.some.inj ho
      have e39 : a.tmps.getD 168 undef = .bool true := hin 39 168 rfl (by kernel_rfl)
      refine .inl ⟨.bool true, W, ?_, Below.refl _ _, rfl⟩
      go_simp
    | k + 41, ho => cases ho
  · intro a W hW hR hout hsz hdf
    subst hKD
    have e0 : a.tmps.getD 0 undef = .bool true := hR 40 0 rfl
    go_wp2
    rw [Array.getD_eq_getD_getElem?] at e0
    refine bodyPost_ret (v := .bool true) ?_ hdf ⟨rfl, HBB.out.trans (hW.mono HBB.out.size)⟩
    simp [results, Tryz.f14, go_sem, e0]
end Go.Proofs.YtecpanppnljkhaaGreatDoor

namespace Go.Proofs.YtecpanppnljkhaaGreatDoor
set_option linter.unusedVariables false
open Go.RowKit Go.Shelf
theorem ls_of' (L : List (List Int)) (h1 : ∀ l ∈ L, l.length ≤ 1048576) (h2 : ∀ l ∈ L, ∀ x ∈ l, isW x) : lsE L = 0 := by
  unfold lsE
  rw [if_pos (by rw [List.all_eq_true]; intro l hl; simpa [shortB] using h1 l hl), if_pos (by
    rw [List.all_eq_true]; intro l hl; unfold wordsB; rw [List.all_eq_true]; intro x hx; exact isWb_of x (h2 l hl x hx))]
theorem wl_len (z : List Int) (n : Nat) : (wlL z n).length = min z.length n := by unfold wlL; rw [mk_length]
theorem wl_word (z : List Int) (n : Nat) : Wds (wlL z n) := fun j hj => by
  rw [wl_len] at hj
  unfold wlL
  rw [nth_mk _ _ _ hj]
  exact wrap32_word _
theorem wds_mem {l : List Int} (h : Wds l) : ∀ x ∈ l, isW x := fun x hx => by
  obtain ⟨j, hj, rfl⟩ := List.getElem_of_mem hx
  rw [← nth_eq l j hj]; exact h j hj
theorem cE_good {op : Int} {l : List Int} (h : aB op = true) (hw : Wds l) (hl : l.length ≤ 1048576) : cE op [l] = 0 := by
  unfold cE
  rw [if_pos (aB_neE h)]
  exact ls_of' _ (by simpa using hl) (by intro m hm; simp at hm; subst hm; exact wds_mem hw)
theorem segs_words {l lens : List Int} (h : Segs l lens) : Wds lens := fun j hj => by
  obtain ⟨_, _, _, h1, h2⟩ := h.step j hj
  have := h.short
  unfold isW; omega
theorem ck_good {l lens : List Int} (h : Segs l lens) : ckE lens = 0 := by
  rw [(ck_short h.few).1]
  refine (sumE_ok ?_ ?_).1
  · unfold isNeg
    rw [List.any_eq_false]
    intro x hx
    have := h.pos
    unfold posB at this
    have := List.all_eq_true.1 this x hx
    simp at this ⊢
    omega
  · rw [h.sum]; have := h.short; omega
theorem fsE_good {op : Int} {l lens : List Int} (h : aB op = true) (hw : Wds l) (hz : Segs l lens) : fsE op l lens = 0 := by
  refine fsE_0 ?_ ⟨ck_good hz, hz.sum⟩
  unfold cE
  rw [if_pos (aB_neE h)]
  exact ls_of' _ (by simp; exact ⟨hz.short, hz.few⟩) (by
    intro m hm; simp at hm
    rcases hm with rfl | rfl
    · exact wds_mem hw
    · exact wds_mem (segs_words hz))
theorem sl_one {w : World} {g : Nat} {x : Int} (h : Blk w g 3 #[.int .i64 x]) : Sl w (some ⟨g, 0, none⟩) [x] := fun _ => ⟨g, 0, rfl, h.lt, fun j hj => by
  simp at hj; subst hj
  rw [Nat.zero_add, h.cell]; rfl⟩
/-- Turn returns a number from 0 up to b. -/
def TurnR (b : Int) (w : World) (e : Ending) (w' : World) : Prop := ∃ r : Int, 0 ≤ r ∧ r ≤ b ∧ e = .returned (.int .i64 r) ∧ w = w'
theorem shapeK_snoc {S : List Int} {N j : Nat} {r : Int} (hl : S.length = j) (h : ShapeK S N j) (h0 : 0 ≤ r) (h1 : r ≤ (N : Int) - 2 - (j : Int)) : ShapeK (S ++ [r]) N (j + 1) := fun k hk => by
  by_cases e : k < j
  · rw [nth_app_lt _ _ _ (by omega)]; exact h k e
  · obtain rfl : k = j := by omega
    rw [nth_app_ge _ _ _ (by omega), hl, Nat.sub_self]
    exact ⟨h0, h1⟩
end Go.Proofs.YtecpanppnljkhaaGreatDoor
