/- Walks of the specification of scan: Words, Check, segments, Joined, Fold, Scan, Through. -/
import Derived.Test.YtecpanppnljkhaaGreatDoorKa3
import Derived.Test.YtecpanppnljkhaaGreatDoorKa4
import Derived.Laws.AppendOwnNone
import Derived.Deep.QuietTactic
import Derived.BigQuiet
namespace Go.Proofs.YtecpanppnljkhaaGreatDoor
set_option linter.unusedVariables false
set_option maxRecDepth 100000
open Go.RowKit Go.Shelf
theorem isword_b (n : Int) (w : World) (b : Bool) (h : isWb n = b) : Calls Tryz.prog 65 #[.int .i64 n] w fun e w' => e = .returned (.bool b) ∧ w = w' := h ▸ isword_any n w
set_option maxHeartbeats 1000000 in
theorem words_any (A : Option Addr) (c : Nat) (zs : List Int) (w : World) (h : Sl w A zs) (hl : zs.length ≤ 9223372036854775807) :
    Calls Tryz.prog 70 #[.slice A zs.length c] w fun e w' => e = .returned (.bool (wordsB zs)) ∧ w = w' := by
  go_enter Tryz.func70, Tryz.ntmps70
  go_wp2
  go_loop [3] (fun i => ∃ k : Nat, k ≤ zs.length ∧ i = .int .i64 k ∧ ∀ j, j < k → isWb (nth zs j) = true) (fun i => zs.length - (intOf i).toNat)
  case atStart => exact ⟨0, Nat.zero_le _, rfl, fun j hj => by omega⟩
  case round =>
    obtain ⟨k, hk, rfl, hq⟩ := hrel
    have HQ := Lib.hid hq; clear hq
    by_cases hlt : k < zs.length
    · obtain ⟨b, off, rfl, hb, hc⟩ := h.at_ hlt
      have HN := Lib.hid (all_not zs isWb (nth zs) (nth_eq zs) k hlt)
      have hk1 : (0 : Int) ≤ (k : Int) := by omega
      have hk2 : (k : Int) < (zs.length : Int) := by omega
      obtain ⟨z, hz⟩ : ∃ z, nth zs k = z := ⟨_, rfl⟩
      have HZ := Lib.hid hz
      rw [hz] at hc HN
      clear hz
      cases hpz : isWb z with
      | true =>
        have C := Lib.hid (isword_b z w _ hpz)
        have HT := Lib.hid hpz
        clear hpz
        go_wp2_with fail
        refine C.out.mono ?_
        rintro e w' ⟨rfl, rfl⟩
        go_wp2
        go_round
        case rel => exact ⟨k + 1, by omega, by go_num, fun j hj => by
                by_cases e : j = k
                · subst e; rw [HZ.out]; exact HT.out
                · exact HQ.out j (by omega)⟩
        case measure => simp [intOf]; omega
      | false =>
        have C := Lib.hid (isword_b z w _ hpz)
        have HT := Lib.hid (show wordsB zs = false from HN.out hpz)
        clear hpz
        go_wp2_with fail
        refine C.out.mono ?_
        rintro e w' ⟨rfl, rfl⟩
        go_wp2
        go_ret
        exact ⟨ret_bool HT.out.symm, rfl⟩
    · obtain rfl : k = zs.length := by omega
      have HT := Lib.hid (show wordsB zs = true from all_of zs isWb (nth zs) (nth_eq zs) HQ.out)
      go_wp2
      go_ret
      exact ⟨ret_bool HT.out.symm, rfl⟩

def CkRel (zs : List Int) (t i : Value) : Prop := ∃ (k : Nat) (T : Int), k ≤ zs.length ∧ i = .int .i64 k ∧ t = .int .i64 T ∧ PosTo zs k ∧ 0 ≤ T ∧ T ≤ 2097152 ∧ T = min (psum zs k) 2097152
set_option maxHeartbeats 1000000 in
theorem rcheck_any (A : Option Addr) (c : Nat) (zs : List Int) (w : World) (h : Sl w A zs) (hl : zs.length ≤ 9223372036854775807) :
    Calls Tryz.prog 71 #[.slice A zs.length c] w fun e w' => e = .returned (.tuple #[.int .i64 (ckN zs), .int .i64 (ckE zs)]) ∧ w = w' := by
  by_cases hb : 1048576 < zs.length
  · have HE := Lib.hid (ck_long hb)
    go_enter Tryz.func71, Tryz.ntmps71
    go_wp2
    go_ret2
    rw [HE.out.1, HE.out.2]
    exact ⟨rfl, rfl⟩
  · have HE := Lib.hid (ck_short (show zs.length ≤ 1048576 by omega))
    go_enter Tryz.func71, Tryz.ntmps71
    go_wp2
    go_loop [4, 5] (fun t i => CkRel zs t i) (fun _ i => zs.length - (intOf i).toNat)
    case atStart => exact ⟨0, 0, Nat.zero_le _, rfl, rfl, fun j hj => by omega, by omega, by omega, by rw [psum_zero]; omega⟩
    case round =>
      obtain ⟨k, T, hk, rfl, rfl, hp, hT0, hT1, hT⟩ := hrel
      have HT := Lib.hid hT; clear hT
      by_cases hlt : k < zs.length
      · obtain ⟨bl, off, rfl, hbl, hc⟩ := h.at_ hlt
        by_cases hn : nth zs k < 0
        · have HZ := Lib.hid (sumE_neg (isNeg_of zs k hlt hn))
          go_wp2
          go_ret2
          rw [HE.out.1, HE.out.2, HZ.out.1, HZ.out.2]
          exact ⟨rfl, rfl⟩
        · have hs := Lib.hid (psum_succ zs k hlt)
          have h0 := psum_nonneg zs k hk hp
          have hmn : 0 ≤ min (nth zs k) 2097152 := by omega
          have hmn2 : min (nth zs k) 2097152 ≤ 2097152 := by omega
          go_wp2
          go_round
          case rel => exact ⟨k + 1, min (T + min (nth zs k) 2097152) 2097152, by omega, by go_num, by first | rfl | (congr 1 <;> omega) | simp, fun j hj => by
                    by_cases e : j = k
                    · subst e; omega
                    · exact hp j (by omega), by omega, by omega, by rw [hs.out, HT.out]; omega⟩
          case measure => simp [intOf]; omega
      · obtain rfl : k = zs.length := by omega
        have hn := isNeg_none zs hp
        by_cases hb2 : 1048576 < zs.sum
        · have HZ := Lib.hid (sumE_full hn hb2)
          have hT9 : 1048576 < T := by have := HT.out; rw [psum_all] at this; omega
          go_wp2
          go_ret2
          rw [HE.out.1, HE.out.2, HZ.out.1, HZ.out.2]
          exact ⟨rfl, rfl⟩
        · have HZ := Lib.hid (sumE_ok hn (by omega))
          have hT9 : T ≤ 1048576 := by have := HT.out; rw [psum_all] at this; omega
          have HT8 := Lib.hid (show T = zs.sum by have := HT.out; rw [psum_all] at this; omega)
          go_wp2
          go_ret2
          rw [HE.out.1, HE.out.2, HZ.out.1, HZ.out.2, HT8.out]
          exact ⟨rfl, rfl⟩

theorem sgw_any (A A' : Option Addr) (c cl : Nat) (op : Int) (l lens : List Int) (w : World) (h : Sl w A l) (k : Ok l) (h' : Sl w A' lens) (k' : Ok lens) :
    Calls Tryz.prog 31 #[.int .i64 op, .slice A l.length cl, .slice A' lens.length c] w (Ret (.int .i64 (fsE op l lens)) w) := by
  have C1 := Lib.hid (rneutral_any op w)
  have k1 : l.length ≤ 9223372036854775807 := k
  have k2 : lens.length ≤ 9223372036854775807 := k'
  by_cases hn : neE op = 0
  · have HN := Lib.hid hn
    rw [hn] at C1
    by_cases h1 : l.length ≤ 1048576
    · by_cases h2 : lens.length ≤ 1048576
      · cases hw1 : wordsB l with
        | true =>
          cases hw2 : wordsB lens with
          | true =>
            have hl : lsE [l, lens] = 0 := by unfold lsE; rw [if_pos (by simp [shortB, h1, h2]), if_pos (by simp [hw1, hw2])]
            have hc : cE op [l, lens] = 0 := by rw [cE_ls _ hn, hl]
            by_cases hck : ckE lens = 0
            · have hN := (ck_ok hck).2.2.2.2
              have hb1 := (ck_ok hck).2.2.1
              have hb2 := (ck_ok hck).2.2.2.1
              by_cases hs : lens.sum = l.length
              · have HE := Lib.hid (fsE_0 hc ⟨hck, hs⟩)
                have C2 := Lib.hid (fun W hW => words_any A cl l W hW k1)
                have C3 := Lib.hid (fun W hW => words_any A' c lens W hW k2)
                have C4 := Lib.hid (fun W hW => rcheck_any A' c lens W hW k2)
                rw [hw1] at C2; rw [hw2] at C3; rw [hck, hN, hs] at C4
                clear hw1 hw2 hl hc hck hN hs hn hb1 hb2
                go_enter Tryz.func31, Tryz.ntmps31
                go_wp2_with fail
                refine C1.out.mono ?_
                rintro e w1 ⟨rfl, hB⟩
                go_wp2_with fail
                refine (C2.out _ (h.step hB)).mono ?_
                rintro e w' ⟨rfl, rfl⟩
                go_wp2_with fail
                refine (C3.out _ (h'.step hB)).mono ?_
                rintro e w' ⟨rfl, rfl⟩
                go_wp2_with fail
                refine (C4.out _ (h'.step hB)).mono ?_
                rintro e w' ⟨rfl, rfl⟩
                go_wp2
                · go_ret; exact ⟨ret_int HE.out.symm, hB⟩
              · have HE := Lib.hid (fsE_6 hc (fun h => hs h.2))
                have hs' : ¬ (lens.sum = (l.length : Int)) := hs
                have C2 := Lib.hid (fun W hW => words_any A cl l W hW k1)
                have C3 := Lib.hid (fun W hW => words_any A' c lens W hW k2)
                have C4 := Lib.hid (fun W hW => rcheck_any A' c lens W hW k2)
                rw [hw1] at C2; rw [hw2] at C3; rw [hck, hN] at C4
                obtain ⟨s, hss⟩ : ∃ s, lens.sum = s := ⟨_, rfl⟩
                rw [hss] at C4 hs' hb1 hb2
                have hsd : (s != (l.length : Int)) = true := by rw [bne_iff_ne]; exact hs'
                clear hw1 hw2 hl hc hck hN hs hn hss
                go_enter Tryz.func31, Tryz.ntmps31
                go_wp2_with fail
                refine C1.out.mono ?_
                rintro e w1 ⟨rfl, hB⟩
                go_wp2_with fail
                refine (C2.out _ (h.step hB)).mono ?_
                rintro e w' ⟨rfl, rfl⟩
                go_wp2_with fail
                refine (C3.out _ (h'.step hB)).mono ?_
                rintro e w' ⟨rfl, rfl⟩
                go_wp2_with fail
                refine (C4.out _ (h'.step hB)).mono ?_
                rintro e w' ⟨rfl, rfl⟩
                go_wp2
                · go_ret; exact ⟨ret_int HE.out.symm, hB⟩
            · have HE := Lib.hid (fsE_6 hc (fun h => hck h.1))
              have hN := ck_err hck
              have C2 := Lib.hid (fun W hW => words_any A cl l W hW k1)
              have C3 := Lib.hid (fun W hW => words_any A' c lens W hW k2)
              have C4 := Lib.hid (fun W hW => rcheck_any A' c lens W hW k2)
              rw [hw1] at C2; rw [hw2] at C3; rw [hN] at C4
              obtain ⟨s, hss⟩ : ∃ s, ckE lens = s := ⟨_, rfl⟩
              rw [hss] at C4 hck
              have hsd : (s != 0) = true := by rw [bne_iff_ne]; exact hck
              clear hw1 hw2 hl hc hN hn hss
              go_enter Tryz.func31, Tryz.ntmps31
              go_wp2_with fail
              refine C1.out.mono ?_
              rintro e w1 ⟨rfl, hB⟩
              go_wp2_with fail
              refine (C2.out _ (h.step hB)).mono ?_
              rintro e w' ⟨rfl, rfl⟩
              go_wp2_with fail
              refine (C3.out _ (h'.step hB)).mono ?_
              rintro e w' ⟨rfl, rfl⟩
              go_wp2_with fail
              refine (C4.out _ (h'.step hB)).mono ?_
              rintro e w' ⟨rfl, rfl⟩
              go_wp2
              · go_ret; exact ⟨ret_int HE.out.symm, hB⟩
          | false =>
            have hl : lsE [l, lens] = 2 := by unfold lsE; rw [if_pos (by simp [shortB, h1, h2]), if_neg (by simp [hw1, hw2])]
            have HE := Lib.hid (show fsE op l lens = 2 by rw [fsE_c (by rw [cE_ls _ hn, hl]; decide), cE_ls _ hn, hl])
            have C2 := Lib.hid (fun W hW => words_any A cl l W hW k1)
            have C3 := Lib.hid (fun W hW => words_any A' c lens W hW k2)
            rw [hw1] at C2; rw [hw2] at C3
            clear hw1 hw2 hl hn
            go_enter Tryz.func31, Tryz.ntmps31
            go_wp2_with fail
            refine C1.out.mono ?_
            rintro e w1 ⟨rfl, hB⟩
            go_wp2_with fail
            refine (C2.out _ (h.step hB)).mono ?_
            rintro e w' ⟨rfl, rfl⟩
            go_wp2_with fail
            refine (C3.out _ (h'.step hB)).mono ?_
            rintro e w' ⟨rfl, rfl⟩
            go_wp2
            go_ret; exact ⟨ret_int HE.out.symm, hB⟩
        | false =>
          have hl : lsE [l, lens] = 2 := by unfold lsE; rw [if_pos (by simp [shortB, h1, h2]), if_neg (by simp [hw1])]
          have HE := Lib.hid (show fsE op l lens = 2 by rw [fsE_c (by rw [cE_ls _ hn, hl]; decide), cE_ls _ hn, hl])
          have C2 := Lib.hid (fun W hW => words_any A cl l W hW k1)
          rw [hw1] at C2
          clear hw1 hl hn
          go_enter Tryz.func31, Tryz.ntmps31
          go_wp2_with fail
          refine C1.out.mono ?_
          rintro e w1 ⟨rfl, hB⟩
          go_wp2_with fail
          refine (C2.out _ (h.step hB)).mono ?_
          rintro e w' ⟨rfl, rfl⟩
          go_wp2
          go_ret; exact ⟨ret_int HE.out.symm, hB⟩
      · have hl : lsE [l, lens] = 3 := by unfold lsE; rw [if_neg (by simp [shortB]; omega)]
        have HE := Lib.hid (show fsE op l lens = 3 by rw [fsE_c (by rw [cE_ls _ hn, hl]; decide), cE_ls _ hn, hl])
        clear hl hn
        go_enter Tryz.func31, Tryz.ntmps31
        go_wp2_with fail
        refine C1.out.mono ?_
        rintro e w1 ⟨rfl, hB⟩
        go_wp2
        go_ret; exact ⟨ret_int HE.out.symm, hB⟩
    · have hl : lsE [l, lens] = 3 := by unfold lsE; rw [if_neg (by simp [shortB]; omega)]
      have HE := Lib.hid (show fsE op l lens = 3 by rw [fsE_c (by rw [cE_ls _ hn, hl]; decide), cE_ls _ hn, hl])
      clear hl hn
      go_enter Tryz.func31, Tryz.ntmps31
      go_wp2_with fail
      refine C1.out.mono ?_
      rintro e w1 ⟨rfl, hB⟩
      go_wp2
      go_ret; exact ⟨ret_int HE.out.symm, hB⟩
  · have hc := cE_ne [l, lens] hn
    have HE := Lib.hid (show fsE op l lens = neE op by rw [fsE_c (by rw [hc]; exact hn), hc])
    obtain ⟨s, hss⟩ : ∃ s, neE op = s := ⟨_, rfl⟩
    rw [hss] at HE C1 hn
    have hsd : (s != 0) = true := by rw [bne_iff_ne]; exact hn
    clear hss hc
    go_enter Tryz.func31, Tryz.ntmps31
    go_wp2_with fail
    refine C1.out.mono ?_
    rintro e w1 ⟨rfl, hB⟩
    go_wp2
    go_ret; exact ⟨ret_int HE.out.symm, hB⟩
/-- Value of an associative operation. -/
theorem rval_as {op a b : Int} (h : aB op = true) (ha : isW a) (hb : isW b) (w : World) : Calls Tryz.prog 35 #[.int .i64 op, .int .i64 a, .int .i64 b] w fun e w' => e = .returned (.int .i64 (doN op a b)) ∧ w = w' := by
  rw [doN_V h ha hb]
  exact rvalue_any op a b (aB_op h) ha hb ((aB_safe h).trap b) w
theorem rjoined_any {op : Int} (h : aB op = true) (A : Option Addr) (c n : Nat) (l : List Int) (w : World) (hA : Sl w A l) (hn : l.length = n) (hl : n ≤ 9223372036854775807) (hw : Wds l) :
    Calls Tryz.prog 32 #[.int .i64 op, .slice A n c] w (Ret (.int .i64 (scN (doN op) (neN op) l n)) w) := by
  subst hn
  have C1 := rneutral_any op w
  have M := mon_op h
  have HB := Lib.hid h; have HM := Lib.hid M; have HW := Lib.hid hw
  have C1 := Lib.hid C1
  have HX : Hid (isW (neN op)) := Lib.hid M.one
  clear M hw h
  go_enter Tryz.func32, Tryz.ntmps32
  go_wp2_with fail
  refine C1.out.mono ?_
  rintro e w1 ⟨rfl, hB⟩
  go_wp2
  go_loop [5, 7] (fun n i => ∃ k : Nat, k ≤ l.length ∧ i = .int .i64 k ∧ n = .int .i64 (scN (doN op) (neN op) l k)) (fun _ i => l.length - (intOf i).toNat)
  case atStart => exact ⟨0, Nat.zero_le _, rfl, rfl⟩
  case round =>
    obtain ⟨k, hk, rfl, rfl⟩ := hrel
    by_cases hlt : k < l.length
    · obtain ⟨b, off, rfl, hb, hc⟩ := (hA.step hB).at_ hlt
      have C2 := Lib.hid (rval_as HB.out (HM.out.sc HW.out HX.out k) (HW.out.at k))
      have HS := Lib.hid (show doN op (scN (doN op) (neN op) l k) (nth l k) = scN (doN op) (neN op) l (k + 1) from rfl)
      obtain ⟨z, hz⟩ : ∃ z, scN (doN op) (neN op) l k = z := ⟨_, rfl⟩
      obtain ⟨y, hy⟩ : ∃ y, nth l k = y := ⟨_, rfl⟩
      rw [hz] at C2 HS ⊢
      rw [hy] at C2 HS hc
      have q1 : (0 : Int) ≤ (k : Int) := by omega
      have q2 : (k : Int) < (l.length : Int) := by omega
      clear hz hy
      go_wp2_with fail
      refine (C2.out _).mono ?_
      rintro e w' ⟨rfl, rfl⟩
      go_wp2
      go_round
      case rel => exact ⟨k + 1, by omega, by go_num, by rw [HS.out]⟩
      case measure => simp [intOf]; omega
    · obtain rfl : k = l.length := by omega
      go_wp2
      go_ret
      exact ⟨rfl, hB⟩
theorem slice_lh (A : Option Addr) (n c lo hi : Nat) (ys : List Int) (w : World) (h : Sl w A ys) (hn : ys.length = n) (hlo : lo ≤ hi) (hhi : hi ≤ n) (hc : n ≤ c) :
    ∃ B, (∀ W, (Instr.sliceAt 22 (.slice A n c) (some (.int .i64 (lo : Int))) (some (.int .i64 (hi : Int))) none).run Tryz.prog W = .ok (.slice B (hi - lo) (c - lo)) W) ∧ Sl w B ((ys.drop lo).take (hi - lo)) := by
  subst hn
  obtain ⟨i0, hi0, hz0, hz1, hz2⟩ := info_parts int_info
  have he : Tryz.prog.elem 22 = 3 := by kernel_rfl
  have hrun : ∀ W, (Instr.slice 22 (.slice A ys.length c) (some (.int .i64 (lo : Int))) (some (.int .i64 (hi : Int))) none).run Tryz.prog W = .ok (sliced A lo hi c 1) W := fun W => by
    rw [run_slice_lh W 22 A ys.length c (by rw [he]; exact Tryz.underlying22) .i64 .i64 (lo : Int) (hi : Int) (by omega) (by omega) (by omega), he]
    simp [sizeOf, typeInfo, hi0, hz1, Result.andThen]
  unfold sliced at hrun
  refine ⟨_, fun W => (run_sliceAt_slice W 22 _ _ _ _ (by kernel_rfl)).trans (hrun W), ?_⟩
  intro hl
  rw [List.length_take, List.length_drop] at hl
  obtain ⟨b, off, rfl, hb, hcl⟩ := h (by omega)
  refine ⟨b, off + lo, ?_, hb, fun j hj => ?_⟩
  · rw [if_neg (by omega)]
    simp only [Option.map_some, Nat.mul_one]
    unfold Addr.add
    by_cases h0 : lo = 0
    · subst h0; simp
    · simp [h0]
  · rw [List.length_take, List.length_drop] at hj
    rw [nth_take _ _ _ (by omega), nth_drop, Nat.add_assoc]
    exact hcl (lo + j) (by omega)
theorem own_low {w : World} {B B' : Nat} {v : Value} {zs : List Int} (h : OwnI w B' v zs) (hB : B ≤ B') : OwnI w B v zs :=
  ⟨h.1, h.2.imp id (fun ⟨g, cap, cur, a, b, c⟩ => ⟨g, cap, cur, a, Nat.le_trans hB b, c⟩)⟩
set_option maxHeartbeats 4000000 in
theorem rfold_any (op : Int) (A A' : Option Addr) (c cl : Nat) (l lens : List Int) (w : World) (h : Sl w A l) (hcl : l.length ≤ cl) (k : Ok l) (h' : Sl w A' lens) (hc' : lens.length ≤ c) (k' : Ok lens) :
    Calls Tryz.prog 8 #[.int .i64 op, .slice A l.length cl, .slice A' lens.length c] w (RetL w (orL (fsE op l lens) (kpK (whL (doN op) (neN op)) l lens lens.length)) (fsE op l lens)) := by
  have C1 := sgw_any A A' c cl op l lens w h k h' k'
  by_cases he : fsE op l lens = 0
  · obtain ⟨hce, HZ⟩ := fsE_ok he
    have haB := neE_aB (cE_ok hce).1
    have hw : Wds l := (lsE_ok (cE_ok hce).2).2 l (by simp)
    have hll := HZ.short
    have hlf := HZ.few
    have HZ := Lib.hid HZ; have HB := Lib.hid haB; have HW := Lib.hid hw; have HM := Lib.hid (mon_op haB)
    obtain ⟨i0, hi, hz0, hz1, hz2⟩ := info_parts int_info
    rw [he] at C1
    rw [he, orL_ok]
    have C1 := Lib.hid C1
    clear he hce haB hw
    go_enter Tryz.func8, Tryz.ntmps8
    go_wp2_with fail
    refine C1.out.mono ?_
    rintro e w1 ⟨rfl, hB0⟩
    have h1 := h.step hB0
    have h1' := h'.step hB0
    clear C1
    go_wp2
    go_loopw [9, 10, 11] (fun v a i wr => ∃ (k : Nat) (L : List Int), k ≤ lens.length ∧ i = .int .i64 k ∧ a = .int .i64 (ofs lens k : Nat) ∧ Hid (L = kpK (whL (doN op) (neN op)) l lens k) ∧ L.length = k ∧ OwnI wr w1.heap.size v L ∧ Below w1.heap.size w1 wr) (fun _ _ i _ => lens.length - (intOf i).toNat)
    case atStart => exact ⟨0, [], Nat.zero_le _, rfl, by rw [ofs_zero]; rfl, Lib.hid rfl, rfl, OwnI.empty w1 _ (Nat.le_refl _), (Below.refl _ _).alloc (Nat.le_refl _) _⟩
    case round =>
      obtain ⟨k, L, hk, rfl, rfl, HL, hLl, hown, hBr⟩ := hrel
      by_cases hlt : k < lens.length
      · have hLk : L.length ≤ 1048576 := by omega
        obtain ⟨s1, s2, s3, s4, s5⟩ := HZ.out.step k hlt
        obtain ⟨b2, o2, rfl, hb2, hq2⟩ := h1'.at_ hlt
        have hsl := HZ.out.seg_length k hlt
        obtain ⟨m, hy⟩ : ∃ m : Nat, nth lens k = (m : Int) := ⟨(nth lens k).toNat, by omega⟩
        rw [hy] at s1 s4 s5 hq2 hsl
        rw [Int.toNat_natCast] at hsl
        clear hy
        obtain ⟨p0, hp0⟩ : ∃ p, ofs lens k = p := ⟨_, rfl⟩
        obtain ⟨p1, hp1⟩ : ∃ p, ofs lens (k + 1) = p := ⟨_, rfl⟩
        have HP0 := Lib.hid hp0
        have HP1 := Lib.hid hp1
        rw [hp0] at s1 s2 ⊢
        rw [hp1] at s1 s2 s3
        clear hp0 hp1
        have hqr := (hBr.cell (p := ⟨b2, o2 + k, none⟩) hb2).trans hq2
        have q1 : (0 : Int) ≤ (k : Int) := by omega
        have q2 : (k : Int) < (lens.length : Int) := by omega
        have hsum : (p0 : Int) + (m : Int) = (p1 : Int) := by omega
        have hwr : IntKind.i64.wrap (p1 : Int) = (p1 : Int) := IntWalk.i64_in _ (by omega)
        have HSL := Lib.hid hsl
        clear s1 hsl
        obtain ⟨B, hrun, hsB⟩ := slice_lh A l.length cl p0 p1 l wr (h1.step hBr) rfl s2 s3 hcl
        have hsg : (l.drop p0).take (p1 - p0) = sgL l lens k := by unfold sgL; rw [HP0.out, HP1.out]
        rw [hsg] at hsB
        have C2 := rjoined_any HB.out B (cl - p0) (p1 - p0) (sgL l lens k) wr hsB (by rw [HSL.out]; omega) (by omega) (sg_word HW.out lens k)
        have HS : Hid (kpK (whL (doN op) (neN op)) l lens (k + 1) = L ++ [scN (doN op) (neN op) (sgL l lens k) (p1 - p0)]) := Lib.hid (by
          rw [HL.out]
          show _ ++ [scN (doN op) (neN op) (sgL l lens k) (sgL l lens k).length] = _
          rw [HSL.out]
          have : m = p1 - p0 := by omega
          rw [this])
        obtain ⟨x, hx⟩ : ∃ x, scN (doN op) (neN op) (sgL l lens k) (p1 - p0) = x := ⟨_, rfl⟩
        rw [hx] at C2 HS
        have C2 := Lib.hid C2
        clear hx hsg hsB
        go_wp2_with fail
        refine C2.out.mono ?_
        rintro e w2 ⟨rfl, hBx⟩
        have hown2 := hown.below hBx (Nat.le_refl _)
        have hBr2 := hBr.trans (hBx.mono hBr.size)
        have hqr := (hBr2.cell (p := ⟨b2, o2 + k, none⟩) hb2).trans hq2
        clear hown hBr hBx hrun C2
        go_wp2_with (at_builtin; refine wpList_append_own _ rfl _ _ 22 rfl w1.heap.size 3 i0 (.int .i64 0) 1 8 Tryz.underlying22 hi hz0 hz1 hz2 rfl (by decide) _ _ _ rfl (hown2.alloc _) ⟨_, 0, none⟩ 1 1 [.int .i64 x] rfl rfl (cell_one_new _ _ _) (by simp [Value.oneCell']) (by unfold maxLen; omega) (by omega) (by have := hBr2.size; simp; omega) ?_; intro v' w2q hown' hgrow _; have hB2 := below_append hBr2 hBr2.size hown2 hgrow; have hqr := (hB2.cell (p := ⟨b2, o2 + k, none⟩) hb2).trans hq2)
        have hown3 := OwnI.snoc hown'
        clear hown' hgrow
        go_roundw
        case rel => exact ⟨k + 1, L ++ [x], by omega, by go_num, by rw [HP1.out], Lib.hid HS.out.symm, by rw [List.length_append]; simp; omega, hown3, hB2⟩
        case measure => simp [intOf]; omega
      · obtain rfl : k = lens.length := by omega
        have HL2 := HL.out
        obtain ⟨Av, cv, rfl, hcv, hsv⟩ := hown.form
        have hBe := hB0.trans (hBr.mono hB0.size)
        clear HL
        go_wp2
        go_ret2
        subst HL2
        exact ⟨Av, cv, rfl, hcv, hsv, hBe⟩
  · have he' := he
    obtain ⟨s, hss⟩ : ∃ s, fsE op l lens = s := ⟨_, rfl⟩
    rw [hss] at C1 he ⊢
    have hsd : (s != 0) = true := by rw [bne_iff_ne]; exact he
    clear hss he'
    have C1 := Lib.hid C1
    go_enter Tryz.func8, Tryz.ntmps8
    go_wp2_with fail
    refine C1.out.mono ?_
    rintro e w1 ⟨rfl, hB0⟩
    go_wp2
    go_ret2
    exact retL_none' he hB0
set_option maxHeartbeats 4000000 in
theorem rscan_any (op : Int) (A A' : Option Addr) (c cl : Nat) (l lens : List Int) (w : World) (h : Sl w A l) (hcl : l.length ≤ cl) (k : Ok l) (h' : Sl w A' lens) (hc' : lens.length ≤ c) (k' : Ok lens) :
    Calls Tryz.prog 10 #[.int .i64 op, .slice A l.length cl, .slice A' lens.length c] w (fun e w' => ∃ v, e = .returned (.tuple #[v, .int .i64 (fsE op l lens)]) ∧ OwnI w' w.heap.size v (orL (fsE op l lens) (kpK (ahL (doN op) (neN op)) l lens lens.length)) ∧ Below w.heap.size w w') := by
  have C1 := sgw_any A A' c cl op l lens w h k h' k'
  by_cases he : fsE op l lens = 0
  · obtain ⟨hce, HZ⟩ := fsE_ok he
    have haB := neE_aB (cE_ok hce).1
    have hw : Wds l := (lsE_ok (cE_ok hce).2).2 l (by simp)
    have hll := HZ.short
    have hlf := HZ.few
    have HZ := Lib.hid HZ; have HB := Lib.hid haB; have HW := Lib.hid hw; have HM := Lib.hid (mon_op haB)
    obtain ⟨i0, hi, hz0, hz1, hz2⟩ := info_parts int_info
    rw [he] at C1
    rw [he, orL_ok]
    have CN := Lib.hid (fun W => by have := rneutral_any op W; rw [(cE_ok hce).1] at this; exact this)
    have C1 := Lib.hid C1
    clear he hce haB hw
    go_enter Tryz.func10, Tryz.ntmps10
    go_wp2_with fail
    refine C1.out.mono ?_
    rintro e w1 ⟨rfl, hB0⟩
    have h1 := h.step hB0
    have h1' := h'.step hB0
    clear C1
    go_wp2
    go_loopw [9, 10, 11] (fun v a i wr => ∃ (k : Nat) (L : List Int), k ≤ lens.length ∧ i = .int .i64 k ∧ a = .int .i64 (ofs lens k : Nat) ∧ Hid (L = kpK (ahL (doN op) (neN op)) l lens k) ∧ OwnI wr w1.heap.size v L ∧ Below w1.heap.size w1 wr) (fun _ _ i _ => lens.length - (intOf i).toNat)
    case atStart => exact ⟨0, [], Nat.zero_le _, rfl, by rw [ofs_zero]; rfl, Lib.hid rfl, OwnI.empty w1 _ (Nat.le_refl _), (Below.refl _ _).alloc (Nat.le_refl _) _⟩
    case round =>
      obtain ⟨k, L, hk, rfl, rfl, HL, hown, hBr⟩ := hrel
      by_cases hlt : k < lens.length
      · have hLl : L.length = ofs lens k := by rw [HL.out]; exact HZ.out.kp_len (f := ahL (doN op) (neN op)) (fun s => mk_length _ _) k hk
        obtain ⟨s1, s2, s3, s4, s5⟩ := HZ.out.step k hlt
        obtain ⟨b2, o2, rfl, hb2, hq2⟩ := h1'.at_ hlt
        have hsl := HZ.out.seg_length k hlt
        obtain ⟨m, hy⟩ : ∃ m : Nat, nth lens k = (m : Int) := ⟨(nth lens k).toNat, by omega⟩
        rw [hy] at s1 s4 s5 hq2 hsl
        rw [Int.toNat_natCast] at hsl
        clear hy
        obtain ⟨p0, hp0⟩ : ∃ p, ofs lens k = p := ⟨_, rfl⟩
        obtain ⟨p1, hp1⟩ : ∃ p, ofs lens (k + 1) = p := ⟨_, rfl⟩
        have HP0 := Lib.hid hp0
        have HP1 := Lib.hid hp1
        rw [hp0] at s1 s2 ⊢
        rw [hp1] at s1 s2 s3
        clear hp0 hp1
        have hqr := (hBr.cell (p := ⟨b2, o2 + k, none⟩) hb2).trans hq2
        have q1 : (0 : Int) ≤ (k : Int) := by omega
        have q2 : (k : Int) < (lens.length : Int) := by omega
        have hsum : (p0 : Int) + (m : Int) = (p1 : Int) := by omega
        have hwr : IntKind.i64.wrap (p1 : Int) = (p1 : Int) := IntWalk.i64_in _ (by omega)
        have HSL := Lib.hid hsl
        clear s1 hsl
        have HLp : Hid (L.length = p0) := Lib.hid (hLl.trans HP0.out)
        clear hLl
        go_wp2_with fail
        refine (CN.out _).mono ?_
        rintro e w2 ⟨rfl, hBx⟩
        have hown2 := hown.below hBx (Nat.le_refl _)
        have hBr2 := hBr.trans (hBx.mono hBr.size)
        clear hown hBr hBx hqr
        go_wp2
        go_loopw [9, 12, 14] (fun v n j ws => ∃ i : Nat, i ≤ m ∧ j = .int .i64 i ∧ n = .int .i64 (scN (doN op) (neN op) (sgL l lens k) i) ∧ OwnI ws w1.heap.size v (L ++ mk (scN (doN op) (neN op) (sgL l lens k)) i) ∧ Below w1.heap.size w1 ws) (fun _ _ j _ => m - (intOf j).toNat)
        case atStart => exact ⟨0, Nat.zero_le _, rfl, rfl, by rw [show mk (scN (doN op) (neN op) (sgL l lens k)) 0 = [] from rfl, List.append_nil]; exact hown2, hBr2⟩
        case round =>
          clear hown2 hBr2
          obtain ⟨i, hil, rfl, rfl, hown, hBs⟩ := hrel
          have hqs := (hBs.cell (p := ⟨b2, o2 + k, none⟩) hb2).trans hq2
          by_cases hli : i < m
          · obtain ⟨b1, o1, rfl, hb1, hq1⟩ := h1.at_ (k := p0 + i) (by omega)
            have hnt : nth (sgL l lens k) i = nth l (p0 + i) := by rw [seg_nth _ _ _ _ (by rw [HSL.out]; exact hli), HP0.out]
            have C2 := rval_as HB.out (HM.out.sc (sg_word HW.out lens k) HM.out.one i) ((sg_word HW.out lens k).at i)
            have HS : doN op (scN (doN op) (neN op) (sgL l lens k) i) (nth (sgL l lens k) i) = scN (doN op) (neN op) (sgL l lens k) (i + 1) := rfl
            have HA : mk (scN (doN op) (neN op) (sgL l lens k)) (i + 1) = mk (scN (doN op) (neN op) (sgL l lens k)) i ++ [scN (doN op) (neN op) (sgL l lens k) i] := mk_succ _ _
            have hal : (L ++ mk (scN (doN op) (neN op) (sgL l lens k)) i).length ≤ 1048576 := by rw [List.length_append, mk_length, HLp.out]; omega
            rw [HS] at C2
            rw [hnt] at C2
            obtain ⟨z, hz⟩ : ∃ z, scN (doN op) (neN op) (sgL l lens k) i = z := ⟨_, rfl⟩
            obtain ⟨y, hy⟩ : ∃ y, nth l (p0 + i) = y := ⟨_, rfl⟩
            obtain ⟨N', hN'⟩ : ∃ N', scN (doN op) (neN op) (sgL l lens k) (i + 1) = N' := ⟨_, rfl⟩
            obtain ⟨s, hs⟩ : ∃ s, p0 + i = s := ⟨_, rfl⟩
            have HN' := Lib.hid hN'
            rw [hz] at C2 HA ⊢
            rw [hy] at C2 hq1
            rw [hN'] at C2
            rw [hs] at hq1
            have hsI : (p0 : Int) + (i : Int) = (s : Int) := by omega
            have hsw : IntKind.i64.wrap (s : Int) = (s : Int) := IntWalk.i64_in _ (by omega)
            have hs0 : (0 : Int) ≤ (s : Int) := by omega
            have hs1 : (s : Int) < (l.length : Int) := by omega
            have HA := Lib.hid HA
            have C2 := Lib.hid C2
            obtain ⟨LL, hLL⟩ : ∃ LL, L ++ mk (scN (doN op) (neN op) (sgL l lens k)) i = LL := ⟨_, rfl⟩
            rw [hLL] at hown hal
            have HLL := Lib.hid hLL
            have hii : (i : Int) < (m : Int) := by omega
            clear hz hy hN' hs HS hnt hLL
            go_wp2_with (at_builtin; refine wpList_append_own _ rfl _ _ 22 rfl w1.heap.size 3 i0 (.int .i64 0) 1 8 Tryz.underlying22 hi hz0 hz1 hz2 rfl (by decide) _ _ _ rfl (hown.alloc _) ⟨_, 0, none⟩ 1 1 [.int .i64 z] rfl rfl (cell_one_new _ _ _) (by simp [Value.oneCell']) (by unfold maxLen; omega) (by omega) (by have := hBs.size; simp; omega) ?_; intro v' w2q hown' hgrow _; have hB2 := below_append hBs hBs.size hown hgrow; have hq1' := (hB2.cell (p := ⟨b1, o1 + s, none⟩) hb1).trans hq1)
            have hown3 := OwnI.snoc hown'
            clear hown' hgrow hown hBs hqs
            go_wp2_with fail
            refine (C2.out _).mono ?_
            rintro e w' ⟨rfl, rfl⟩
            go_wp2
            go_roundw
            case rel => exact ⟨i + 1, by omega, by go_num, by rw [HN'.out], by rw [HA.out, ← List.append_assoc, HLL.out]; exact hown3, hB2⟩
            case measure => simp [intOf]; omega
          · obtain rfl : i = m := by omega
            have HK : Hid (L ++ mk (scN (doN op) (neN op) (sgL l lens k)) i = kpK (ahL (doN op) (neN op)) l lens (k + 1)) := Lib.hid (by
              rw [HL.out]
              show _ = _ ++ mk (scN (doN op) (neN op) (sgL l lens k)) (sgL l lens k).length
              rw [HSL.out])
            go_wp2
            go_roundw
            case rel => exact ⟨k + 1, _, by omega, by go_num, by rw [HP1.out], HK, hown, hBs⟩
            case measure => simp [intOf]; omega
      · obtain rfl : k = lens.length := by omega
        have HL2 := HL.out
        have hBe := hB0.trans (hBr.mono hB0.size)
        have hb0 := hB0.size
        clear HL
        go_wp2
        go_ret2
        subst HL2
        exact ⟨_, rfl, own_low hown hb0, hBe⟩
  · have he' := he
    obtain ⟨s, hss⟩ : ∃ s, fsE op l lens = s := ⟨_, rfl⟩
    rw [hss] at C1 he ⊢
    have hsd : (s != 0) = true := by rw [bne_iff_ne]; exact he
    clear hss he'
    have C1 := Lib.hid C1
    go_enter Tryz.func10, Tryz.ntmps10
    go_wp2_with fail
    refine C1.out.mono ?_
    rintro e w1 ⟨rfl, hB0⟩
    go_wp2
    go_ret2
    exact ⟨.slice none 0 0, rfl, by rw [orL_err _ he]; exact OwnI.nil _ _, hB0⟩
theorem own_cases {w : World} {base : Nat} {v : Value} {zs : List Int} (h : OwnI w base v zs) : (v = .slice none 0 0 ∧ zs.length = 0) ∨ ∃ g c, v = .slice (some ⟨g, 0, none⟩) zs.length c ∧ zs.length ≤ c := by
  rcases h.2 with ⟨rfl, h0⟩ | ⟨g, cap, cur, rfl, hb, hh, hnc, _⟩
  · exact .inl ⟨rfl, h0⟩
  · exact .inr ⟨g, cap, rfl, hnc⟩
theorem OwnI.sl_of {w : World} {base g n c : Nat} {zs : List Int} (h : OwnI w base (.slice (some ⟨g, 0, none⟩) n c) zs) (hn : zs.length = n) : Sl w (some ⟨g, 0, none⟩) zs := by
  subst hn
  intro hl
  refine ⟨g, 0, rfl, (h.lt g rfl).2, fun j hj => ?_⟩
  rw [Nat.zero_add]
  exact h.cellAt j hj
theorem st_set (T S : List Int) (j : Nat) (h : j < T.length) (h' : T.length = S.length) : (T.take j ++ S.drop j).set j (nth T j) = T.take (j + 1) ++ S.drop (j + 1) := by
  have hl : (T.take j).length = j := by rw [List.length_take]; omega
  rw [List.set_append_right _ _ (by omega), hl, Nat.sub_self, List.drop_eq_getElem_cons (by omega), List.set_cons_zero, List.take_succ_eq_append_getElem h, List.append_assoc, nth_eq T j h]
  rfl
theorem st_len (T S : List Int) (j : Nat) (h : j < T.length) (h' : T.length = S.length) : (T.take (j + 1) ++ S.drop (j + 1)).length = T.length := by
  rw [List.length_append, List.length_take, List.length_drop]; omega
theorem st_nth (T S : List Int) (j : Nat) (h : j < T.length) (h' : T.length = S.length) : nth (T.take j ++ S.drop j) j = nth S j := by
  have hl : (T.take j).length = j := by rw [List.length_take]; omega
  rw [nth_app_ge _ _ _ (by omega), hl, Nat.sub_self, nth_drop, Nat.add_zero]
theorem kp_wordZ {f : Int → Int → Int} {x : Int} (M : Mon f x) {l : List Int} (hw : Wds l) (lens : List Int) : ∀ i, Wds (kpK (ahL f x) l lens i)
  | 0 => fun j hj => by simp [kpK] at hj
  | i + 1 => fun j hj => by
    have e : kpK (ahL f x) l lens (i + 1) = kpK (ahL f x) l lens i ++ ahL f x (sgL l lens i) := rfl
    rw [e] at hj ⊢
    rw [List.length_append] at hj
    by_cases h1 : j < (kpK (ahL f x) l lens i).length
    · rw [nth_app_lt _ _ _ h1]; exact kp_wordZ M hw lens i j h1
    · rw [nth_app_ge _ _ _ (by omega)]
      have e2 : (ahL f x (sgL l lens i)).length = (sgL l lens i).length := mk_length _ _
      rw [e2] at hj
      show isW (nth (mk (scN f x (sgL l lens i)) (sgL l lens i).length) _)
      rw [nth_mk _ _ _ (by omega)]
      exact M.sc (sg_word hw _ _) M.one _
set_option maxHeartbeats 4000000 in
theorem rthru_any (op : Int) (A A' : Option Addr) (c cl : Nat) (l lens : List Int) (w : World) (h : Sl w A l) (hcl : l.length ≤ cl) (k : Ok l) (h' : Sl w A' lens) (hc' : lens.length ≤ c) (k' : Ok lens) :
    Calls Tryz.prog 12 #[.int .i64 op, .slice A l.length cl, .slice A' lens.length c] w (RetL w (orL (fsE op l lens) (kpK (upL' (doN op) (neN op)) l lens lens.length)) (fsE op l lens)) := by
  have C1 := rscan_any op A A' c cl l lens w h hcl k h' hc' k'
  by_cases he : fsE op l lens = 0
  · obtain ⟨hce, HZ⟩ := fsE_ok he
    have haB := neE_aB (cE_ok hce).1
    have hw : Wds l := (lsE_ok (cE_ok hce).2).2 l (by simp)
    have hll := HZ.short
    have hSl : (kpK (ahL (doN op) (neN op)) l lens lens.length).length = l.length := by rw [HZ.kp_len (f := ahL (doN op) (neN op)) (fun s => mk_length _ _) _ (Nat.le_refl _), HZ.ofs_all]
    have hTl : (kpK (upL' (doN op) (neN op)) l lens lens.length).length = l.length := by rw [HZ.kp_len (f := upL' (doN op) (neN op)) (fun s => mk_length _ _) _ (Nat.le_refl _), HZ.ofs_all]
    have hT : ∀ j, j < l.length → nth (kpK (upL' (doN op) (neN op)) l lens lens.length) j = doN op (nth (kpK (ahL (doN op) (neN op)) l lens lens.length) j) (nth l j) := fun j hj => by
      rw [kp_thru (doN op) (neN op) HZ _ (Nat.le_refl _), nth_mk _ _ _ (by rw [HZ.ofs_all]; exact hj)]
    have hSw : Wds (kpK (ahL (doN op) (neN op)) l lens lens.length) := kp_wordZ (mon_op haB) hw lens _
    rw [he, orL_ok] at C1
    rw [he, orL_ok]
    obtain ⟨SC, hSC⟩ : ∃ S, kpK (ahL (doN op) (neN op)) l lens lens.length = S := ⟨_, rfl⟩
    obtain ⟨TH, hTH⟩ : ∃ S, kpK (upL' (doN op) (neN op)) l lens lens.length = S := ⟨_, rfl⟩
    rw [hSC] at C1 hSl hT hSw
    rw [hTH] at hTl hT ⊢
    obtain ⟨N, hN⟩ : ∃ N, SC.length = N := ⟨_, rfl⟩
    have HN := Lib.hid hN
    have HlN := Lib.hid (hSl.symm.trans hN)
    have HTl := Lib.hid ((hTl.trans hSl.symm).trans hN)
    have hlN : N ≤ 1048576 := by omega
    have HT := Lib.hid hT; have HB := Lib.hid haB; have HW := Lib.hid hw; have HSw := Lib.hid hSw
    have C1 := Lib.hid C1
    clear he hce HZ haB hw hSl hTl hT hSw hSC hTH hN hll
    go_enter Tryz.func12, Tryz.ntmps12
    go_wp2_with fail
    refine C1.out.mono ?_
    rintro e w1 ⟨v, rfl, hown, hB0⟩
    have h1 := h.step hB0
    clear C1
    rcases own_cases hown with ⟨hv, h0⟩ | ⟨g, cv, hv, hcv⟩
    · subst hv
      have hN0 : N = 0 := by rw [← HN.out]; exact h0
      have HT0 : Hid (TH = []) := Lib.hid (List.eq_nil_of_length_eq_zero (HTl.out.trans hN0))
      clear hown h0 hN0
      go_wp2
      go_loopw [10] (fun i wr => i = .int .i64 0 ∧ wr = w1) (fun i _ => 0)
      case atStart => exact ⟨rfl, rfl⟩
      case round =>
        obtain ⟨rfl, rfl⟩ := hrel
        go_wp2
        go_ret2
        rw [HT0.out]
        exact ⟨none, 0, rfl, Nat.le_refl _, Sl.nil _ _, hB0⟩
    · subst hv
      rw [HN.out] at hcv ⊢
      have hgb := (hown.lt g rfl).1
      go_wp2
      go_loopw [10] (fun i wr => ∃ j : Nat, j ≤ N ∧ i = .int .i64 j ∧ OwnI wr w.heap.size (.slice (some ⟨g, 0, none⟩) N cv) (TH.take j ++ SC.drop j) ∧ Below w.heap.size w wr) (fun i _ => N - (intOf i).toNat)
      case atStart =>
        refine ⟨0, Nat.zero_le _, rfl, ?_, hB0⟩
        rw [HN.out] at hown
        simpa using hown
      case round =>
        obtain ⟨j, hj, rfl, ho, hBr⟩ := hrel
        have hlen : (TH.take j ++ SC.drop j).length = N := by rw [List.length_append, List.length_take, List.length_drop, HTl.out, HN.out]; omega
        by_cases hlt : j < N
        · rw [← hlen] at ho
          have hc := ho.cellAt j (by rw [hlen]; exact hlt)
          have hf := ho.frozenAt j
          have hst := (ho.drew.stored j (nth TH j)).1
          rw [st_set TH SC j (by rw [HTl.out]; exact hlt) (by rw [HTl.out, HN.out])] at hst
          rw [st_nth TH SC j (by rw [HTl.out]; exact hlt) (by rw [HTl.out, HN.out])] at hc
          rw [st_len TH SC j (by rw [HTl.out]; exact hlt) (by rw [HTl.out, HN.out]), HTl.out] at hst
          obtain ⟨b1, o1, rfl, hb1, hq1⟩ := (h.step hBr).at_ (k := j) (by rw [HlN.out]; exact hlt)
          have C2 := rval_as HB.out (HSw.out.at j) (HW.out.at j)
          rw [← HT.out j (by rw [HlN.out]; exact hlt)] at C2
          obtain ⟨a, ha⟩ : ∃ a, nth SC j = a := ⟨_, rfl⟩
          obtain ⟨y, hy⟩ : ∃ y, nth l j = y := ⟨_, rfl⟩
          obtain ⟨x, hx⟩ : ∃ x, nth TH j = x := ⟨_, rfl⟩
          rw [ha] at C2 hc
          rw [hy] at C2 hq1
          rw [hx] at C2 hst
          have C2 := Lib.hid C2
          have q1 : (0 : Int) ≤ (j : Int) := by omega
          have q2 : (j : Int) < (N : Int) := by omega
          have q3 : (j : Int) < (l.length : Int) := by rw [HlN.out]; omega
          have hBs := hBr.drew.setCell (p := ⟨g, j, none⟩) hgb (.int .i64 x)
          have Hst := Lib.hid hst
          clear ha hy hx ho hlen hlt hst hown
          go_wp2
          refine wp_region_tab (fun W' => W' = wr.drew) 13 (by kernel_rfl) (by kernel_rfl) rfl ?_
          simp only [List.take_succ_cons, List.take_zero, List.drop_succ_cons, List.drop_zero]
          refine wpTab_value (v := .slice (some ⟨g, 0, none⟩) N cv) (fun W hW => ?_) ?_
          · (subst hW; go_simp; try with_reducible rfl)
          simp only [Act.put, List.setIfInBounds_toArray, List.set_cons_zero, List.set_cons_succ]
          refine wpTab_value (v := .int .i64 (j : Int)) (fun W hW => ?_) ?_
          · (subst hW; go_simp; try with_reducible rfl)
          simp only [Act.put, List.setIfInBounds_toArray, List.set_cons_zero, List.set_cons_succ]
          refine wpTab_value (v := .int .i64 op) (fun W hW => ?_) ?_
          · (subst hW; go_simp; try with_reducible rfl)
          simp only [Act.put, List.setIfInBounds_toArray, List.set_cons_zero, List.set_cons_succ]
          refine wpTab_value (v := .slice (some ⟨g, 0, none⟩) N cv) (fun W hW => ?_) ?_
          · (subst hW; go_simp; try with_reducible rfl)
          simp only [Act.put, List.setIfInBounds_toArray, List.set_cons_zero, List.set_cons_succ]
          refine wpTab_value (v := .int .i64 (j : Int)) (fun W hW => ?_) ?_
          · (subst hW; go_simp; try with_reducible rfl)
          simp only [Act.put, List.setIfInBounds_toArray, List.set_cons_zero, List.set_cons_succ]
          refine wpTab_value (v := .pointer (some ⟨g, j, none⟩)) (fun W hW => ?_) ?_
          · (subst hW; go_simp; try with_reducible rfl)
          simp only [Act.put, List.setIfInBounds_toArray, List.set_cons_zero, List.set_cons_succ]
          refine wpTab_value (v := .int .i64 a) (fun W hW => ?_) ?_
          · (subst hW; go_simp; try with_reducible rfl)
          simp only [Act.put, List.setIfInBounds_toArray, List.set_cons_zero, List.set_cons_succ]
          refine wpTab_value (v := .slice (some ⟨b1, o1, none⟩) l.length cl) (fun W hW => ?_) ?_
          · (subst hW; go_simp; try with_reducible rfl)
          simp only [Act.put, List.setIfInBounds_toArray, List.set_cons_zero, List.set_cons_succ]
          refine wpTab_value (v := .int .i64 (j : Int)) (fun W hW => ?_) ?_
          · (subst hW; go_simp; try with_reducible rfl)
          simp only [Act.put, List.setIfInBounds_toArray, List.set_cons_zero, List.set_cons_succ]
          refine wpTab_value (v := .pointer (some ⟨b1, o1 + j, none⟩)) (fun W hW => ?_) ?_
          · (subst hW; go_simp; try with_reducible rfl)
          simp only [Act.put, List.setIfInBounds_toArray, List.set_cons_zero, List.set_cons_succ]
          refine wpTab_value (v := .int .i64 y) (fun W hW => ?_) ?_
          · (subst hW; go_simp; try with_reducible rfl)
          simp only [Act.put, List.setIfInBounds_toArray, List.set_cons_zero, List.set_cons_succ]
          refine wpTab_call (f := 35) (args := #[.int .i64 op, .int .i64 a, .int .i64 y]) (v := .int .i64 x) (fun W => ?_) (fun W hW => ?_) ?_
          · (go_simp; try with_reducible rfl)
          · exact (C2.out W).mono (fun e w' ⟨he, hb⟩ => ⟨he, hb ▸ hW⟩)
          simp only [Act.put, List.setIfInBounds_toArray, List.set_cons_zero, List.set_cons_succ]
          refine wpTab_value (v := .pointer (some ⟨g, j, none⟩)) (fun W hW => ?_) ?_
          · (subst hW; go_simp; try with_reducible rfl)
          simp only [Act.put, List.setIfInBounds_toArray, List.set_cons_zero, List.set_cons_succ]
          refine wpTab_nil (fun wz hz => ?_)
          subst hz
          go_wp2
          go_roundw
          case rel => exact ⟨j + 1, by omega, by go_num, Hst.out, hBs⟩
          case measure => simp [intOf]; omega
        · obtain rfl : j = N := by omega
          have hTe : TH.take j ++ SC.drop j = TH := by rw [List.take_of_length_le (by rw [HTl.out]; exact Nat.le_refl _), List.drop_of_length_le (by rw [HN.out]; exact Nat.le_refl _), List.append_nil]
          rw [hTe] at ho
          have hso := ho.sl_of HTl.out
          clear hTe hlen ho
          go_wp2
          go_ret2
          refine ⟨some ⟨g, 0, none⟩, cv, ?_, by rw [HTl.out]; exact hcv, hso, hBr⟩
          rw [HTl.out]
          rfl
  · have he' := he
    rw [orL_err _ he] at C1 ⊢
    obtain ⟨s, hss⟩ : ∃ s, fsE op l lens = s := ⟨_, rfl⟩
    rw [hss] at C1 he ⊢
    have hsd : (s != 0) = true := by rw [bne_iff_ne]; exact he
    clear hss he'
    have C1 := Lib.hid C1
    go_enter Tryz.func12, Tryz.ntmps12
    go_wp2_with fail
    refine C1.out.mono ?_
    rintro e w1 ⟨v, rfl, hown, hB0⟩
    obtain ⟨Av, cv, rfl, _, _⟩ := hown.form
    clear hown
    go_wp2
    go_ret2
    exact ⟨none, 0, rfl, Nat.le_refl _, Sl.nil _ _, hB0⟩
end Go.Proofs.YtecpanppnljkhaaGreatDoor
