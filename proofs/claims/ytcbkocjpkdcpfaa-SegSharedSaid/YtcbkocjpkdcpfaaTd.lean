/- The specification's Shared, counts, Depth, Places. -/
import Derived.Test.YtcbkocjpkdcpfaaTc
namespace Go.Proofs.Ytcbkocjpkdcpfaa
set_option linter.unusedVariables false
open Go.RowKit Go.Shelf

/-! ### the places of all elements -/
def plS (s l : Int) : List Int := (List.range l.toNat).map fun j : Nat => s + (j : Int)
def plP (ss ls : List Int) {n : Nat} (pre : List (Fin n)) : List Int := pre.flatMap fun x => plS (nth ss x.val) (nth ls x.val)
def plL (ss ls : List Int) : List Int := plP ss ls (List.finRange ss.length)
theorem plP_snoc (ss ls : List Int) {n : Nat} (pre : List (Fin n)) (x : Fin n) : plP ss ls (pre ++ [x]) = plP ss ls pre ++ plS (nth ss x.val) (nth ls x.val) := by simp [plP]
/-- The first j places of a part. -/
def plJ (s : Int) (j : Nat) : List Int := (List.range j).map fun j : Nat => s + (j : Int)
theorem plJ_zero (s : Int) : plJ s 0 = [] := rfl
theorem plJ_succ (s : Int) (j : Nat) : plJ s (j + 1) = plJ s j ++ [s + (j : Int)] := by simp [plJ, List.range_succ]
theorem plJ_all (s l : Int) : plS s l = plJ s l.toNat := rfl
theorem plJ_length (s : Int) (j : Nat) : (plJ s j).length = j := by simp [plJ]
theorem plP_length {ss ls : List Int} {N : Nat} (h : Pool ss ls N) (k : Nat) (hk : k ≤ ss.length) : ((plP ss ls (fr ss.length k)).length : Int) = psum ls k := by
  induction k with
  | zero => simp [fr, plP, psum_zero]
  | succ k ih =>
    have hn := h.at_ k (by omega)
    have hl := h.len
    rw [fr_succ _ k (by omega), plP_snoc, List.length_append, plJ_all, plJ_length, psum_succ ls k (by omega), ← ih (by omega)]
    simp only [Int.natCast_add]
    omega
theorem Pool.pos {ss ls : List Int} {N : Nat} (h : Pool ss ls N) : PosTo ls ls.length := fun j hj => (h.at_ j (by have := h.len; omega)).2.1
theorem Pool.fine {ss ls : List Int} {N : Nat} (h : Pool ss ls N) : Fine ls := ⟨by have := h.len; have := h.many; omega, h.pos, h.sum⟩
theorem plL_length {ss ls : List Int} {N : Nat} (h : Pool ss ls N) : ((plL ss ls).length : Int) = ls.sum := by
  have := plP_length h ss.length (Nat.le_refl _)
  rw [fr_all, ← h.len, psum_all] at this
  unfold plL
  rw [← h.len]
  exact this

def liesB (n lo hi : Int) : Bool := decide (lo ≤ n ∧ n ≤ hi)
theorem lies_b (n lo hi : Int) (W : World) : Calls Try.prog 25 #[.int .i64 n, .int .i64 lo, .int .i64 hi] W fun e w' => e = .returned (.bool (liesB n lo hi)) ∧ w' = W :=
  (lies_any n lo hi W).mono fun _ _ ⟨a, b⟩ => ⟨a, b.symm⟩

set_option maxRecDepth 100000 in
set_option maxHeartbeats 2000000 in
theorem rshared_any (A A' : Option Addr) (c c' : Nat) (ss ls : List Int) (n : Int) (w : World) (h : Sl w A ss) (h' : Sl w A' ls) (hls : ss.length ≤ 9223372036854775807) (hll : ls.length ≤ 9223372036854775807) (hb : ∀ j, j < ls.length → nth ls j ≤ 9223372036854775807) :
    Calls Try.prog 26 #[.slice A ss.length c, .slice A' ls.length c', .int .i64 n] w (Drew w (.tuple #[.int .i64 (shN ss ls n), .int .i64 (shE ss ls n)])) := by
  have C2 := lies_any n 0 1048576 w
  by_cases g1 : 1048576 < ss.length
  · have hf : fitE ss.length ls.length = 3 := by simp [fitE, g1]
    have HE := Lib.hid (sh_fit (n := n) (ss := ss) (ls := ls) (by omega))
    have HF := Lib.hid hf
    have hd : decide ((1048576 : Int) < (ss.length : Int)) = true := by simp; omega
    clear hf hb C2
    go_enter Try.func26, Try.ntmps26
    go_wp2
    go_ret2
    rw [HE.out.1, HE.out.2, HF.out]
    exact ⟨rfl, 0, rfl⟩
  · have hd : decide ((1048576 : Int) < (ss.length : Int)) = false := by simp; omega
    by_cases g2 : 1048576 < ls.length
    · have hf : fitE ss.length ls.length = 3 := by simp [fitE, g2]
      have HE := Lib.hid (sh_fit (n := n) (ss := ss) (ls := ls) (by omega))
      have HF := Lib.hid hf
      have hd2 : decide ((1048576 : Int) < (ls.length : Int)) = true := by simp; omega
      clear hf hb C2
      go_enter Try.func26, Try.ntmps26
      go_wp2
      go_ret2
      rw [HE.out.1, HE.out.2, HF.out]
      exact ⟨rfl, 0, rfl⟩
    · have hd2 : decide ((1048576 : Int) < (ls.length : Int)) = false := by simp; omega
      by_cases g3 : ss.length = ls.length
      · have h1 : fitE ss.length ls.length = 0 := by simp [fitE, g2, g3]
        have hd3 : ((ss.length : Int) != (ls.length : Int)) = false := by rw [bne_eq_false_iff_eq]; omega
        by_cases h2 : 0 ≤ n ∧ n ≤ 1048576
        · rw [decide_eq_true h2] at C2
          have HG3 := Lib.hid g3
          have H1 := Lib.hid h1
          clear h1
          clear g3
          have hs1 : ss.length ≤ 1048576 := by omega
          clear g1 g2
          go_enter Try.func26, Try.ntmps26
          go_wp2_with (go_at_call 25; refine C2.mono ?_; rintro e w' ⟨rfl, rfl⟩)
          go_loopw [8, 9] (fun t i wr => ∃ (m k : Nat) (T : Int), k ≤ ls.length ∧ i = .int .i64 k ∧ t = .int .i64 T ∧ Hid (T = psum ls k) ∧ 0 ≤ T ∧ T ≤ (k : Int) * 1048576 ∧ Hid (∀ j, j < k → okAt ss ls n j = true) ∧ wr = w.drewN m) (fun _ i _ => ls.length - (intOf i).toNat)
          case atStart => exact ⟨0, 0, 0, Nat.zero_le _, rfl, rfl, Lib.hid (psum_zero _).symm, by omega, by omega, Lib.hid (fun j hj => by omega), rfl⟩
          case round =>
            obtain ⟨m, k, T, hk, rfl, rfl, HT, hT0, hT1, HO, rfl⟩ := hrel
            by_cases hlt : k < ls.length
            · have hlt' : k < ss.length := by rw [HG3.out]; exact hlt
              obtain ⟨b, off, rfl, hbl, hc⟩ := h.at_ hlt'
              obtain ⟨b', off', rfl, hbl', hc'⟩ := h'.at_ hlt
              obtain ⟨W, HW⟩ : ∃ W, Hid (w.drewN m = W) := ⟨_, Lib.hid rfl⟩
              have hc1 : W.cell? ⟨b, off + k, none⟩ = some (.int .i64 (nth ss k)) := by rw [← HW.out]; exact hc
              have hc2 : W.cell? ⟨b', off' + k, none⟩ = some (.int .i64 (nth ls k)) := by rw [← HW.out]; exact hc'
              rw [HW.out]
              have hbk := hb k hlt
              clear hc hc' hb
              have hk1 : (0 : Int) ≤ (k : Int) := by omega
              have hk2 : (k : Int) < (ls.length : Int) := by omega
              have hk3 : (k : Int) < (ss.length : Int) := by omega
              obtain ⟨s, Hs⟩ : ∃ s, Hid (nth ss k = s) := ⟨_, Lib.hid rfl⟩
              obtain ⟨l, Hl⟩ : ∃ l, Hid (nth ls k = l) := ⟨_, Lib.hid rfl⟩
              rw [Hs.out] at hc1
              rw [Hl.out] at hc2 hbk
              have hps := psum_succ ls k hlt
              rw [Hl.out] at hps
              have HPS := Lib.hid hps
              have hok : okAt ss ls n k = decide (0 ≤ s ∧ 0 ≤ l ∧ s + l ≤ n) := by unfold okAt; rw [Hs.out, Hl.out]
              have HOK := Lib.hid hok
              clear hps hok
              by_cases g4 : 0 ≤ s ∧ s ≤ n
              · have D1 : liesB s 0 n = true := decide_eq_true g4
                have hw1 : IntKind.i64.wrap (n - s) = n - s := IntWalk.i64_in _ (by omega)
                by_cases g5 : 0 ≤ l ∧ l ≤ n - s
                · have D2 : liesB l 0 (n - s) = true := decide_eq_true g5
                  have HK : Hid (okAt ss ls n k = true) := Lib.hid (by rw [HOK.out]; simp; omega)
                  go_wp2
                  go_quiet ((go_at_call 25; exact Calls.quiet_of_same (lies_b _ _ _ _)))
                  have hw2 : IntKind.i64.wrap (T + l) = T + l := IntWalk.i64_in _ (by omega)
                  go_wp2
                  go_roundw
                  case rel => exact ⟨_, k + 1, T + l, by omega, by go_num, rfl, Lib.hid (by rw [HPS.out, HT.out]), by omega, by omega, Lib.hid (fun j hj => by
                    by_cases e : j = k
                    · subst e; exact HK.out
                    · exact HO.out j (by omega)), by rw [← HW.out]; exact World.drewN_drewN _ _ _⟩
                  case measure => simp [intOf]; omega
                · have D2 : liesB l 0 (n - s) = false := decide_eq_false g5
                  have HE := Lib.hid (sh_bad H1.out h2 (poolOk_not k hlt' (by rw [HOK.out]; simp; omega)))
                  clear g5
                  go_wp2
                  go_quiet ((go_at_call 25; exact Calls.quiet_of_same (lies_b _ _ _ _)))
                  go_wp2
                  go_ret2
                  rw [HE.out.1, HE.out.2, ← HW.out]
                  exact ⟨rfl, _, World.drewN_drewN _ _ _⟩
              · have D1 : liesB s 0 n = false := decide_eq_false g4
                have HE := Lib.hid (sh_bad H1.out h2 (poolOk_not k hlt' (by rw [HOK.out]; simp; omega)))
                clear g4
                go_wp2
                go_quiet ((go_at_call 25; exact Calls.quiet_of_same (lies_b _ _ _ _)))
                go_wp2
                go_ret2
                rw [HE.out.1, HE.out.2, ← HW.out]
                exact ⟨rfl, _, World.drewN_drewN _ _ _⟩
            · obtain rfl : k = ls.length := by omega
              have hp : poolOk ss ls n = true := poolOk_all fun j hj => HO.out j (by rw [← HG3.out]; exact hj)
              have hneg := isNeg_none ls (pool_pos (fitE_ok H1.out).2 hp)
              obtain ⟨a, b⟩ := sh_sum H1.out h2 hp
              have hTs : T = ls.sum := by rw [HT.out, psum_all]
              by_cases h5 : 1048576 < T
              · have hd5 : decide (1048576 < T) = true := by simpa using h5
                have HE := Lib.hid (show shE ss ls n = 9 ∧ shN ss ls n = 0 by rw [a, b]; exact sumE_full hneg (by omega))
                clear a b hp hneg hTs hb
                go_wp2
                go_ret2
                rw [HE.out.1, HE.out.2]
                exact ⟨rfl, m, rfl⟩
              · have hd5 : decide (1048576 < T) = false := by simpa using h5
                have HE := Lib.hid (show shE ss ls n = 0 ∧ shN ss ls n = T by rw [a, b, hTs]; exact sumE_ok hneg (by omega))
                clear a b hp hneg hTs hb
                go_wp2
                go_ret2
                rw [HE.out.1, HE.out.2]
                exact ⟨rfl, m, rfl⟩
        · rw [decide_eq_false h2] at C2
          have HE := Lib.hid (sh_size (ss := ss) (ls := ls) h1 h2)
          clear h1 hb h2 g3
          go_enter Try.func26, Try.ntmps26
          go_wp2_with (go_at_call 25; refine C2.mono ?_; rintro e w' ⟨rfl, rfl⟩)
          go_ret2
          rw [HE.out.1, HE.out.2]
          exact ⟨rfl, 0, rfl⟩
      · have hf : fitE ss.length ls.length = 1 := by simp [fitE, g1, g2, g3]
        have HE := Lib.hid (sh_fit (n := n) (ss := ss) (ls := ls) (by omega))
        have HF := Lib.hid hf
        have hd3 : ((ss.length : Int) != (ls.length : Int)) = true := by rw [bne_iff_ne]; omega
        clear hf hb C2
        go_enter Try.func26, Try.ntmps26
        go_wp2
        go_ret2
        rw [HE.out.1, HE.out.2, HF.out]
        exact ⟨rfl, 0, rfl⟩
end Go.Proofs.Ytcbkocjpkdcpfaa
