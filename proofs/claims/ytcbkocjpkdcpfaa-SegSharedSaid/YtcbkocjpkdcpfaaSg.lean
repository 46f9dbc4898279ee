/- Lengths, from where segments begin. -/
import Derived.Test.YtcbkocjpkdcpfaaSx
import Derived.Deep.DeepCutAuto
namespace Go.Proofs.Ytcbkocjpkdcpfaa
set_option linter.unusedVariables false
open Go.RowKit Go.Shelf

theorem isNaN76_any (n : Int) (w : World) : Calls Try.prog 76 #[.int .i64 n] w fun e w' => e = .returned (.bool false) ∧ w = w' := by
  have h : (n != n) = false := by simp
  go_enter Try.func76, Try.ntmps76
  go_wp2
  go_ret
  exact ⟨rfl, rfl⟩
theorem less_any (a b : Int) (w : World) : Calls Try.prog 70 #[.int .i64 a, .int .i64 b] w fun e w' => e = .returned (.bool (decide (a < b))) ∧ w = w' := by
  go_enter Try.func70, Try.ntmps70
  go_wp2_with (go_at_call 76; refine (isNaN76_any _ _).mono ?_; rintro e w' ⟨rfl, rfl⟩)
  go_ret
  exact ⟨rfl, rfl⟩
def Rising (zs : List Int) : Prop := ∀ j, j + 1 < zs.length → nth zs j ≤ nth zs (j + 1)

set_option maxRecDepth 100000 in
set_option maxHeartbeats 2000000 in
theorem isSorted_any (A : Option Addr) (c : Nat) (zs : List Int) (w : World) (h : Sl w A zs) (hl : zs.length ≤ 1048577) (hr : Rising zs) :
    Calls Try.prog 72 #[.slice A zs.length c] w (Drew w (.bool true)) := by
  have HR := Lib.hid hr
  clear hr
  go_enter Try.func72, Try.ntmps72
  go_wp2
  go_loopw [3] (fun i wr => ∃ (m : Nat) (x : Int), i = .int .i64 x ∧ -1 ≤ x ∧ x < (zs.length : Int) ∧ wr = w.drewN m) (fun i _ => (intOf i).toNat)
  case atStart => exact ⟨0, (zs.length : Int) - 1, rfl, by omega, by omega, rfl⟩
  case round =>
    obtain ⟨m, x, rfl, h1, h2, rfl⟩ := hrel
    by_cases hp : 0 < x
    · obtain ⟨k, rfl⟩ : ∃ k : Nat, x = (k : Int) + 1 := ⟨(x - 1).toNat, by omega⟩
      obtain ⟨b, off, rfl, hb, hc⟩ := h (by omega)
      obtain ⟨W, HW⟩ : ∃ W, Hid (w.drewN m = W) := ⟨_, Lib.hid rfl⟩
      have hc1 : W.cell? ⟨b, off + k, none⟩ = some (.int .i64 (nth zs k)) := by rw [← HW.out]; exact hc k (by omega)
      have hc2 : W.cell? ⟨b, off + (k + 1), none⟩ = some (.int .i64 (nth zs (k + 1))) := by rw [← HW.out]; exact hc (k + 1) (by omega)
      rw [HW.out]
      clear hc
      have hw1 : IntKind.i64.wrap (k : Int) = (k : Int) := IntWalk.i64_in _ (by omega)
      have g1 : (0 : Int) ≤ (k : Int) + 1 := by omega
      have g2 : (k : Int) + 1 < (zs.length : Int) := by omega
      have g3 : ((k : Int) + 1).toNat = k + 1 := by omega
      have g4 : (0 : Int) ≤ (k : Int) := by omega
      have g5 : (k : Int) < (zs.length : Int) := by omega
      have hle := HR.out k (by omega)
      have C1 : ∀ W, Calls Try.prog 70 #[.int .i64 (nth zs (k + 1)), .int .i64 (nth zs k)] W fun e w' => e = .returned (.bool false) ∧ w' = W := fun W => by
        have := less_any (nth zs (k + 1)) (nth zs k) W
        rw [decide_eq_false (by omega)] at this
        exact this.mono fun _ _ ⟨a, b⟩ => ⟨a, b.symm⟩
      go_wp2
      go_quiet ((go_at_call 70; exact Calls.quiet_of_same (C1 _)))
      go_wp2
      go_roundw
      case rel => exact ⟨_, (k : Int), by first | rfl | (congr 1; omega), by omega, by omega, by rw [← HW.out]; exact World.drewN_drewN _ _ _⟩
      case measure => simp [intOf]
    · go_wp2
      go_ret
      exact ⟨rfl, m, rfl⟩

theorem rising_stL {zs : List Int} (hF : Fine zs) : Rising (stL zs) := fun j hj => by
  rw [stL_length] at hj
  rw [nth_stL zs j (by omega), nth_stL zs (j + 1) hj, psum_succ zs j (by omega)]
  have := (hF.nth j (by omega)).1
  omega

set_option maxRecDepth 100000 in
set_option maxHeartbeats 2000000 in
theorem areStarts_any (A : Option Addr) (c : Nat) (zs : List Int) (w : World) (h : Sl w A (stL zs)) (hF : Fine zs) :
    Calls Try.prog 59 #[.slice A zs.length c, .int .i64 zs.sum] w (Drew w (.bool true)) := by
  have hlen := hF.len
  by_cases h0 : zs.length = 0
  · have e := List.eq_nil_of_length_eq_zero h0
    subst e
    go_enter Try.func59, Try.ntmps59
    go_wp2
    go_ret
    exact ⟨rfl, 0, rfl⟩
  · have hl := stL_length zs
    obtain ⟨n, hn⟩ : ∃ n, zs.length = n + 1 := ⟨zs.length - 1, by omega⟩
    have C1 := isSorted_any A c (stL zs) w h (by omega) (rising_stL hF)
    rw [hl] at C1
    obtain ⟨b, off, rfl, hb, hc⟩ := h (by omega)
    have hc0 := hc 0 (by omega)
    rw [nth_stL zs 0 (by omega), psum_zero, Nat.add_zero] at hc0
    have hcn := hc n (by omega)
    rw [nth_stL zs n (by omega)] at hcn
    have hle : psum zs n ≤ zs.sum := by
      have := psum_mono zs zs.length (Nat.le_refl _) hF.pos n zs.length (by omega) (Nat.le_refl _)
      rwa [psum_all] at this
    rw [hn] at C1 ⊢
    have hd : decide (psum zs n ≤ zs.sum) = true := by simpa using hle
    have hd0 : ((n : Int) + 1 == 0) = false := by rw [beq_eq_false_iff_ne]; omega
    clear hc h
    go_enter Try.func59, Try.ntmps59
    go_wp2_with (go_at_call 72; refine C1.mono ?_; rintro e w' ⟨rfl, m, rfl⟩)
    go_ret
    exact ⟨rfl, m, rfl⟩

theorem backward_any (A : Option Addr) (n c : Nat) (w : World) : Calls Try.prog 60 #[.slice A n c] w fun e w' => e = .returned (.func (.func 73) #[] #[.pointer (some ⟨w.heap.size, 0, none⟩)]) ∧ w' = w.alloc (.cells #[.slice A n c] 22) := by
  go_enter Try.func60, Try.ntmps60
  go_wp2
  go_ret
  exact ⟨rfl, rfl⟩

/-! ### the iterator that goes backward -/
/-- What a round keeps: whatever lay below n₀, and block B. -/
def KpB (n₀ B : Nat) (W W' : World) : Prop := Below n₀ W W' ∧ W'.heap[B]? = W.heap[B]?
theorem kpB_t {n₀ B : Nat} {X Y Z : World} (h : KpB n₀ B X Y) (k : KpB n₀ B Y Z) : KpB n₀ B X Z := ⟨h.1.trans k.1, k.2.trans h.2⟩
theorem kpB_b {n₀ B : Nat} {w : World} (hn : n₀ ≤ w.heap.size) (hB : B < w.heap.size) (W : World) (l : Nat) (o o' : Obj) (hl : w.heap.size ≤ l) (h : W.heap[l]? = some o) (h1 : o.isCells = false) (h2 : o.isWalk = false) : KpB n₀ B W (W.putObj l o') :=
  ⟨belowK_b hn W l o o' hl h h1 h2, World.putObj_heap_other (by omega)⟩
theorem kpB_refl (n₀ B : Nat) (W : World) : KpB n₀ B W W := ⟨Below.refl _ _, rfl⟩
def br (n k : Nat) : List (Fin n) := (List.finRange n).reverse.take k
theorem br_succ (n k : Nat) (h : k < n) : br n (k + 1) = br n k ++ [⟨n - 1 - k, by omega⟩] := by
  unfold br
  rw [List.take_succ_eq_append_getElem (by simpa using h)]
  simp
theorem br_length (n k : Nat) (h : k ≤ n) : (br n k).length = k := by simp [br, h]
theorem br_all (n : Nat) : br n n = (List.finRange n).reverse := by unfold br; rw [List.take_of_length_le (by simp)]
def backV (ys : List Int) (n : Nat) (x : Fin n) : Array Value := #[.int .i64 ((x.val : Nat) : Int), .int .i64 (nth ys x.val)]

attribute [local go_sem] Oper.semAt_some
set_option maxRecDepth 100000 in
set_option maxHeartbeats 2000000 in
theorem back_in (F : Fence) (n : Nat) (h7 : F.fn 73) (hro : F.round = none) (hn : 1 ≤ n) (l Bs n₀ b off c : Nat) (ys : List Int) (hlen : ys.length ≤ 1048576) (hb : b < n₀) (J Jx : List (Fin ys.length) → World → Prop)
    (hY : ∀ pre x W, J pre W → pre.length < ys.length → YieldAt F (n - 1) Try.prog l (backV ys ys.length x) W fun e W' =>
      (e = .returned (.bool true) ∧ J (pre ++ [x]) W' ∧ KpB n₀ Bs W W') ∨ (e = .returned (.bool false) ∧ Jx (pre ++ [x]) W'))
    (W : World) (hBs : Blk W Bs 22 #[.slice (some ⟨b, off, none⟩) ys.length c]) (hc : ∀ j, j < ys.length → W.cell? ⟨b, off + j, none⟩ = some (.int .i64 (nth ys j))) (h0 : J [] W) :
    CallsIn F n Try.prog 73 #[.func (.yield l) #[] #[], .pointer (some ⟨Bs, 0, none⟩)] W fun e W' => (∃ v, e = .returned v) ∧
      ((∃ xs, xs = (List.finRange ys.length).reverse ∧ J xs W') ∨ (∃ pre, (∃ k, k ≤ ys.length ∧ pre = br ys.length k) ∧ Jx pre W')) := by
  have hBc := hBs.cell 0
  simp at hBc
  refine callsIn_of_wp Try.func73 rfl h7 ?_ hro
  simp only [Try.ntmps73, List.size_toArray, List.length_cons, List.length_nil, Nat.reduceAdd, Nat.reduceSub, Array.replicate_succ, Array.replicate_zero, List.push_toArray, List.append_toArray, List.nil_append, List.cons_append]
  gi_wp2
  gi_loopw [3] (fun i wr => ∃ (k : Nat) (x : Int), k ≤ ys.length ∧ i = .int .i64 x ∧ x = (ys.length : Int) - 1 - (k : Int) ∧ J (br ys.length k) wr ∧ KpB n₀ Bs W wr)
    (fun i _ => (intOf i + 1).toNat)
  case atStart => exact ⟨0, _, Nat.zero_le _, rfl, by simp, h0, kpB_refl _ _ _⟩
  case round =>
    obtain ⟨k, x, hk, rfl, hx, hJs, hnx⟩ := hrel
    by_cases hlt : k < ys.length
    · obtain ⟨p, rfl⟩ : ∃ p : Nat, x = (p : Int) := ⟨x.toNat, by omega⟩
      have hpn : p < ys.length := by omega
      have hpe : ys.length - 1 - k = p := by omega
      have hcx' := (hnx.1.cell (p := ⟨b, off + p, none⟩) hb).trans (hc p hpn)
      have hBr : Blk wr Bs 22 #[.slice (some ⟨b, off, none⟩) ys.length c] := hnx.2.trans hBs
      have hBc' := hBr.cell 0
      simp at hBc'
      have HF : Hid (br ys.length (k + 1) = br ys.length k ++ [⟨p, hpn⟩]) := Lib.hid (by rw [br_succ ys.length k hlt]; simp only [hpe])
      obtain ⟨fn, tmps, assign, body, hy, hR⟩ := hY _ ⟨p, hpn⟩ wr hJs (by rw [br_length _ _ hk]; exact hlt)
      simp only [backV] at hy
      have HX := Lib.hid hx
      have hp1 : (0 : Int) ≤ (p : Int) := by omega
      have hp2 : (p : Int) < (ys.length : Int) := by omega
      clear hx hpe hBc
      gi_wp2
      refine hR.mono ?_
      rintro e W3 (⟨rfl, hJ3, hk3⟩ | ⟨rfl, hJx3⟩)
      · gi_wp2
        go_roundw
        case rel => exact ⟨k + 1, (p : Int) - 1, by omega, rfl, by have := HX.out; omega, by rw [HF.out]; exact hJ3, kpB_t hnx hk3⟩
        case measure => simp [intOf]
      · gi_wp2
        refine bodyPost_ret (results_none rfl _ _ _) rfl ?_
        exact ⟨⟨_, rfl⟩, .inr ⟨_, ⟨k + 1, by omega, HF.out.symm⟩, hJx3⟩⟩
    · obtain rfl : k = ys.length := by omega
      obtain rfl : x = -1 := by omega
      clear hx
      gi_wp2
      go_end0
      exact ⟨⟨_, rfl⟩, .inl ⟨_, br_all _, hJs⟩⟩

set_option maxRecDepth 100000 in
set_option maxHeartbeats 1000000 in
theorem back_nil_in (F : Fence) (n : Nat) (h7 : F.fn 73) (hro : F.round = none) (l Bs : Nat) (A : Option Addr) (c : Nat) (J : List (Fin (List.length ([] : List Int))) → World → Prop) (W : World) (hBs : W.cell? ⟨Bs, 0, none⟩ = some (.slice A 0 c)) (h0 : J [] W) :
    CallsIn F n Try.prog 73 #[.func (.yield l) #[] #[], .pointer (some ⟨Bs, 0, none⟩)] W fun e W' => (∃ v, e = .returned v) ∧ J [] W' := by
  refine callsIn_of_wp Try.func73 rfl h7 ?_ hro
  simp only [Try.ntmps73, List.size_toArray, List.length_cons, List.length_nil, Nat.reduceAdd, Nat.reduceSub, Array.replicate_succ, Array.replicate_zero, List.push_toArray, List.append_toArray, List.nil_append, List.cons_append]
  gi_wp2
  gi_loopw [3] (fun i wr => i = .int .i64 (-1) ∧ J [] wr) (fun _ _ => 0)
  case atStart => exact ⟨rfl, h0⟩
  case round =>
    obtain ⟨rfl, hJs⟩ := hrel
    gi_wp2
    go_end0
    exact ⟨⟨_, rfl⟩, hJs⟩

theorem back_stops (F : Fence) (n : Nat) (h7 : F.fn 73) (hro : F.round = none) (hn : 1 ≤ n) (Bs n₀ c : Nat) (A : Option Addr) (ys : List Int) (hlen : ys.length ≤ 1048576) (w wa : World) (hn₀ : n₀ = wa.heap.size) (hB : Below n₀ wa w) (hsz : n₀ ≤ w.heap.size)
    (hc : Blk w Bs 22 #[.slice A ys.length c]) (hS : Sl wa A ys) :
    SeqStopsK F n Try.prog 73 #[.pointer (some ⟨Bs, 0, none⟩)] (backV ys ys.length) (KpB n₀ Bs) (fun xs => xs = (List.finRange ys.length).reverse) (fun pre => ∃ k, k ≤ ys.length ∧ pre = br ys.length k) ys.length w := fun l J Jx W hW _ _ hY h0 => by
  have hc' : Blk W Bs 22 #[.slice A ys.length c] := hc.below hW hc.lt
  rcases Nat.eq_zero_or_pos ys.length with h | h
  · have e := List.eq_nil_of_length_eq_zero h
    subst e
    have hc2 := hc'.cell 0
    exact (back_nil_in F n h7 hro l Bs A c J W hc2 h0).mono fun e W' ⟨he, hj⟩ => ⟨he, .inl ⟨_, rfl, hj⟩⟩
  · obtain ⟨b, off, rfl, hb, hcs⟩ := hS h
    refine back_in F n h7 hro hn l Bs n₀ b off c ys hlen (by omega) J Jx hY W hc' (fun j hj => ?_) h0
    exact ((hW.mono hsz).cell (p := ⟨b, off + j, none⟩) (by show b < n₀; omega)).trans ((hB.cell (p := ⟨b, off + j, none⟩) (by show b < n₀; omega)).trans (hcs j hj))

/-! ### lengths out of starts -/
def lnS (ys : List Int) (T : Int) (pre : List (Fin ys.length)) : Int × List Int := pre.foldl (fun s x => (nth ys x.val, s.2.set x.val (s.1 - nth ys x.val))) (T, List.replicate ys.length 0)
theorem lnS_snoc (ys : List Int) (T : Int) (pre : List (Fin ys.length)) (x : Fin ys.length) : lnS ys T (pre ++ [x]) = (nth ys x.val, (lnS ys T pre).2.set x.val ((lnS ys T pre).1 - nth ys x.val)) := by unfold lnS; rw [List.foldl_append]; rfl
theorem lnS_len' (ys : List Int) (pre : List (Fin ys.length)) : ∀ s : Int × List Int, (pre.foldl (fun s x => (nth ys x.val, s.2.set x.val (s.1 - nth ys x.val))) s).2.length = s.2.length := by
  induction pre with
  | nil => intro s; rfl
  | cons x pre ih => intro s; rw [List.foldl_cons, ih]; simp
theorem lnS_length (ys : List Int) (T : Int) (pre : List (Fin ys.length)) : (lnS ys T pre).2.length = ys.length := by
  unfold lnS; rw [lnS_len']; simp
theorem lnS_fst' (ys : List Int) (hy : ∀ j, j < ys.length → 0 ≤ nth ys j ∧ nth ys j ≤ 1048576) (pre : List (Fin ys.length)) : ∀ s : Int × List Int, (0 ≤ s.1 ∧ s.1 ≤ 1048576) → 0 ≤ (pre.foldl (fun s x => (nth ys x.val, s.2.set x.val (s.1 - nth ys x.val))) s).1 ∧ (pre.foldl (fun s x => (nth ys x.val, s.2.set x.val (s.1 - nth ys x.val))) s).1 ≤ 1048576 := by
  induction pre with
  | nil => intro s h; exact h
  | cons x pre ih => intro s _; rw [List.foldl_cons]; exact ih _ (hy x.val x.isLt)
theorem lnS_fst (ys : List Int) (T : Int) (hT : 0 ≤ T ∧ T ≤ 1048576) (hy : ∀ j, j < ys.length → 0 ≤ nth ys j ∧ nth ys j ≤ 1048576) (pre : List (Fin ys.length)) : 0 ≤ (lnS ys T pre).1 ∧ (lnS ys T pre).1 ≤ 1048576 := lnS_fst' ys hy pre _ hT
theorem lnS_br (ys : List Int) (T : Int) (k : Nat) (hk : k ≤ ys.length) :
    (lnS ys T (br ys.length k)).1 = (if k = 0 then T else nth ys (ys.length - k)) ∧ ∀ j, ys.length - k ≤ j → j < ys.length → nth (lnS ys T (br ys.length k)).2 j = (if j + 1 = ys.length then T else nth ys (j + 1)) - nth ys j := by
  induction k with
  | zero => exact ⟨by simp [br, lnS], fun j h1 h2 => by omega⟩
  | succ k ih =>
    obtain ⟨i1, i2⟩ := ih (by omega)
    rw [br_succ _ k (by omega), lnS_snoc]
    refine ⟨by simp only; rw [if_neg (by omega), show ys.length - (k + 1) = ys.length - 1 - k by omega], fun j h1 h2 => ?_⟩
    simp only
    by_cases e : j = ys.length - 1 - k
    · subst e
      rw [nth_set_self _ _ _ (by rw [lnS_length]; omega), i1]
      by_cases h0 : k = 0
      · subst h0; rw [if_pos rfl, if_pos (by omega)]
      · rw [if_neg h0, if_neg (by omega), show ys.length - 1 - k + 1 = ys.length - k by omega]
    · rw [nth_set_other _ _ _ _ (by omega)]
      exact i2 j (by omega) h2
theorem lnS_all {zs : List Int} (hF : Fine zs) : (lnS (stL zs) zs.sum (List.finRange (stL zs).length).reverse).2 = zs := by
  have hl := stL_length zs
  rw [← br_all]
  refine eq_of_nth (by rw [lnS_length, hl]) fun j hj => ?_
  rw [lnS_length] at hj
  rw [(lnS_br (stL zs) zs.sum _ (Nat.le_refl _)).2 j (by omega) hj]
  rw [hl] at hj ⊢
  have h1 := psum_succ zs j hj
  rw [nth_stL zs j hj]
  by_cases e : j + 1 = zs.length
  · rw [if_pos e, ← psum_all, ← e]; omega
  · rw [if_neg e, nth_stL zs (j + 1) (by omega)]; omega
end Go.Proofs.Ytcbkocjpkdcpfaa
