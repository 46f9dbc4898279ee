/- SegShared: how its pool is made. -/
import Derived.Test.YtcbkocjpkdcpfaaMq
import Derived.Test.YtcbkocjpkdcpfaaRb
import Derived.Deep.RegionLaw
import Derived.Deep.RegionHeld3
import Derived.Deep.DrawnRows
namespace Go.Proofs.Ytcbkocjpkdcpfaa
set_option linter.unusedVariables false
open Go.RowKit Go.Shelf

def shS (N : Nat) (l : List Int) (k : Nat) : List Int := (List.range k).map fun i => nth l (2 * i) % ((N : Int) + 1)
def shL (N : Nat) (l : List Int) (k : Nat) : List Int := (List.range k).map fun i => nth l (2 * i + 1) % (min ((N : Int) - nth l (2 * i) % ((N : Int) + 1)) 9 + 1)
theorem shS_succ (N : Nat) (l : List Int) (k : Nat) : shS N l (k + 1) = shS N l k ++ [nth l (2 * k) % ((N : Int) + 1)] := by simp [shS, List.range_succ]
theorem shL_succ (N : Nat) (l : List Int) (k : Nat) : shL N l (k + 1) = shL N l k ++ [nth l (2 * k + 1) % (min ((N : Int) - nth l (2 * k) % ((N : Int) + 1)) 9 + 1)] := by simp [shL, List.range_succ]
theorem shS_length (N : Nat) (l : List Int) (k : Nat) : (shS N l k).length = k := by simp [shS]
theorem shL_length (N : Nat) (l : List Int) (k : Nat) : (shL N l k).length = k := by simp [shL]
/-- An append at a step of a drawn region, as this seat's rows take it. -/
theorem step_app {ops : Array Oper} {o : Oper} {a : Act} {K : Act → World → Prop} {Q : Exit → Act → World → Prop} {E : Prop} (X : World) (hgd : o.guard = none) (sl x : Operand)
    (ho : o.op = .call { callee := .builtin .append, args := #[sl, x], argTypes := #[22, 22] }) (i0 : TypeInfo) (hi : Try.prog.info? 3 = some i0) (hz0 : i0.zero = some (.int .i64 0)) (hz1 : i0.size = 1) (hz2 : i0.bytes = 8)
    (base : Nat) (u : Value) (zs : List Int) (hs : a.eval sl = u) (hown : OwnI X base u zs) (y : Int) (g : Nat) (hx : a.eval x = .slice (some ⟨g, 0, none⟩) 1 1) (hy : X.cell? ⟨g, 0, none⟩ = some (.int .i64 y))
    (hl : zs.length ≤ 1048576) (hb : base ≤ X.heap.size)
    (h : ∀ v' w1, OwnI w1 base v' (zs ++ [y]) → X.grownBy w1 u.ownBlock → (v'.ownBlock = u.ownBlock ∨ v'.ownBlock = some X.heap.size) → K (a.put o.dst v') w1) :
    if Region.wanted o (yielded ops a.tmps) = true then Oper.wp Try.prog o a X K Q else E := by
  refine step_append_lies X hgd sl x 22 ho base 3 i0 (.int .i64 0) 1 8 Try.underlying22 hi hz0 hz1 hz2 rfl (by decide) u zs.length (zs.map (Value.int .i64)) hs hown ⟨g, 0, none⟩ 1 1 [.int .i64 y] hx rfl (fun j v hj => ?_) (by simp [Value.oneCell']) (by omega) (by unfold maxLen; omega) (by omega) hb _ rfl (fun g' cap w' hown' hg hat hlt => h _ _ (OwnI.snoc hown') hg ?_)
  · match j, hj with
    | 0, hj => simp at hj; subst hj; exact hy
  · rcases hat with e | e
    · exact .inl (by rw [e]; rfl)
    · exact .inr (by rw [e]; rfl)
theorem cell_al {W : World} {b o : Nat} {v : Value} (h : W.cell? ⟨b, o, none⟩ = some v) (hb : b < W.heap.size) (ob : Obj) : (W.alloc ob).cell? ⟨b, o, none⟩ = some v :=
  (((Below.refl W.heap.size W).alloc (Nat.le_refl _) ob).cell (p := ⟨b, o, none⟩) hb).trans h
theorem nth_shS (N : Nat) (l : List Int) (k i : Nat) (h : i < k) : nth (shS N l k) i = nth l (2 * i) % ((N : Int) + 1) := by
  rw [nth_eq _ _ (by rw [shS_length]; exact h)]; simp [shS]
theorem nth_shL (N : Nat) (l : List Int) (k i : Nat) (h : i < k) : nth (shL N l k) i = nth l (2 * i + 1) % (min ((N : Int) - nth l (2 * i) % ((N : Int) + 1)) 9 + 1) := by
  rw [nth_eq _ _ (by rw [shL_length]; exact h)]; simp [shL]
theorem sh_bnd (N : Nat) (l : List Int) (k i : Nat) (h : i < k) : 0 ≤ nth (shS N l k) i ∧ 0 ≤ nth (shL N l k) i ∧ nth (shS N l k) i + nth (shL N l k) i ≤ (N : Int) ∧ nth (shL N l k) i ≤ 9 := by
  rw [nth_shS N l k i h, nth_shL N l k i h]
  have h1 := Int.emod_nonneg (nth l (2 * i)) (show (N : Int) + 1 ≠ 0 by omega)
  have h2 := Int.emod_lt_of_pos (nth l (2 * i)) (show (0 : Int) < (N : Int) + 1 by omega)
  generalize nth l (2 * i) % ((N : Int) + 1) = s at *
  have h3 := Int.emod_nonneg (nth l (2 * i + 1)) (show min ((N : Int) - s) 9 + 1 ≠ 0 by omega)
  have h4 := Int.emod_lt_of_pos (nth l (2 * i + 1)) (show (0 : Int) < min ((N : Int) - s) 9 + 1 by omega)
  omega
theorem sh_pool (N : Nat) (l : List Int) (k : Nat) (hN : N ≤ 60) (hk : k ≤ 30) : shE (shS N l k) (shL N l k) (N : Int) = 0 := by
  have h1 : fitE (shS N l k).length (shL N l k).length = 0 := by
    unfold fitE; rw [shS_length, shL_length, if_neg (by omega), if_neg (by simp)]
  have h2 : poolOk (shS N l k) (shL N l k) (N : Int) = true := poolOk_all fun i hi => by
    rw [shS_length] at hi
    have := sh_bnd N l k i hi
    unfold okAt
    simp only [decide_eq_true_eq]
    omega
  have h3 : PosTo (shL N l k) (shL N l k).length := fun j hj => (sh_bnd N l k j (by rwa [shL_length] at hj)).2.1
  have hs : ∀ i, i ≤ (shL N l k).length → psum (shL N l k) i ≤ 9 * (i : Int) := by
    intro i
    induction i with
    | zero => intro _; rw [psum_zero]; omega
    | succ i ih =>
      intro hi
      rw [psum_succ _ i (by omega)]
      have := ih (by omega)
      have := (sh_bnd N l k i (by rw [shL_length] at hi; omega)).2.2.2
      omega
  have h4 := hs _ (Nat.le_refl _)
  rw [psum_all, shL_length] at h4
  rw [(sh_sum h1 ⟨by omega, by omega⟩ h2).1, (sumE_ok (isNeg_none _ h3) (by omega)).1]
theorem mcK_succ (l : List Int) (k : Nat) (h : k < l.length) : mcK l (k + 1) = max (mcK l k) ((l.count (nth l k) : Nat) : Int) := by
  unfold mcK
  rw [mxK_succ _ k (by rw [List.length_map]; exact h), nth_counts l k h]
theorem count_take_succ (l : List Int) (x : Int) (j : Nat) (h : j < l.length) : (l.take (j + 1)).count x = (l.take j).count x + if nth l j = x then 1 else 0 := by
  rw [take_snoc l j h, List.count_append, List.count_singleton]
  by_cases e : nth l j = x <;> simp [e]
set_option maxRecDepth 100000 in
set_option maxHeartbeats 80000000 in
theorem law8 (A : Option Addr) (c : Nat) (l : List Int) (z : Int) (w : World) (h : Sl w A l) (hl : l.length ≤ 9223372036854775807) :
    Calls Try.prog 8 #[.slice A l.length c, .int .i64 z] w (Good w) := by
  obtain ⟨i0, hi, hz0, hz1, hz2⟩ := info_parts int_info
  have C42 := fun n b W (h1 : 1 ≤ b) (h2 : b ≤ 1000000) => turn_any n b W h1 h2
  obtain ⟨N, hN⟩ : ∃ N : Nat, z % 61 = (N : Int) := ⟨(z % 61).toNat, by omega⟩
  have hN60 : N ≤ 60 := by omega
  have D42 := fun W => turn_any z 61 W (by omega) (by omega)
  rw [hN] at D42
  clear hN
  go_enter Try.func8, Try.ntmps8
  go_wp2_with (go_at_call 42; refine (D42 _).mono ?_; rintro e w' ⟨rfl, rfl⟩)
  go_loopw [5, 6, 7, 8] (fun u v i f wr => ∃ (k : Nat) (u' v' : Value), u' = u ∧ v' = v ∧ k ≤ 30 ∧ (k = 0 ∨ 2 * k ≤ l.length) ∧ i = .int .i64 ((2 * k : Nat) : Int) ∧ OwnI wr w.heap.size u (shS N l k) ∧ OwnI wr w.heap.size v (shL N l k) ∧ Apart u v ∧ Below w.heap.size w wr) (fun _ _ i _ _ => 62 - (intOf i).toNat)
  case atStart => exact ⟨0, _, _, rfl, rfl, by omega, .inl rfl, rfl, (OwnI.empty w _ (Nat.le_refl _)).alloc _, by simpa [shL] using OwnI.empty (w.alloc (.cells #[] 3)) w.heap.size (by simp), by simp [Apart, Value.ownBlock], ((Below.refl w.heap.size w).alloc (Nat.le_refl _) _).alloc (by simp) _⟩
  case round =>
    obtain ⟨k, u, v, rfl, rfl, hk, hkl, rfl, hu, hv, hap, hB⟩ := hrel
    by_cases hlt : 2 * k + 1 < l.length ∧ 2 * k < 60
    · obtain ⟨hlt1, hlt2⟩ := hlt
      obtain ⟨b, off, e1, hbb, _⟩ := h.at_ (k := 2 * k) (by omega)
      obtain ⟨b0, off0, e0, hb, hc1⟩ := (h.step hB).at_ (k := 2 * k) (by omega)
      rw [e1] at e0
      injection e0 with e0
      injection e0 with e3 e4
      subst e3; subst e4
      obtain ⟨b', off', e2, hb', hc2⟩ := (h.step hB).at_ (k := 2 * k + 1) (by omega)
      rw [e1] at e2
      injection e2 with e2
      injection e2 with e3 e4
      subst e3; subst e4; subst e1
      have HS := Lib.hid (shS_succ N l k)
      have HL := Lib.hid (shL_succ N l k)
      obtain ⟨x, hx⟩ : ∃ x, nth l (2 * k) = x := ⟨_, rfl⟩
      obtain ⟨y, hy⟩ : ∃ y, nth l (2 * k + 1) = y := ⟨_, rfl⟩
      rw [hx] at hc1 HS HL
      rw [hy] at hc2 HL
      obtain ⟨s, hs⟩ : ∃ s, x % ((N : Int) + 1) = s := ⟨_, rfl⟩
      have hsb : 0 ≤ s ∧ s ≤ (N : Int) := by rw [← hs]; have := Int.emod_nonneg x (show (N : Int) + 1 ≠ 0 by omega); have := Int.emod_lt_of_pos x (show (0 : Int) < (N : Int) + 1 by omega); omega
      rw [hs] at HS HL
      have E1 : ∀ W, Calls Try.prog 42 #[.int .i64 x, .int .i64 ((N : Int) + 1)] W fun e w' => e = .returned (.int .i64 s) ∧ W = w' := fun W => by
        have := turn_any x ((N : Int) + 1) W (by omega) (by omega)
        rwa [hs] at this
      obtain ⟨t, ht⟩ : ∃ t, y % (min ((N : Int) - s) 9 + 1) = t := ⟨_, rfl⟩
      have E2 : ∀ W, Calls Try.prog 42 #[.int .i64 y, .int .i64 (min ((N : Int) - s) 9 + 1)] W fun e w' => e = .returned (.int .i64 t) ∧ W = w' := fun W => by
        have := turn_any y (min ((N : Int) - s) 9 + 1) W (by omega) (by omega)
        rwa [ht] at this
      rw [ht] at HL
      obtain ⟨j, hj⟩ : ∃ j, Hid (2 * k = j) := ⟨_, Lib.hid rfl⟩
      rw [hj.out] at hc1 hc2 hlt1 hlt2 ⊢
      have hj1 : (0 : Int) ≤ (j : Int) := by omega
      have hj2 : (j : Int) < (l.length : Int) := by omega
      have hj3 : (0 : Int) ≤ (j : Int) + 1 := by omega
      have hj4 : (j : Int) + 1 < (l.length : Int) := by omega
      have hw1 : IntKind.i64.wrap ((j : Int) + 1) = (j : Int) + 1 := IntWalk.i64_in _ (by omega)
      have hd1 : decide ((j : Int) + 1 < (l.length : Int)) = true := by simp; omega
      have hd2 : decide ((j : Int) < 60) = true := by simp; omega
      have hwA : IntKind.i64.wrap ((N : Int) - s) = (N : Int) - s := IntWalk.i64_in _ (by omega)
      have hwB : IntKind.i64.wrap (min ((N : Int) - s) 9 + 1) = min ((N : Int) - s) 9 + 1 := IntWalk.i64_in _ (by omega)
      clear hs ht hx hy
      go_upto_region 7 with (go_at_call 42; refine (E1 _).mono ?_; rintro e w' ⟨rfl, rfl⟩)
      have hsz := hB.size
      have lS : (shS N l k).length ≤ 1048576 := by rw [shS_length]; omega
      have lL : (shL N l k).length ≤ 1048576 := by rw [shL_length]; omega
      obtain ⟨us, hus⟩ : ∃ us, shS N l k = us := ⟨_, rfl⟩
      obtain ⟨vs, hvs⟩ : ∃ vs, shL N l k = vs := ⟨_, rfl⟩
      rw [hus] at hu lS HS
      rw [hvs] at hv lL HL
      go_region_held3 (fun W => W.cell? ⟨b, off + (j + 1), none⟩ = some (.int .i64 y)) (first | exact hc2 | exact cell_al (by assumption) (by first | omega | (simp; omega)) _ | assumption | (simp; assumption))
        (first
          | (go_at_call 42; refine (E2 _).mono ?_; rintro e w' ⟨rfl, rfl⟩)
          | (refine step_app _ (by rfl) _ _ (by rfl) i0 hi hz0 hz1 hz2 w.heap.size u us (by rfl) (by first | exact hu | exact hu.alloc _ | exact (hu.alloc _).alloc _ | assumption) s _ (by rfl) (by first | exact cell1 _ _ _ | exact cell_al (cell1 _ _ _) (by simp) _ | assumption) lS (by first | omega | (simp; omega)) ?_; intro v1 w3 hv1 hg1 hat1; have c31 := (hg1.cell_far ⟨b, off + (j + 1), none⟩ (by first | omega | (simp; omega)) (fun e => by have := (hu.lt b e.symm).1; omega)).trans (by first | assumption | exact cell_al (by assumption) (by omega) _); have hs3 := hg1.size; simp at hs3; have hv1b : OwnI w3 w.heap.size v vs := (show OwnI (wr.alloc (.cells #[.int .i64 s] 3)).drew w.heap.size v vs from hv.alloc _).kept hg1 (Apart.symm_ hap))
          | (refine step_app _ (by rfl) _ _ (by rfl) i0 hi hz0 hz1 hz2 w.heap.size v vs (by rfl) (hv1b.alloc _) t _ (by rfl) (cell1 _ _ _) lL (by first | omega | (simp; omega)) ?_; intro v2 w4 hv2 hg2 hat2; have c42 := (hg2.cell_far ⟨b, off + (j + 1), none⟩ (by first | omega | (simp; omega)) (fun e => by have := (hv.lt b e.symm).1; omega)).trans (cell_al c31 (by omega) _))
          | fail)
      all_goals
        have hs3' := hg1.size
        have hs4 := hg2.size
        have hap1 : Apart v v1 := apart_append hv (Apart.symm_ hap) hat1
        have hv1' : OwnI w4 w.heap.size v1 (us ++ [s]) := (hv1.alloc (.cells #[.int .i64 t] 3)).kept hg2 (Apart.symm_ hap1)
        have hap2 : Apart v1 v2 := apart_append hv1 (Apart.symm_ hap1) hat2
        have hB3 : Below w.heap.size w w3 := (show Below w.heap.size w (wr.alloc (.cells #[.int .i64 s] 3)).drew from Below.drew (hB.alloc hsz _)).grown hg1 (by simp; omega) (fun j e => (hu.lt j e).1)
        have hB4 : Below w.heap.size w w4 := (hB3.alloc hB3.size (.cells #[.int .i64 t] 3)).grown hg2 (by simp; have := hB3.size; omega) (fun j e => (hv.lt j e).1)
        go_wp2
        go_roundw
        case rel => exact ⟨k + 1, v1, v2, rfl, rfl, by have := hj.out; omega, .inr (by have := hj.out; omega), congrArg (Value.int IntKind.i64) (by have := hj.out; omega), by rw [HS.out]; exact hv1', by rw [HL.out]; exact hv2, hap2, hB4⟩
        case measure => simp [intOf]; omega
    · by_cases hl3 : 2 * k + 1 < l.length
      · obtain ⟨j, hj⟩ : ∃ j, Hid (2 * k = j) := ⟨_, Lib.hid rfl⟩
        have hj60 : ¬ j < 60 := by have := hj.out; omega
        rw [hj.out] at hl3 ⊢
        have hw1 : IntKind.i64.wrap ((j : Int) + 1) = (j : Int) + 1 := IntWalk.i64_in _ (by omega)
        have hd1 : decide ((j : Int) + 1 < (l.length : Int)) = true := by simp; omega
        have hd2 : decide ((j : Int) < 60) = false := by simp; omega
        clear C42 D42
        obtain ⟨Au, cu, rfl, _, hs⟩ := hu.form
        obtain ⟨Av, cv, rfl, _, hl2⟩ := hv.form
        have hsh := sh_pool N l k hN60 hk
        have hkl1 := shS_length N l k
        have hkl2 := shL_length N l k
        clear hu hv hap h
        obtain ⟨us, hus⟩ : ∃ us, shS N l k = us := ⟨_, rfl⟩
        obtain ⟨vs, hvs⟩ : ∃ vs, shL N l k = vs := ⟨_, rfl⟩
        rw [hus] at hs hsh hkl1 ⊢
        rw [hvs] at hl2 hsh hkl2 ⊢
        rw [hkl1, hkl2]
        clear hus hvs
        obtain ⟨N', e, hP, hsn⟩ := Pool.of hsh
        obtain rfl : N = N' := by omega
        clear e
        have hT0 : 0 ≤ vs.sum := by
          have h3 : PosTo vs vs.length := fun j hj => (hP.at_ j (by omega)).2.1
          have := psum_nonneg vs vs.length (Nat.le_refl _) h3
          rwa [psum_all] at this
        obtain ⟨T, hT⟩ : ∃ T : Nat, vs.sum = (T : Int) := ⟨vs.sum.toNat, by omega⟩
        have hT2 : T ≤ 1048576 := by have := hP.sum; omega
        have hLl : (plL us vs).length = T := by have := plL_length hP; omega
        have hBl : (bgL us vs N).length = k := by rw [bgL_length, hkl1]
        have hSl : (plL (bgL us vs N) vs).length = T := by rw [bg_places hP, List.length_map, hLl]
        have hQ := all_union hP
        have hBP := bg_pool hP
        have hAT := Lib.hid (fun i hi => bg_at hP i hi)
        have hMD := mc_depth hP
        have hSP := Lib.hid (fun i hi => span_at (cnt := cntL N (plL us vs)) (N := N) i hi)
        have hSE := Lib.hid (span_end (cnt := cntL N (plL us vs)) (N := N))
        have hpb := pcK_length (cntL N (plL us vs)) N
        have hpb2 := adK_bnd (cntL N (plL us vs)) N
        have hjn := (tsL_bnd (ss := us) (ls := vs) hP.size).1
        have hnb : ∀ j, j < vs.length → nth vs j ≤ 9223372036854775807 := fun j hj => by have := hP.at_ j (by omega); omega
        have hpos : PosTo vs vs.length := fun j hj => (hP.at_ j (by omega)).2.1
        obtain ⟨J, hJ⟩ : ∃ J, tsF (cntL N (plL us vs)) N = J := ⟨_, rfl⟩
        rw [hJ] at hSP hSE
        have hJ2 : tsL us vs N = J := hJ
        rw [hJ2] at hjn
        obtain ⟨jn, hjl⟩ : ∃ jn, J.length = jn := ⟨_, rfl⟩
        obtain ⟨Q, hQe⟩ : ∃ Q, pcK (cntL N (plL us vs)) N = Q := ⟨_, rfl⟩
        rw [hQe] at hQ hBP hAT hSP hSE hpb
        obtain ⟨p, hpl⟩ : ∃ p, Q.length = p := ⟨_, rfl⟩
        rw [hpl] at hpb hBP hSE
        obtain ⟨B, hBe⟩ : ∃ B, bgL us vs N = B := ⟨_, rfl⟩
        rw [hBe] at hBl hSl hBP hAT
        obtain ⟨S, hSe⟩ : ∃ S, plL B vs = S := ⟨_, rfl⟩
        rw [hSe] at hSl hAT
        have hp60 : p ≤ 60 := by omega
        have C27 : ∀ W, Sl W Au us → Sl W Av vs → Calls Try.prog 27 #[.slice Au k cu, .slice Av k cv, .int .i64 (N : Int)] W (RetV W (.tuple #[.int .i64 (T : Int), .int .i64 0])) := fun W h h' => by
          have := shared_any Au Av cu cv us vs N W h h' (by omega) (by omega) hnb
          rwa [hsn, hsh, hT, hkl1, hkl2] at this
        have C33 : ∀ W, Sl W Au us → Sl W Av vs → Calls Try.prog 33 #[.slice Au k cu, .slice Av k cv, .int .i64 (N : Int)] W (fun e w' => ∃ A c, e = .returned (.tuple #[.slice A T c, .int .i64 0]) ∧ T ≤ c ∧ Sl w' A (plL us vs) ∧ Below W.heap.size W w') := fun W h h' => by
          have := places_any Au Av cu cv us vs N W h h' (by omega) (by omega) hnb
          rw [hsh, hkl1, hkl2] at this
          exact this.mono fun e w' H => retL_lit (plL us vs) T H rfl rfl hLl
        have C35 : ∀ W, Sl W Au us → Sl W Av vs → Calls Try.prog 35 #[.slice Au k cu, .slice Av k cv, .int .i64 (N : Int)] W (fun e w' => ∃ A c A' c', e = .returned (.tuple #[.slice A k c, .slice A' p c', .int .i64 0]) ∧ k ≤ c ∧ p ≤ c' ∧ Sl w' A B ∧ Sl w' A' Q ∧ Below W.heap.size W w') := fun W h h' => by
          have := compact_any touched_c Au Av cu cv us vs N W h h' (by omega) (by omega) hnb
          rw [hsh, hkl1, hkl2, Int.toNat_natCast, hBe, hQe] at this
          exact this.mono fun e w' H => retLL_lit B Q k p H rfl rfl rfl hBl hpl
        obtain ⟨D, hD⟩ : ∃ D, mcK (plL us vs) (plL us vs).length = D := ⟨_, rfl⟩
        have C28 : ∀ W, Sl W Au us → Sl W Av vs → Calls Try.prog 28 #[.slice Au k cu, .slice Av k cv, .int .i64 (N : Int)] W (RetV W (.tuple #[.int .i64 D, .int .i64 0])) := fun W h h' => by
          have := depth_any Au Av cu cv us vs N W h h' (by omega) (by omega) hnb
          rwa [hsh, if_pos rfl, Int.toNat_natCast, hMD, hD, hkl1, hkl2] at this
        have C30 : ∀ W, Sl W Au us → Sl W Av vs → Calls Try.prog 30 #[.slice Au k cu, .slice Av k cv, .int .i64 (N : Int)] W (fun e w' => ∃ A c, e = .returned (.tuple #[.slice A jn c, .int .i64 0]) ∧ jn ≤ c ∧ SlP w' A J ∧ Below W.heap.size W w') := fun W h h' => by
          have := touched_any Au Av cu cv us vs N W h h' (by omega) (by omega) hnb
          rw [hsh, if_pos rfl, Int.toNat_natCast, hJ2, hkl1, hkl2] at this
          exact this.mono fun e w' H => retPE_lit J jn H rfl rfl hjl
        have C38 : ∀ W, Sl W Av vs → Calls Try.prog 38 #[.slice Av k cv] W fun e w' => e = .returned (.int .i64 (T : Int)) ∧ W = w' := fun W h => by
          have := bsum_any Av cv vs W h (by omega) hpos (by omega)
          rwa [hT, hkl2] at this
        have C33b : ∀ A c W, Sl W A B → Sl W Av vs → Calls Try.prog 33 #[.slice A k c, .slice Av k cv, .int .i64 (p : Int)] W (fun e w' => ∃ A c, e = .returned (.tuple #[.slice A T c, .int .i64 0]) ∧ T ≤ c ∧ Sl w' A S ∧ Below W.heap.size W w') := fun A c W h h' => by
          have := places_any A Av c cv B vs p W h h' (by omega) (by omega) hnb
          rw [hBP, hBl, hkl2, hSe] at this
          exact this.mono fun e w' H => retL_lit S T H rfl rfl hSl
        obtain ⟨L, hL⟩ : ∃ L, plL us vs = L := ⟨_, rfl⟩
        rw [hL] at hLl hQ C33 hAT hMD hD
        have C44 : ∀ A c W, Sl W A L → Calls Try.prog 44 #[.slice none 0 0, .slice A T c] W (fun e w' => ∃ A c, e = .returned (.slice A p c) ∧ p ≤ c ∧ Sl w' A Q ∧ Below W.heap.size W w') := fun A c W h => by
          have := union_any A c L W h (by omega)
          rw [hQ, hLl] at this
          unfold RetS at this
          rw [hpl] at this
          exact this
        rw [hLl] at hD
        have HLL := Lib.hid hLl
        have HSL := Lib.hid hSl
        have HPL := Lib.hid hpl
        have HJL := Lib.hid hjl
        have HD := Lib.hid hD
        have hAT := Lib.hid (show ∀ i, i < T → ∃ q : Nat, nth S i = (q : Int) ∧ q < p ∧ nth Q q = nth L i from fun i hi => by
          have := hAT.out i (by rw [hLl]; exact hi)
          rwa [hpl] at this)
        have hlQ : Q.length ≤ 9223372036854775807 := by omega
        clear hP hsn hT0 hT hBl hSl hQ hBP hMD hpb hpb2 hnb hpos hJ hJ2 hQe hBe hSe hL hsh hkl1 hkl2 hD hLl hjl
        have hBB := hB
        go_wp2_with fail
        refine (C27 _ hs hl2).mono ?_
        rintro e w51 ⟨rfl, hB⟩
        have hs := hs.step hB
        have hl2 := hl2.step hB
        have hBB := hBB.trans (hB.mono hBB.size)
        go_wp2_with fail
        refine (C33 _ hs hl2).mono ?_
        rintro e w52 ⟨Aha, cha, rfl, hcha, ha, hB⟩
        have hs := hs.step hB
        have hl2 := hl2.step hB
        have hBB := hBB.trans (hB.mono hBB.size)
        go_wp2_with fail
        refine (C35 _ hs hl2).mono ?_
        rintro e w53 ⟨Ahb, chb, Ahp, chp, rfl, hchb, hchp, hb, hp, hB⟩
        have hs := hs.step hB
        have hl2 := hl2.step hB
        have ha := ha.step hB
        have hBB := hBB.trans (hB.mono hBB.size)
        go_wp2_with fail
        refine (C28 _ hs hl2).mono ?_
        rintro e w54 ⟨rfl, hB⟩
        have hs := hs.step hB
        have hl2 := hl2.step hB
        have ha := ha.step hB
        have hb := hb.step hB
        have hp := hp.step hB
        have hBB := hBB.trans (hB.mono hBB.size)
        go_wp2_with fail
        refine (C30 _ hs hl2).mono ?_
        rintro e w55 ⟨Aht, cht, rfl, hcht, ht, hB⟩
        have hs := hs.step hB
        have hl2 := hl2.step hB
        have ha := ha.step hB
        have hb := hb.step hB
        have hp := hp.step hB
        have hBB := hBB.trans (hB.mono hBB.size)
        go_wp2_with fail
        refine (C38 _ hl2).mono ?_
        rintro e w' ⟨rfl, rfl⟩
        go_wp2_with fail
        refine (C33b _ _ _ hb hl2).mono ?_
        rintro e w56 ⟨Ahc, chc, rfl, hchc, hc, hB⟩
        have hs := hs.step hB
        have hl2 := hl2.step hB
        have ha := ha.step hB
        have hb := hb.step hB
        have hp := hp.step hB
        have ht := ht.step hB
        have hBB := hBB.trans (hB.mono hBB.size)
        go_wp2_with fail
        refine (C44 _ _ _ ha).mono ?_
        rintro e w57 ⟨A9, c9, rfl, hc9, hq, hB⟩
        have hs := hs.step hB
        have hl2 := hl2.step hB
        have ha := ha.step hB
        have hb := hb.step hB
        have hp := hp.step hB
        have ht := ht.step hB
        have hc := hc.step hB
        have hBB := hBB.trans (hB.mono hBB.size)
        go_wp2_with fail
        refine (eq_lit _ _ _ _ p Q _ HPL.out hq hp hlQ).mono ?_
        rintro e w58 ⟨rfl, hB⟩
        have hs := hs.step hB
        have hl2 := hl2.step hB
        have ha := ha.step hB
        have hb := hb.step hB
        have hp := hp.step hB
        have ht := ht.step hB
        have hc := hc.step hB
        have hq := hq.step hB
        have hBB := hBB.trans (hB.mono hBB.size)
        clear hs hl2 hb hq C27 C33 C35 C28 C30 C38 C33b C44
        have hA1 := HLL.out
        have hA2 := HSL.out
        have hA3 := HPL.out
        have hA4 := HJL.out
        go_wp2
        go_loopw [21, 23, 24, 25] (fun mo i ma jj wr => ∃ i' : Nat, i' ≤ T ∧ i = .int .i64 i' ∧ mo = .int .i64 (mcK L i') ∧ Below w58.heap.size w58 wr) (fun _ i _ _ _ => T - (intOf i).toNat)
        case atStart => exact ⟨0, Nat.zero_le _, rfl, rfl, Below.refl _ _⟩
        case round =>
          obtain ⟨i, hi', rfl, rfl, hBr⟩ := hrel
          by_cases hlt : i < T
          · obtain ⟨q, hq1, hq2, hq3⟩ := hAT.out i hlt
            have HM := Lib.hid (mcK_succ L i (by omega))
            obtain ⟨b1, o1, e1, hb1, hc1⟩ := (hc.step hBr).at_ (k := i) (by omega)
            obtain ⟨b2, o2, e2, hb2, hc2⟩ := (ha.step hBr).at_ (k := i) (by omega)
            obtain ⟨b3, o3, e3, hb3, hc3⟩ := (hp.step hBr).at_ (k := q) (by omega)
            rw [hq1] at hc1
            rw [hq3] at hc3
            obtain ⟨x, hx⟩ : ∃ x, nth L i = x := ⟨_, rfl⟩
            rw [hx] at hc2 hc3 HM
            have HX := Lib.hid hx
            obtain ⟨mv, hmv⟩ : ∃ mv, mcK L i = mv := ⟨_, rfl⟩
            rw [hmv] at HM ⊢
            have hk1 : (0 : Int) ≤ (i : Int) := by omega
            have hk2 : (i : Int) < (T : Int) := by omega
            have hk3 : (0 : Int) ≤ (q : Int) := by omega
            have hk4 : (q : Int) < (p : Int) := by omega
            have hwp : IntKind.i64.wrap ((p : Int) - 1) = (p : Int) - 1 := IntWalk.i64_in _ (by omega)
            have D1 : liesB (q : Int) 0 ((p : Int) - 1) = true := decide_eq_true (by omega)
            clear hx hmv hq1 hq3
            subst e1; subst e2; subst e3
            go_wp2
            go_quiet ((go_at_call 25; exact Calls.quiet_of_same (lies_b _ _ _ _)))
            go_wp2
            rw [D1]
            go_loopw [24, 25] (fun ma jj wr => ∃ j : Nat, j ≤ T ∧ jj = .int .i64 j ∧ ma = .int .i64 (((L.take j).count x : Nat) : Int) ∧ Below w58.heap.size w58 wr) (fun _ jj _ => T - (intOf jj).toNat)
            case atStart => exact ⟨0, Nat.zero_le _, rfl, rfl, hBr.trans (below_drewN _ _ |>.mono hBr.size)⟩
            case round =>
              obtain ⟨j, hj', rfl, rfl, hBr2⟩ := hrel
              by_cases hjt : j < T
              · obtain ⟨b4, o4, e4, hb4, hc4⟩ := (ha.step hBr2).at_ (k := j) (by omega)
                obtain ⟨b5, o5, e5, hb5, hc5⟩ := (ha.step hBr2).at_ (k := i) (by omega)
                injection e4 with e4
                injection e4 with e6 e7
                injection e5 with e5
                injection e5 with e8 e9
                subst e6; subst e7; subst e8; subst e9
                rw [HX.out] at hc5
                have HC := Lib.hid (count_take_succ L x j (by omega))
                have hcl := List.count_le_length (a := x) (l := L.take j)
                rw [List.length_take] at hcl
                obtain ⟨y, hy⟩ : ∃ y, nth L j = y := ⟨_, rfl⟩
                rw [hy] at hc4 HC
                obtain ⟨n0, hn0⟩ : ∃ n0, (L.take j).count x = n0 := ⟨_, rfl⟩
                rw [hn0] at HC hcl ⊢
                have hj1 : (0 : Int) ≤ (j : Int) := by omega
                have hj2 : (j : Int) < (T : Int) := by omega
                have hwn : IntKind.i64.wrap ((n0 : Int) + 1) = (n0 : Int) + 1 := IntWalk.i64_in _ (by omega)
                clear hy hn0
                by_cases hyx : y = x
                · have HC2 : Hid ((L.take (j + 1)).count x = n0 + 1) := Lib.hid (by rw [HC.out, if_pos hyx])
                  have hde : (y == x) = true := by rw [beq_iff_eq]; exact hyx
                  clear hyx
                  go_wp2
                  go_quiet (fail)
                  go_wp2
                  go_roundw
                  case rel => exact ⟨j + 1, by omega, by go_num, by rw [HC2.out]; go_num, hBr2.trans (below_drewN _ _ |>.mono hBr2.size)⟩
                  case measure => simp [intOf]; omega
                · have HC2 : Hid ((L.take (j + 1)).count x = n0) := Lib.hid (by rw [HC.out, if_neg hyx]; rfl)
                  have hde : (y == x) = false := by rw [beq_eq_false_iff_ne]; exact hyx
                  clear hyx
                  go_wp2
                  go_quiet (fail)
                  go_wp2
                  go_roundw
                  case rel => exact ⟨j + 1, by omega, by go_num, by rw [HC2.out], hBr2.trans (below_drewN _ _ |>.mono hBr2.size)⟩
                  case measure => simp [intOf]; omega
              · obtain rfl : j = T := by omega
                have HC2 : Hid ((L.take j).count x = L.count x) := Lib.hid (by rw [List.take_of_length_le (by omega)])
                rw [HC2.out]
                obtain ⟨n0, hn0⟩ : ∃ n0, L.count x = n0 := ⟨_, rfl⟩
                rw [hn0] at HM ⊢
                clear hn0
                go_wp2
                go_roundw
                case rel => exact ⟨i + 1, by omega, by go_num, by rw [HM.out], hBr2⟩
                case measure => simp [intOf]; omega
          · obtain rfl : i = T := by omega
            rw [HD.out]
            obtain ⟨wM, rfl⟩ : ∃ wM, wM = wr := ⟨_, rfl⟩
            have hp := hp.step hBr
            have ht := ht.step hBr
            have hBB := hBB.trans (hBr.mono hBB.size)
            clear hBr ha hc
            go_wp2
            go_loopw [22, 26, 27, 28] (fun at' la k' jj wr => ∃ (i b : Nat) (e : Int), i ≤ jn ∧ k' = .int .i64 i ∧ at' = .int .i64 b ∧ la = .int .i64 e ∧ Hid ((ppL (J.take i)).length = b) ∧ b ≤ p ∧ -1 ≤ e ∧ e ≤ 60 ∧ Hid (e = if i = 0 then -1 else (pth J (i - 1)).1 + (pth J (i - 1)).2) ∧ Below wM.heap.size wM wr) (fun _ _ k' _ _ => jn - (intOf k').toNat)
            case atStart => exact ⟨0, 0, -1, Nat.zero_le _, rfl, rfl, rfl, Lib.hid rfl, Nat.zero_le _, by omega, by omega, Lib.hid rfl, Below.refl _ _⟩
            case round =>
              obtain ⟨i, b, e, hi', rfl, rfl, rfl, HB, hbp, he1, he2, HE, hBr⟩ := hrel
              by_cases hlt : i < jn
              · obtain ⟨s1, s2, s3, s4, s5, s6, s7⟩ := hSP.out i (by omega)
                rw [HB.out] at s5 s7
                rw [s5] at s6
                obtain ⟨⟨a, ln⟩, hal⟩ : ∃ x, pth J i = x := ⟨_, rfl⟩
                rw [hal] at s1 s2 s3 s4 s5 s6 s7
                simp only at s1 s2 s3 s4 s5 s6 s7
                obtain ⟨n, hn⟩ : ∃ n : Nat, ln = (n : Int) := ⟨ln.toNat, by omega⟩
                subst hn
                rw [Int.toNat_natCast] at s5 s6
                have hea : e < a := by
                  have := HE.out
                  by_cases h0 : i = 0
                  · rw [if_pos h0] at this; omega
                  · rw [if_neg h0] at this; have := s4 (by omega); omega
                have HN := Lib.hid s5
                have HNX : Hid (a + (n : Int) = if i + 1 = 0 then -1 else (pth J (i + 1 - 1)).1 + (pth J (i + 1 - 1)).2) := Lib.hid (by rw [if_neg (by omega), Nat.add_sub_cancel, hal])
                have H7 := Lib.hid s7
                have hpp : b + n ≤ p := by omega
                have hbn : a + (n : Int) ≤ 60 := by omega
                obtain ⟨bJ, oJ, eJ, hbJ, hcJ⟩ := (ht.step hBr) (by omega)
                obtain ⟨cJ1, cJ2⟩ := hcJ i (by omega)
                clear hcJ
                rw [hal] at cJ1 cJ2
                simp only at cJ1 cJ2
                have hk1 : (0 : Int) ≤ (i : Int) := by omega
                have hk2 : (i : Int) < (jn : Int) := by omega
                have hd1 : decide (a ≤ e) = false := by simp; omega
                have hwp : IntKind.i64.wrap ((p : Int) - (b : Int)) = (p : Int) - (b : Int) := IntWalk.i64_in _ (by omega)
                have hwb : IntKind.i64.wrap ((b : Int) + (n : Int)) = (b : Int) + (n : Int) := IntWalk.i64_in _ (by omega)
                have hwa : IntKind.i64.wrap (a + (n : Int)) = a + (n : Int) := IntWalk.i64_in _ (by omega)
                have CL : ∀ W, Calls Try.prog 25 #[.int .i64 (n : Int), .int .i64 1, .int .i64 ((p : Int) - (b : Int))] W fun e w' => e = .returned (.bool true) ∧ W = w' := fun W => by
                  have := lies_any (n : Int) 1 ((p : Int) - (b : Int)) W
                  rwa [decide_eq_true (by omega)] at this
                have HAL := Lib.hid hal
                clear s4 s5 s6 s7 hal
                subst eJ
                go_wp2_with (go_at_call 25; refine (CL _).mono ?_; rintro e w' ⟨rfl, rfl⟩)
                go_loopw [28] (fun jj wr => ∃ j : Nat, j ≤ n ∧ jj = .int .i64 j ∧ Below wM.heap.size wM wr) (fun jj _ => n - (intOf jj).toNat)
                case atStart => exact ⟨0, Nat.zero_le _, rfl, hBr⟩
                case round =>
                  obtain ⟨j, hj', rfl, hBr2⟩ := hrel
                  obtain ⟨b4, o4, e4, hb4, hc4⟩ := (ht.step hBr2) (by omega)
                  injection e4 with e4
                  injection e4 with e6 e7
                  subst e6; subst e7
                  obtain ⟨cK1, cK2⟩ := hc4 i (by omega)
                  clear hc4
                  rw [HAL.out] at cK1 cK2
                  simp only at cK1 cK2
                  by_cases hjn : j < n
                  · obtain ⟨b5, o5, e5, hb5, hc5⟩ := (hp.step hBr2).at_ (k := b + j) (by omega)
                    rw [H7.out j (by omega)] at hc5
                    obtain ⟨bj, hbj⟩ : ∃ bj, Hid (b + j = bj) := ⟨_, Lib.hid rfl⟩
                    rw [hbj.out] at hc5
                    have hbj2 := hbj.out
                    have hwj : IntKind.i64.wrap ((b : Int) + (j : Int)) = (bj : Int) := by rw [IntWalk.i64_in _ (by omega)]; omega
                    have hwaj : IntKind.i64.wrap (a + (j : Int)) = a + (j : Int) := IntWalk.i64_in _ (by omega)
                    have hq1 : (0 : Int) ≤ (bj : Int) := by omega
                    have hq2 : (bj : Int) < (p : Int) := by omega
                    clear hbj2
                    subst e5
                    go_wp2
                    go_quiet (fail)
                    go_wp2
                    go_roundw
                    case rel => exact ⟨j + 1, by omega, by go_num, hBr2.trans (below_drewN _ _ |>.mono hBr2.size)⟩
                    case measure => simp [intOf]; omega
                  · obtain rfl : n = j := by omega
                    go_wp2
                    go_quiet (fail)
                    go_wp2
                    go_roundw
                    case rel => exact ⟨i + 1, b + n, a + (n : Int), by omega, by go_num, by go_num, rfl, HN, hpp, by omega, hbn, HNX, hBr2.trans (below_drewN _ _ |>.mono hBr2.size)⟩
                    case measure => simp [intOf]; omega
              · obtain rfl : i = jn := by omega
                obtain rfl : p = b := by have := HB.out; rw [← hA4, hSE.out] at this; exact this
                have hBw := hBB.trans (hBr.mono hBB.size)
                go_wp2_with fail
                refine (cut_any _).mono ?_
                rintro e wy ⟨rfl, hB⟩
                go_wp2
                go_ret
                exact ⟨rfl, hBw.trans (hB.mono hBw.size)⟩

      · obtain ⟨j, hj⟩ : ∃ j, Hid (2 * k = j) := ⟨_, Lib.hid rfl⟩
        rw [hj.out] at hl3 ⊢
        have hjb : j ≤ 60 := by have := hj.out; omega
        have hw1 : IntKind.i64.wrap ((j : Int) + 1) = (j : Int) + 1 := IntWalk.i64_in _ (by omega)
        have hd1 : decide ((j : Int) + 1 < (l.length : Int)) = false := by simp; omega
        clear C42 D42
        obtain ⟨Au, cu, rfl, _, hs⟩ := hu.form
        obtain ⟨Av, cv, rfl, _, hl2⟩ := hv.form
        have hsh := sh_pool N l k hN60 hk
        have hkl1 := shS_length N l k
        have hkl2 := shL_length N l k
        clear hu hv hap h
        obtain ⟨us, hus⟩ : ∃ us, shS N l k = us := ⟨_, rfl⟩
        obtain ⟨vs, hvs⟩ : ∃ vs, shL N l k = vs := ⟨_, rfl⟩
        rw [hus] at hs hsh hkl1 ⊢
        rw [hvs] at hl2 hsh hkl2 ⊢
        rw [hkl1, hkl2]
        clear hus hvs
        obtain ⟨N', e, hP, hsn⟩ := Pool.of hsh
        obtain rfl : N = N' := by omega
        clear e
        have hT0 : 0 ≤ vs.sum := by
          have h3 : PosTo vs vs.length := fun j hj => (hP.at_ j (by omega)).2.1
          have := psum_nonneg vs vs.length (Nat.le_refl _) h3
          rwa [psum_all] at this
        obtain ⟨T, hT⟩ : ∃ T : Nat, vs.sum = (T : Int) := ⟨vs.sum.toNat, by omega⟩
        have hT2 : T ≤ 1048576 := by have := hP.sum; omega
        have hLl : (plL us vs).length = T := by have := plL_length hP; omega
        have hBl : (bgL us vs N).length = k := by rw [bgL_length, hkl1]
        have hSl : (plL (bgL us vs N) vs).length = T := by rw [bg_places hP, List.length_map, hLl]
        have hQ := all_union hP
        have hBP := bg_pool hP
        have hAT := Lib.hid (fun i hi => bg_at hP i hi)
        have hMD := mc_depth hP
        have hSP := Lib.hid (fun i hi => span_at (cnt := cntL N (plL us vs)) (N := N) i hi)
        have hSE := Lib.hid (span_end (cnt := cntL N (plL us vs)) (N := N))
        have hpb := pcK_length (cntL N (plL us vs)) N
        have hpb2 := adK_bnd (cntL N (plL us vs)) N
        have hjn := (tsL_bnd (ss := us) (ls := vs) hP.size).1
        have hnb : ∀ j, j < vs.length → nth vs j ≤ 9223372036854775807 := fun j hj => by have := hP.at_ j (by omega); omega
        have hpos : PosTo vs vs.length := fun j hj => (hP.at_ j (by omega)).2.1
        obtain ⟨J, hJ⟩ : ∃ J, tsF (cntL N (plL us vs)) N = J := ⟨_, rfl⟩
        rw [hJ] at hSP hSE
        have hJ2 : tsL us vs N = J := hJ
        rw [hJ2] at hjn
        obtain ⟨jn, hjl⟩ : ∃ jn, J.length = jn := ⟨_, rfl⟩
        obtain ⟨Q, hQe⟩ : ∃ Q, pcK (cntL N (plL us vs)) N = Q := ⟨_, rfl⟩
        rw [hQe] at hQ hBP hAT hSP hSE hpb
        obtain ⟨p, hpl⟩ : ∃ p, Q.length = p := ⟨_, rfl⟩
        rw [hpl] at hpb hBP hSE
        obtain ⟨B, hBe⟩ : ∃ B, bgL us vs N = B := ⟨_, rfl⟩
        rw [hBe] at hBl hSl hBP hAT
        obtain ⟨S, hSe⟩ : ∃ S, plL B vs = S := ⟨_, rfl⟩
        rw [hSe] at hSl hAT
        have hp60 : p ≤ 60 := by omega
        have C27 : ∀ W, Sl W Au us → Sl W Av vs → Calls Try.prog 27 #[.slice Au k cu, .slice Av k cv, .int .i64 (N : Int)] W (RetV W (.tuple #[.int .i64 (T : Int), .int .i64 0])) := fun W h h' => by
          have := shared_any Au Av cu cv us vs N W h h' (by omega) (by omega) hnb
          rwa [hsn, hsh, hT, hkl1, hkl2] at this
        have C33 : ∀ W, Sl W Au us → Sl W Av vs → Calls Try.prog 33 #[.slice Au k cu, .slice Av k cv, .int .i64 (N : Int)] W (fun e w' => ∃ A c, e = .returned (.tuple #[.slice A T c, .int .i64 0]) ∧ T ≤ c ∧ Sl w' A (plL us vs) ∧ Below W.heap.size W w') := fun W h h' => by
          have := places_any Au Av cu cv us vs N W h h' (by omega) (by omega) hnb
          rw [hsh, hkl1, hkl2] at this
          exact this.mono fun e w' H => retL_lit (plL us vs) T H rfl rfl hLl
        have C35 : ∀ W, Sl W Au us → Sl W Av vs → Calls Try.prog 35 #[.slice Au k cu, .slice Av k cv, .int .i64 (N : Int)] W (fun e w' => ∃ A c A' c', e = .returned (.tuple #[.slice A k c, .slice A' p c', .int .i64 0]) ∧ k ≤ c ∧ p ≤ c' ∧ Sl w' A B ∧ Sl w' A' Q ∧ Below W.heap.size W w') := fun W h h' => by
          have := compact_any touched_c Au Av cu cv us vs N W h h' (by omega) (by omega) hnb
          rw [hsh, hkl1, hkl2, Int.toNat_natCast, hBe, hQe] at this
          exact this.mono fun e w' H => retLL_lit B Q k p H rfl rfl rfl hBl hpl
        obtain ⟨D, hD⟩ : ∃ D, mcK (plL us vs) (plL us vs).length = D := ⟨_, rfl⟩
        have C28 : ∀ W, Sl W Au us → Sl W Av vs → Calls Try.prog 28 #[.slice Au k cu, .slice Av k cv, .int .i64 (N : Int)] W (RetV W (.tuple #[.int .i64 D, .int .i64 0])) := fun W h h' => by
          have := depth_any Au Av cu cv us vs N W h h' (by omega) (by omega) hnb
          rwa [hsh, if_pos rfl, Int.toNat_natCast, hMD, hD, hkl1, hkl2] at this
        have C30 : ∀ W, Sl W Au us → Sl W Av vs → Calls Try.prog 30 #[.slice Au k cu, .slice Av k cv, .int .i64 (N : Int)] W (fun e w' => ∃ A c, e = .returned (.tuple #[.slice A jn c, .int .i64 0]) ∧ jn ≤ c ∧ SlP w' A J ∧ Below W.heap.size W w') := fun W h h' => by
          have := touched_any Au Av cu cv us vs N W h h' (by omega) (by omega) hnb
          rw [hsh, if_pos rfl, Int.toNat_natCast, hJ2, hkl1, hkl2] at this
          exact this.mono fun e w' H => retPE_lit J jn H rfl rfl hjl
        have C38 : ∀ W, Sl W Av vs → Calls Try.prog 38 #[.slice Av k cv] W fun e w' => e = .returned (.int .i64 (T : Int)) ∧ W = w' := fun W h => by
          have := bsum_any Av cv vs W h (by omega) hpos (by omega)
          rwa [hT, hkl2] at this
        have C33b : ∀ A c W, Sl W A B → Sl W Av vs → Calls Try.prog 33 #[.slice A k c, .slice Av k cv, .int .i64 (p : Int)] W (fun e w' => ∃ A c, e = .returned (.tuple #[.slice A T c, .int .i64 0]) ∧ T ≤ c ∧ Sl w' A S ∧ Below W.heap.size W w') := fun A c W h h' => by
          have := places_any A Av c cv B vs p W h h' (by omega) (by omega) hnb
          rw [hBP, hBl, hkl2, hSe] at this
          exact this.mono fun e w' H => retL_lit S T H rfl rfl hSl
        obtain ⟨L, hL⟩ : ∃ L, plL us vs = L := ⟨_, rfl⟩
        rw [hL] at hLl hQ C33 hAT hMD hD
        have C44 : ∀ A c W, Sl W A L → Calls Try.prog 44 #[.slice none 0 0, .slice A T c] W (fun e w' => ∃ A c, e = .returned (.slice A p c) ∧ p ≤ c ∧ Sl w' A Q ∧ Below W.heap.size W w') := fun A c W h => by
          have := union_any A c L W h (by omega)
          rw [hQ, hLl] at this
          unfold RetS at this
          rw [hpl] at this
          exact this
        rw [hLl] at hD
        have HLL := Lib.hid hLl
        have HSL := Lib.hid hSl
        have HPL := Lib.hid hpl
        have HJL := Lib.hid hjl
        have HD := Lib.hid hD
        have hAT := Lib.hid (show ∀ i, i < T → ∃ q : Nat, nth S i = (q : Int) ∧ q < p ∧ nth Q q = nth L i from fun i hi => by
          have := hAT.out i (by rw [hLl]; exact hi)
          rwa [hpl] at this)
        have hlQ : Q.length ≤ 9223372036854775807 := by omega
        clear hP hsn hT0 hT hBl hSl hQ hBP hMD hpb hpb2 hnb hpos hJ hJ2 hQe hBe hSe hL hsh hkl1 hkl2 hD hLl hjl
        have hBB := hB
        go_wp2_with fail
        refine (C27 _ hs hl2).mono ?_
        rintro e w51 ⟨rfl, hB⟩
        have hs := hs.step hB
        have hl2 := hl2.step hB
        have hBB := hBB.trans (hB.mono hBB.size)
        go_wp2_with fail
        refine (C33 _ hs hl2).mono ?_
        rintro e w52 ⟨Aha, cha, rfl, hcha, ha, hB⟩
        have hs := hs.step hB
        have hl2 := hl2.step hB
        have hBB := hBB.trans (hB.mono hBB.size)
        go_wp2_with fail
        refine (C35 _ hs hl2).mono ?_
        rintro e w53 ⟨Ahb, chb, Ahp, chp, rfl, hchb, hchp, hb, hp, hB⟩
        have hs := hs.step hB
        have hl2 := hl2.step hB
        have ha := ha.step hB
        have hBB := hBB.trans (hB.mono hBB.size)
        go_wp2_with fail
        refine (C28 _ hs hl2).mono ?_
        rintro e w54 ⟨rfl, hB⟩
        have hs := hs.step hB
        have hl2 := hl2.step hB
        have ha := ha.step hB
        have hb := hb.step hB
        have hp := hp.step hB
        have hBB := hBB.trans (hB.mono hBB.size)
        go_wp2_with fail
        refine (C30 _ hs hl2).mono ?_
        rintro e w55 ⟨Aht, cht, rfl, hcht, ht, hB⟩
        have hs := hs.step hB
        have hl2 := hl2.step hB
        have ha := ha.step hB
        have hb := hb.step hB
        have hp := hp.step hB
        have hBB := hBB.trans (hB.mono hBB.size)
        go_wp2_with fail
        refine (C38 _ hl2).mono ?_
        rintro e w' ⟨rfl, rfl⟩
        go_wp2_with fail
        refine (C33b _ _ _ hb hl2).mono ?_
        rintro e w56 ⟨Ahc, chc, rfl, hchc, hc, hB⟩
        have hs := hs.step hB
        have hl2 := hl2.step hB
        have ha := ha.step hB
        have hb := hb.step hB
        have hp := hp.step hB
        have ht := ht.step hB
        have hBB := hBB.trans (hB.mono hBB.size)
        go_wp2_with fail
        refine (C44 _ _ _ ha).mono ?_
        rintro e w57 ⟨A9, c9, rfl, hc9, hq, hB⟩
        have hs := hs.step hB
        have hl2 := hl2.step hB
        have ha := ha.step hB
        have hb := hb.step hB
        have hp := hp.step hB
        have ht := ht.step hB
        have hc := hc.step hB
        have hBB := hBB.trans (hB.mono hBB.size)
        go_wp2_with fail
        refine (eq_lit _ _ _ _ p Q _ HPL.out hq hp hlQ).mono ?_
        rintro e w58 ⟨rfl, hB⟩
        have hs := hs.step hB
        have hl2 := hl2.step hB
        have ha := ha.step hB
        have hb := hb.step hB
        have hp := hp.step hB
        have ht := ht.step hB
        have hc := hc.step hB
        have hq := hq.step hB
        have hBB := hBB.trans (hB.mono hBB.size)
        clear hs hl2 hb hq C27 C33 C35 C28 C30 C38 C33b C44
        have hA1 := HLL.out
        have hA2 := HSL.out
        have hA3 := HPL.out
        have hA4 := HJL.out
        go_wp2
        go_loopw [21, 23, 24, 25] (fun mo i ma jj wr => ∃ i' : Nat, i' ≤ T ∧ i = .int .i64 i' ∧ mo = .int .i64 (mcK L i') ∧ Below w58.heap.size w58 wr) (fun _ i _ _ _ => T - (intOf i).toNat)
        case atStart => exact ⟨0, Nat.zero_le _, rfl, rfl, Below.refl _ _⟩
        case round =>
          obtain ⟨i, hi', rfl, rfl, hBr⟩ := hrel
          by_cases hlt : i < T
          · obtain ⟨q, hq1, hq2, hq3⟩ := hAT.out i hlt
            have HM := Lib.hid (mcK_succ L i (by omega))
            obtain ⟨b1, o1, e1, hb1, hc1⟩ := (hc.step hBr).at_ (k := i) (by omega)
            obtain ⟨b2, o2, e2, hb2, hc2⟩ := (ha.step hBr).at_ (k := i) (by omega)
            obtain ⟨b3, o3, e3, hb3, hc3⟩ := (hp.step hBr).at_ (k := q) (by omega)
            rw [hq1] at hc1
            rw [hq3] at hc3
            obtain ⟨x, hx⟩ : ∃ x, nth L i = x := ⟨_, rfl⟩
            rw [hx] at hc2 hc3 HM
            have HX := Lib.hid hx
            obtain ⟨mv, hmv⟩ : ∃ mv, mcK L i = mv := ⟨_, rfl⟩
            rw [hmv] at HM ⊢
            have hk1 : (0 : Int) ≤ (i : Int) := by omega
            have hk2 : (i : Int) < (T : Int) := by omega
            have hk3 : (0 : Int) ≤ (q : Int) := by omega
            have hk4 : (q : Int) < (p : Int) := by omega
            have hwp : IntKind.i64.wrap ((p : Int) - 1) = (p : Int) - 1 := IntWalk.i64_in _ (by omega)
            have D1 : liesB (q : Int) 0 ((p : Int) - 1) = true := decide_eq_true (by omega)
            clear hx hmv hq1 hq3
            subst e1; subst e2; subst e3
            go_wp2
            go_quiet ((go_at_call 25; exact Calls.quiet_of_same (lies_b _ _ _ _)))
            go_wp2
            rw [D1]
            go_loopw [24, 25] (fun ma jj wr => ∃ j : Nat, j ≤ T ∧ jj = .int .i64 j ∧ ma = .int .i64 (((L.take j).count x : Nat) : Int) ∧ Below w58.heap.size w58 wr) (fun _ jj _ => T - (intOf jj).toNat)
            case atStart => exact ⟨0, Nat.zero_le _, rfl, rfl, hBr.trans (below_drewN _ _ |>.mono hBr.size)⟩
            case round =>
              obtain ⟨j, hj', rfl, rfl, hBr2⟩ := hrel
              by_cases hjt : j < T
              · obtain ⟨b4, o4, e4, hb4, hc4⟩ := (ha.step hBr2).at_ (k := j) (by omega)
                obtain ⟨b5, o5, e5, hb5, hc5⟩ := (ha.step hBr2).at_ (k := i) (by omega)
                injection e4 with e4
                injection e4 with e6 e7
                injection e5 with e5
                injection e5 with e8 e9
                subst e6; subst e7; subst e8; subst e9
                rw [HX.out] at hc5
                have HC := Lib.hid (count_take_succ L x j (by omega))
                have hcl := List.count_le_length (a := x) (l := L.take j)
                rw [List.length_take] at hcl
                obtain ⟨y, hy⟩ : ∃ y, nth L j = y := ⟨_, rfl⟩
                rw [hy] at hc4 HC
                obtain ⟨n0, hn0⟩ : ∃ n0, (L.take j).count x = n0 := ⟨_, rfl⟩
                rw [hn0] at HC hcl ⊢
                have hj1 : (0 : Int) ≤ (j : Int) := by omega
                have hj2 : (j : Int) < (T : Int) := by omega
                have hwn : IntKind.i64.wrap ((n0 : Int) + 1) = (n0 : Int) + 1 := IntWalk.i64_in _ (by omega)
                clear hy hn0
                by_cases hyx : y = x
                · have HC2 : Hid ((L.take (j + 1)).count x = n0 + 1) := Lib.hid (by rw [HC.out, if_pos hyx])
                  have hde : (y == x) = true := by rw [beq_iff_eq]; exact hyx
                  clear hyx
                  go_wp2
                  go_quiet (fail)
                  go_wp2
                  go_roundw
                  case rel => exact ⟨j + 1, by omega, by go_num, by rw [HC2.out]; go_num, hBr2.trans (below_drewN _ _ |>.mono hBr2.size)⟩
                  case measure => simp [intOf]; omega
                · have HC2 : Hid ((L.take (j + 1)).count x = n0) := Lib.hid (by rw [HC.out, if_neg hyx]; rfl)
                  have hde : (y == x) = false := by rw [beq_eq_false_iff_ne]; exact hyx
                  clear hyx
                  go_wp2
                  go_quiet (fail)
                  go_wp2
                  go_roundw
                  case rel => exact ⟨j + 1, by omega, by go_num, by rw [HC2.out], hBr2.trans (below_drewN _ _ |>.mono hBr2.size)⟩
                  case measure => simp [intOf]; omega
              · obtain rfl : j = T := by omega
                have HC2 : Hid ((L.take j).count x = L.count x) := Lib.hid (by rw [List.take_of_length_le (by omega)])
                rw [HC2.out]
                obtain ⟨n0, hn0⟩ : ∃ n0, L.count x = n0 := ⟨_, rfl⟩
                rw [hn0] at HM ⊢
                clear hn0
                go_wp2
                go_roundw
                case rel => exact ⟨i + 1, by omega, by go_num, by rw [HM.out], hBr2⟩
                case measure => simp [intOf]; omega
          · obtain rfl : i = T := by omega
            rw [HD.out]
            obtain ⟨wM, rfl⟩ : ∃ wM, wM = wr := ⟨_, rfl⟩
            have hp := hp.step hBr
            have ht := ht.step hBr
            have hBB := hBB.trans (hBr.mono hBB.size)
            clear hBr ha hc
            go_wp2
            go_loopw [22, 26, 27, 28] (fun at' la k' jj wr => ∃ (i b : Nat) (e : Int), i ≤ jn ∧ k' = .int .i64 i ∧ at' = .int .i64 b ∧ la = .int .i64 e ∧ Hid ((ppL (J.take i)).length = b) ∧ b ≤ p ∧ -1 ≤ e ∧ e ≤ 60 ∧ Hid (e = if i = 0 then -1 else (pth J (i - 1)).1 + (pth J (i - 1)).2) ∧ Below wM.heap.size wM wr) (fun _ _ k' _ _ => jn - (intOf k').toNat)
            case atStart => exact ⟨0, 0, -1, Nat.zero_le _, rfl, rfl, rfl, Lib.hid rfl, Nat.zero_le _, by omega, by omega, Lib.hid rfl, Below.refl _ _⟩
            case round =>
              obtain ⟨i, b, e, hi', rfl, rfl, rfl, HB, hbp, he1, he2, HE, hBr⟩ := hrel
              by_cases hlt : i < jn
              · obtain ⟨s1, s2, s3, s4, s5, s6, s7⟩ := hSP.out i (by omega)
                rw [HB.out] at s5 s7
                rw [s5] at s6
                obtain ⟨⟨a, ln⟩, hal⟩ : ∃ x, pth J i = x := ⟨_, rfl⟩
                rw [hal] at s1 s2 s3 s4 s5 s6 s7
                simp only at s1 s2 s3 s4 s5 s6 s7
                obtain ⟨n, hn⟩ : ∃ n : Nat, ln = (n : Int) := ⟨ln.toNat, by omega⟩
                subst hn
                rw [Int.toNat_natCast] at s5 s6
                have hea : e < a := by
                  have := HE.out
                  by_cases h0 : i = 0
                  · rw [if_pos h0] at this; omega
                  · rw [if_neg h0] at this; have := s4 (by omega); omega
                have HN := Lib.hid s5
                have HNX : Hid (a + (n : Int) = if i + 1 = 0 then -1 else (pth J (i + 1 - 1)).1 + (pth J (i + 1 - 1)).2) := Lib.hid (by rw [if_neg (by omega), Nat.add_sub_cancel, hal])
                have H7 := Lib.hid s7
                have hpp : b + n ≤ p := by omega
                have hbn : a + (n : Int) ≤ 60 := by omega
                obtain ⟨bJ, oJ, eJ, hbJ, hcJ⟩ := (ht.step hBr) (by omega)
                obtain ⟨cJ1, cJ2⟩ := hcJ i (by omega)
                clear hcJ
                rw [hal] at cJ1 cJ2
                simp only at cJ1 cJ2
                have hk1 : (0 : Int) ≤ (i : Int) := by omega
                have hk2 : (i : Int) < (jn : Int) := by omega
                have hd1 : decide (a ≤ e) = false := by simp; omega
                have hwp : IntKind.i64.wrap ((p : Int) - (b : Int)) = (p : Int) - (b : Int) := IntWalk.i64_in _ (by omega)
                have hwb : IntKind.i64.wrap ((b : Int) + (n : Int)) = (b : Int) + (n : Int) := IntWalk.i64_in _ (by omega)
                have hwa : IntKind.i64.wrap (a + (n : Int)) = a + (n : Int) := IntWalk.i64_in _ (by omega)
                have CL : ∀ W, Calls Try.prog 25 #[.int .i64 (n : Int), .int .i64 1, .int .i64 ((p : Int) - (b : Int))] W fun e w' => e = .returned (.bool true) ∧ W = w' := fun W => by
                  have := lies_any (n : Int) 1 ((p : Int) - (b : Int)) W
                  rwa [decide_eq_true (by omega)] at this
                have HAL := Lib.hid hal
                clear s4 s5 s6 s7 hal
                subst eJ
                go_wp2_with (go_at_call 25; refine (CL _).mono ?_; rintro e w' ⟨rfl, rfl⟩)
                go_loopw [28] (fun jj wr => ∃ j : Nat, j ≤ n ∧ jj = .int .i64 j ∧ Below wM.heap.size wM wr) (fun jj _ => n - (intOf jj).toNat)
                case atStart => exact ⟨0, Nat.zero_le _, rfl, hBr⟩
                case round =>
                  obtain ⟨j, hj', rfl, hBr2⟩ := hrel
                  obtain ⟨b4, o4, e4, hb4, hc4⟩ := (ht.step hBr2) (by omega)
                  injection e4 with e4
                  injection e4 with e6 e7
                  subst e6; subst e7
                  obtain ⟨cK1, cK2⟩ := hc4 i (by omega)
                  clear hc4
                  rw [HAL.out] at cK1 cK2
                  simp only at cK1 cK2
                  by_cases hjn : j < n
                  · obtain ⟨b5, o5, e5, hb5, hc5⟩ := (hp.step hBr2).at_ (k := b + j) (by omega)
                    rw [H7.out j (by omega)] at hc5
                    obtain ⟨bj, hbj⟩ : ∃ bj, Hid (b + j = bj) := ⟨_, Lib.hid rfl⟩
                    rw [hbj.out] at hc5
                    have hbj2 := hbj.out
                    have hwj : IntKind.i64.wrap ((b : Int) + (j : Int)) = (bj : Int) := by rw [IntWalk.i64_in _ (by omega)]; omega
                    have hwaj : IntKind.i64.wrap (a + (j : Int)) = a + (j : Int) := IntWalk.i64_in _ (by omega)
                    have hq1 : (0 : Int) ≤ (bj : Int) := by omega
                    have hq2 : (bj : Int) < (p : Int) := by omega
                    clear hbj2
                    subst e5
                    go_wp2
                    go_quiet (fail)
                    go_wp2
                    go_roundw
                    case rel => exact ⟨j + 1, by omega, by go_num, hBr2.trans (below_drewN _ _ |>.mono hBr2.size)⟩
                    case measure => simp [intOf]; omega
                  · obtain rfl : n = j := by omega
                    go_wp2
                    go_quiet (fail)
                    go_wp2
                    go_roundw
                    case rel => exact ⟨i + 1, b + n, a + (n : Int), by omega, by go_num, by go_num, rfl, HN, hpp, by omega, hbn, HNX, hBr2.trans (below_drewN _ _ |>.mono hBr2.size)⟩
                    case measure => simp [intOf]; omega
              · obtain rfl : i = jn := by omega
                obtain rfl : p = b := by have := HB.out; rw [← hA4, hSE.out] at this; exact this
                have hBw := hBB.trans (hBr.mono hBB.size)
                go_wp2_with fail
                refine (cut_any _).mono ?_
                rintro e wy ⟨rfl, hB⟩
                go_wp2
                go_ret
                exact ⟨rfl, hBw.trans (hB.mono hBw.size)⟩

end Go.Proofs.Ytcbkocjpkdcpfaa
