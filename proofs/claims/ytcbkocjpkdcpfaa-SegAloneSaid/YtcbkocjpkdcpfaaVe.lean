/- SegAlone: its walk. -/
import Derived.Test.YtcbkocjpkdcpfaaMh
namespace Go.Proofs.Ytcbkocjpkdcpfaa
set_option linter.unusedVariables false
open Go.RowKit Go.Shelf
theorem same_lit1 (A A' : Option Addr) (c c' : Nat) (x y : Int) (w : World) (h : SlP w A [(x, y)]) (h' : SlP w A' [(x, y)]) : Calls Try.prog 32 #[.slice A 1 c, .slice A' 1 c'] w (Good w) :=
  same_self A A' c c' [(x, y)] w h h' (by simp)
set_option maxRecDepth 100000 in
set_option maxHeartbeats 80000000 in
theorem law9 (A : Option Addr) (c : Nat) (l : List Int) (w : World) (h : Sl w A l) (hl : l.length ≤ 9223372036854775807) :
    Calls Try.prog 9 #[.slice A l.length c] w (Good w) := by
  have C37 := some_any A c l w h hl
  obtain ⟨hF, hlen, hsum⟩ := smL_fine l
  obtain ⟨zs, hzs⟩ : ∃ zs, smL l = zs := ⟨_, rfl⟩
  rw [hzs] at C37 hF hlen hsum
  clear hzs
  obtain ⟨N, hN⟩ : ∃ N : Nat, zs.sum = (N : Int) := ⟨zs.sum.toNat, by have := hF.sum_nonneg; omega⟩
  have hN2 : N ≤ 400 := by omega
  have hck := ck_fine hF
  have hsh := al_sh hF
  have hpl := al_all hF
  have hbg := al_bg hF N hN
  have ho := once_upL N
  have hsl := stL_length zs
  rw [hN] at hck hsh hpl
  rw [Int.toNat_natCast] at hpl
  have hnb : ∀ j, j < zs.length → nth zs j ≤ 9223372036854775807 := fun j hj => by have := hF.nth j hj; omega
  have C12 : ∀ A c W, Sl W A zs → Calls Try.prog 12 #[.slice A zs.length c] W (RetV W (.tuple #[.int .i64 (N : Int), .int .i64 0])) := fun A c W h => by
    have := check_any A c zs W h (by omega)
    rwa [hck.1, hck.2] at this
  have C14 : ∀ A c W, Sl W A zs → Calls Try.prog 14 #[.slice A zs.length c] W (RetL W (stL zs) 0) := fun A c W h => by
    have := starts_any A c zs W h (by omega)
    rwa [hck.1] at this
  have C33 : ∀ A A' c c' W, Sl W A (stL zs) → Sl W A' zs → Calls Try.prog 33 #[.slice A (stL zs).length c, .slice A' zs.length c', .int .i64 (N : Int)] W (RetL W (upL N) 0) := fun A A' c c' W h h' => by
    have := places_any A A' c c' (stL zs) zs N W h h' (by omega) (by omega) hnb
    rwa [hsh, hpl] at this
  have C28 : ∀ A A' c c' W, Sl W A (stL zs) → Sl W A' zs → Calls Try.prog 28 #[.slice A (stL zs).length c, .slice A' zs.length c', .int .i64 (N : Int)] W (RetV W (.tuple #[.int .i64 (min (N : Int) 1), .int .i64 0])) := fun A A' c c' W h h' => by
    have := depth_any A A' c c' (stL zs) zs N W h h' (by omega) (by omega) hnb
    rw [hsh, if_pos rfl, hpl, Int.toNat_natCast] at this
    have e : mxL (cntL N (upL N)) = min (N : Int) 1 := by unfold mxL; rw [ho.len]; exact ho.mx N (Nat.le_refl _)
    rwa [e] at this
  have C35 : ∀ A A' c c' W, Sl W A (stL zs) → Sl W A' zs → Calls Try.prog 35 #[.slice A (stL zs).length c, .slice A' zs.length c', .int .i64 (N : Int)] W (RetLL W (stL zs) (upL N) 0) := fun A A' c c' W h h' => by
    have := compact_any touched_c A A' c c' (stL zs) zs N W h h' (by omega) (by omega) hnb
    rw [hsh, Int.toNat_natCast, hbg, hpl, ho.pc N (Nat.le_refl _)] at this
    exact this
  have C30 : ∀ A A' c c' W, Sl W A (stL zs) → Sl W A' zs → Calls Try.prog 30 #[.slice A (stL zs).length c, .slice A' zs.length c', .int .i64 (N : Int)] W (RetPE W (if N = 0 then [] else [(0, (N : Int))]) 0) := fun A A' c c' W h h' => by
    have := touched_any A A' c c' (stL zs) zs N W h h' (by omega) (by omega) hnb
    rw [hsh, if_pos rfl, Int.toNat_natCast] at this
    unfold tsL at this
    rwa [hpl, ho.ts N (Nat.le_refl _)] at this
  have C45 := fun W => upto_any N W (by omega)
  have l1 : (upL N).length ≤ 9223372036854775807 := by rw [upL_length]; omega
  have l2 : (stL zs).length ≤ 9223372036854775807 := by omega
  obtain ⟨ss, hss⟩ : ∃ ss, stL zs = ss := ⟨_, rfl⟩
  rw [hss] at C14 C33 C28 C35 C30 l2
  obtain ⟨us, hus⟩ : ∃ us, upL N = us := ⟨_, rfl⟩
  rw [hus] at C33 C35 C45 l1
  clear hss hus ho hbg hpl hsh hck hF hN hsum hlen hnb hsl
  by_cases h0 : N = 0
  · have hd : ((N : Int) == 0) = true := by rw [beq_iff_eq]; omega
    have C30 := fun A A' c c' W h h' => (C30 A A' c c' W h h').mono fun e w' H => retPE_lit [] 0 H (by rw [if_pos h0]) rfl rfl
    clear h0
    go_enter Try.func9, Try.ntmps9
    have hBB : Below w.heap.size w w := Below.refl _ _
    go_wp2_with fail
    refine (C37).mono ?_
    rintro e w1 ⟨A1, c1, rfl, hc1, hz, hB⟩
    have h := h.step hB
    have hBB := hBB.trans (hB.mono hBB.size)
    clear h
    go_wp2_with fail
    refine (C12 _ _ _ hz).mono ?_
    rintro e w2 ⟨rfl, hB⟩
    have hz := hz.step hB
    have hBB := hBB.trans (hB.mono hBB.size)
    go_wp2_with fail
    refine (C14 _ _ _ hz).mono ?_
    rintro e w3 ⟨A2, c2, rfl, hc2, hs, hB⟩
    have hz := hz.step hB
    have hBB := hBB.trans (hB.mono hBB.size)
    go_wp2_with fail
    refine (C33 _ _ _ _ _ hs hz).mono ?_
    rintro e w4 ⟨Aha, cha, rfl, hcha, ha, hB⟩
    have hz := hz.step hB
    have hs := hs.step hB
    have hBB := hBB.trans (hB.mono hBB.size)
    go_wp2_with fail
    refine (C28 _ _ _ _ _ hs hz).mono ?_
    rintro e w5 ⟨rfl, hB⟩
    have hz := hz.step hB
    have hs := hs.step hB
    have ha := ha.step hB
    have hBB := hBB.trans (hB.mono hBB.size)
    go_wp2_with fail
    refine (C35 _ _ _ _ _ hs hz).mono ?_
    rintro e w6 ⟨Ahb, chb, Ahp, chp, rfl, hchb, hchp, hb, hp, hB⟩
    have hz := hz.step hB
    have hs := hs.step hB
    have ha := ha.step hB
    have hBB := hBB.trans (hB.mono hBB.size)
    go_wp2_with fail
    refine (C30 _ _ _ _ _ hs hz).mono ?_
    rintro e w7 ⟨Aht, cht, rfl, hcht, ht, hB⟩
    have hz := hz.step hB
    have hs := hs.step hB
    have ha := ha.step hB
    have hb := hb.step hB
    have hp := hp.step hB
    have hBB := hBB.trans (hB.mono hBB.size)
    go_wp2_with fail
    refine (C45 _).mono ?_
    rintro e w8 ⟨A3, c3, rfl, hc3, hu, hB⟩
    have hz := hz.step hB
    have hs := hs.step hB
    have ha := ha.step hB
    have hb := hb.step hB
    have hp := hp.step hB
    have ht := ht.step hB
    have hBB := hBB.trans (hB.mono hBB.size)
    go_wp2_with fail
    refine (eq_self _ _ _ _ _ _ ha hu l1).mono ?_
    rintro e w9 ⟨rfl, hB⟩
    have hz := hz.step hB
    have hs := hs.step hB
    have ha := ha.step hB
    have hb := hb.step hB
    have hp := hp.step hB
    have ht := ht.step hB
    have hu := hu.step hB
    have hBB := hBB.trans (hB.mono hBB.size)
    go_wp2_with fail
    refine (eq_self _ _ _ _ _ _ hp ha l1).mono ?_
    rintro e w10 ⟨rfl, hB⟩
    have hz := hz.step hB
    have hs := hs.step hB
    have ha := ha.step hB
    have hb := hb.step hB
    have hp := hp.step hB
    have ht := ht.step hB
    have hu := hu.step hB
    have hBB := hBB.trans (hB.mono hBB.size)
    go_wp2_with fail
    refine (eq_self _ _ _ _ _ _ hb hs l2).mono ?_
    rintro e w11 ⟨rfl, hB⟩
    have hz := hz.step hB
    have hs := hs.step hB
    have ha := ha.step hB
    have hb := hb.step hB
    have hp := hp.step hB
    have ht := ht.step hB
    have hu := hu.step hB
    have hBB := hBB.trans (hB.mono hBB.size)
    go_wp2_with fail
    refine (cut_any _).mono ?_
    rintro e w12 ⟨rfl, hB⟩
    have hz := hz.step hB
    have hs := hs.step hB
    have ha := ha.step hB
    have hb := hb.step hB
    have hp := hp.step hB
    have ht := ht.step hB
    have hu := hu.step hB
    have hBB := hBB.trans (hB.mono hBB.size)
    go_wp2
    go_ret
    exact ⟨rfl, hBB⟩
  · have hd : ((N : Int) == 0) = false := by rw [beq_eq_false_iff_ne]; omega
    have C30 := fun A A' c c' W h h' => (C30 A A' c c' W h h').mono fun e w' H => retPE_lit [(0, (N : Int))] 1 H (by rw [if_neg h0]) rfl rfl
    clear h0
    go_enter Try.func9, Try.ntmps9
    have hBB : Below w.heap.size w w := Below.refl _ _
    go_wp2_with fail
    refine (C37).mono ?_
    rintro e w1 ⟨A1, c1, rfl, hc1, hz, hB⟩
    have h := h.step hB
    have hBB := hBB.trans (hB.mono hBB.size)
    clear h
    go_wp2_with fail
    refine (C12 _ _ _ hz).mono ?_
    rintro e w2 ⟨rfl, hB⟩
    have hz := hz.step hB
    have hBB := hBB.trans (hB.mono hBB.size)
    go_wp2_with fail
    refine (C14 _ _ _ hz).mono ?_
    rintro e w3 ⟨A2, c2, rfl, hc2, hs, hB⟩
    have hz := hz.step hB
    have hBB := hBB.trans (hB.mono hBB.size)
    go_wp2_with fail
    refine (C33 _ _ _ _ _ hs hz).mono ?_
    rintro e w4 ⟨Aha, cha, rfl, hcha, ha, hB⟩
    have hz := hz.step hB
    have hs := hs.step hB
    have hBB := hBB.trans (hB.mono hBB.size)
    go_wp2_with fail
    refine (C28 _ _ _ _ _ hs hz).mono ?_
    rintro e w5 ⟨rfl, hB⟩
    have hz := hz.step hB
    have hs := hs.step hB
    have ha := ha.step hB
    have hBB := hBB.trans (hB.mono hBB.size)
    go_wp2_with fail
    refine (C35 _ _ _ _ _ hs hz).mono ?_
    rintro e w6 ⟨Ahb, chb, Ahp, chp, rfl, hchb, hchp, hb, hp, hB⟩
    have hz := hz.step hB
    have hs := hs.step hB
    have ha := ha.step hB
    have hBB := hBB.trans (hB.mono hBB.size)
    go_wp2_with fail
    refine (C30 _ _ _ _ _ hs hz).mono ?_
    rintro e w7 ⟨Aht, cht, rfl, hcht, ht, hB⟩
    have hz := hz.step hB
    have hs := hs.step hB
    have ha := ha.step hB
    have hb := hb.step hB
    have hp := hp.step hB
    have hBB := hBB.trans (hB.mono hBB.size)
    go_wp2_with fail
    refine (C45 _).mono ?_
    rintro e w8 ⟨A3, c3, rfl, hc3, hu, hB⟩
    have hz := hz.step hB
    have hs := hs.step hB
    have ha := ha.step hB
    have hb := hb.step hB
    have hp := hp.step hB
    have ht := ht.step hB
    have hBB := hBB.trans (hB.mono hBB.size)
    go_wp2_with fail
    refine (eq_self _ _ _ _ _ _ ha hu l1).mono ?_
    rintro e w9 ⟨rfl, hB⟩
    have hz := hz.step hB
    have hs := hs.step hB
    have ha := ha.step hB
    have hb := hb.step hB
    have hp := hp.step hB
    have ht := ht.step hB
    have hu := hu.step hB
    have hBB := hBB.trans (hB.mono hBB.size)
    go_wp2_with fail
    refine (eq_self _ _ _ _ _ _ hp ha l1).mono ?_
    rintro e w10 ⟨rfl, hB⟩
    have hz := hz.step hB
    have hs := hs.step hB
    have ha := ha.step hB
    have hb := hb.step hB
    have hp := hp.step hB
    have ht := ht.step hB
    have hu := hu.step hB
    have hBB := hBB.trans (hB.mono hBB.size)
    go_wp2_with fail
    refine (eq_self _ _ _ _ _ _ hb hs l2).mono ?_
    rintro e w11 ⟨rfl, hB⟩
    have hz := hz.step hB
    have hs := hs.step hB
    have ha := ha.step hB
    have hb := hb.step hB
    have hp := hp.step hB
    have ht := ht.step hB
    have hu := hu.step hB
    have hBB := hBB.trans (hB.mono hBB.size)
    go_wp2_with fail
    have hz := hz.al (.cells #[.int .i64 0, .int .i64 (N : Int)] 52)
    have hs := hs.al (.cells #[.int .i64 0, .int .i64 (N : Int)] 52)
    have ha := ha.al (.cells #[.int .i64 0, .int .i64 (N : Int)] 52)
    have hb := hb.al (.cells #[.int .i64 0, .int .i64 (N : Int)] 52)
    have hp := hp.al (.cells #[.int .i64 0, .int .i64 (N : Int)] 52)
    have ht := ht.al (.cells #[.int .i64 0, .int .i64 (N : Int)] 52)
    have hu := hu.al (.cells #[.int .i64 0, .int .i64 (N : Int)] 52)
    have hq := SlP.lit1 w11 0 (N : Int)
    have hBB := hBB.alloc hBB.size (.cells #[.int .i64 0, .int .i64 (N : Int)] 52)
    refine (same_lit1 _ _ _ _ 0 (N : Int) _ ht hq).mono ?_
    rintro e w12 ⟨rfl, hB⟩
    have hz := hz.step hB
    have hs := hs.step hB
    have ha := ha.step hB
    have hb := hb.step hB
    have hp := hp.step hB
    have ht := ht.step hB
    have hu := hu.step hB
    have hBB := hBB.trans (hB.mono hBB.size)
    go_wp2_with fail
    refine (cut_any _).mono ?_
    rintro e w13 ⟨rfl, hB⟩
    have hz := hz.step hB
    have hs := hs.step hB
    have ha := ha.step hB
    have hb := hb.step hB
    have hp := hp.step hB
    have ht := ht.step hB
    have hu := hu.step hB
    have hBB := hBB.trans (hB.mono hBB.size)
    go_wp2
    go_ret
    exact ⟨rfl, hBB⟩
end Go.Proofs.Ytcbkocjpkdcpfaa
