/- SegShares: its walk. -/
import Derived.Test.YtcbkocjpkdcpfaaVa
namespace Go.Proofs.Ytcbkocjpkdcpfaa
set_option linter.unusedVariables false
open Go.RowKit Go.Shelf
set_option maxRecDepth 100000 in
set_option maxHeartbeats 80000000 in
theorem law5 (A A' : Option Addr) (c c' : Nat) (ss ls : List Int) (n : Int) (w : World) (h : Sl w A ss) (h' : Sl w A' ls) (hls : ss.length ≤ 9223372036854775807) (hll : ls.length ≤ 9223372036854775807) (hb : ∀ j, j < ls.length → nth ls j ≤ 9223372036854775807) :
    Calls Try.prog 5 #[.slice A ss.length c, .slice A' ls.length c', .int .i64 n] w (Good w) := by
  have C25 := fun W => lies_any n 2001 1048576 W
  have C26 : ∀ W, Sl W A ss → Sl W A' ls → Calls Try.prog 26 #[.slice A ss.length c, .slice A' ls.length c', .int .i64 n] W fun e w' => e = .returned (.tuple #[.int .i64 (shN ss ls n), .int .i64 (shE ss ls n)]) ∧ Below W.heap.size W w' :=
    fun W h h' => (rshared_any A A' c c' ss ls n W h h' hls hll hb).mono fun e w' ⟨h1, m, h2⟩ => ⟨h1, by rw [h2]; exact below_drewN W m⟩
  have C27 := fun W h h' => shared_any A A' c c' ss ls n W h h' hls hll hb
  have C28 := fun W h h' => depth_any A A' c c' ss ls n W h h' hls hll hb
  have C29 := fun W h h' => rdepth_any A A' c c' ss ls n W h h' hls hll hb
  have C30 := fun W h h' => touched_any A A' c c' ss ls n W h h' hls hll hb
  have C31 := fun W h h' => rtouched_any A A' c c' ss ls n W h h' hls hll hb
  have C33 := fun W h h' => places_any A A' c c' ss ls n W h h' hls hll hb
  have C34 := fun W h h' => rplaces_any A A' c c' ss ls n W h h' hls hll hb
  have C35 := fun W h h' => compact_any touched_c A A' c c' ss ls n W h h' hls hll hb
  have C36 := fun W h h' => rcompact_any A A' c c' ss ls n W h h' hls hll hb
  have l0 := len_ts (ss := ss) (ls := ls) (n := n)
  have l1 := len_pl (ss := ss) (ls := ls) (n := n)
  have l2 := len_bg (ss := ss) (ls := ls) (n := n)
  have l3 := len_pc (ss := ss) (ls := ls) (n := n)
  obtain ⟨g, hg⟩ : ∃ g, decide ((2001 : Int) ≤ n ∧ n ≤ 1048576) = g := ⟨_, rfl⟩
  rw [hg] at C25
  obtain ⟨z0, hz0⟩ : ∃ z, (if shE ss ls n = 0 then tsL ss ls n.toNat else []) = z := ⟨_, rfl⟩
  obtain ⟨y0, hy0⟩ : ∃ z, (if shE ss ls n = 0 then mxL (cntL n.toNat (plL ss ls)) else 0) = z := ⟨_, rfl⟩
  obtain ⟨z1, hz1⟩ : ∃ z, orL (shE ss ls n) (plL ss ls) = z := ⟨_, rfl⟩
  obtain ⟨z2, hz2⟩ : ∃ z, orL (shE ss ls n) (bgL ss ls n.toNat) = z := ⟨_, rfl⟩
  obtain ⟨z3, hz3⟩ : ∃ z, orL (shE ss ls n) (pcK (cntL n.toNat (plL ss ls)) n.toNat) = z := ⟨_, rfl⟩
  rw [hy0] at C28 C29
  rw [hz0] at C30 C31 l0
  rw [hz1] at C33 C34 l1
  rw [hz2, hz3] at C35 C36
  rw [hz2] at l2
  rw [hz3] at l3
  clear hz0 hy0 hz1 hz2 hz3 hg
  obtain ⟨er, her⟩ : ∃ er, shE ss ls n = er := ⟨_, rfl⟩
  obtain ⟨nn, hnn⟩ : ∃ nn, shN ss ls n = nn := ⟨_, rfl⟩
  rw [her, hnn] at C26 C27
  rw [her] at C28 C29 C30 C31 C33 C34 C35 C36
  clear her hnn hb
  by_cases hg : g = true ∨ (400 : Int) < (ls.length : Int)
  · cases g with
    | true =>
      go_enter Try.func5, Try.ntmps5
      have hBB : Below w.heap.size w w := Below.refl _ _
      go_wp2_with fail
      refine (C25 _).mono ?_
      rintro e w' ⟨rfl, rfl⟩
      go_wp2_with fail
      refine (cut_any _).mono ?_
      rintro e w1 ⟨rfl, hB⟩
      go_wp2
      go_ret
      exact ⟨rfl, hB⟩
    | false =>
      have hd : decide ((400 : Int) < (ls.length : Int)) = true := by simpa using hg
      go_enter Try.func5, Try.ntmps5
      have hBB : Below w.heap.size w w := Below.refl _ _
      go_wp2_with fail
      refine (C25 _).mono ?_
      rintro e w' ⟨rfl, rfl⟩
      go_wp2_with fail
      refine (cut_any _).mono ?_
      rintro e w1 ⟨rfl, hB⟩
      go_wp2
      go_ret
      exact ⟨rfl, hB⟩
  · have hgf : g = false := by cases g; rfl; exact absurd (.inl rfl) hg
    subst hgf
    have hd : decide ((400 : Int) < (ls.length : Int)) = false := by simpa using hg
    by_cases hq : er = 0 ∧ 2000 < nn
    · obtain ⟨rfl, hq2⟩ := hq
      have hd2 : decide (2000 < nn) = true := by simpa using hq2
      go_enter Try.func5, Try.ntmps5
      have hBB : Below w.heap.size w w := Below.refl _ _
      go_wp2_with fail
      refine (C25 _).mono ?_
      rintro e w' ⟨rfl, rfl⟩
      go_wp2_with fail
      refine (C26 _ h h').mono ?_
      rintro e w1 ⟨rfl, hB⟩
      have h := h.step hB
      have h' := h'.step hB
      have hBB := hBB.trans (hB.mono hBB.size)
      go_wp2_with fail
      refine (cut_any _).mono ?_
      rintro e w2 ⟨rfl, hB⟩
      have h := h.step hB
      have h' := h'.step hB
      have hBB := hBB.trans (hB.mono hBB.size)
      go_wp2
      go_ret
      exact ⟨rfl, hBB⟩
    · by_cases he : er = 0
      · subst he
        have hd2 : decide (2000 < nn) = false := by simp; omega
        go_enter Try.func5, Try.ntmps5
        have hBB : Below w.heap.size w w := Below.refl _ _
        go_wp2_with fail
        refine (C25 _).mono ?_
        rintro e w' ⟨rfl, rfl⟩
        go_wp2_with fail
        refine (C26 _ h h').mono ?_
        rintro e w1 ⟨rfl, hB⟩
        have h := h.step hB
        have h' := h'.step hB
        have hBB := hBB.trans (hB.mono hBB.size)
        go_wp2_with fail
        refine (C27 _ h h').mono ?_
        rintro e w2 ⟨rfl, hB⟩
        have h := h.step hB
        have h' := h'.step hB
        have hBB := hBB.trans (hB.mono hBB.size)
        go_wp2_with fail
        refine (C26 _ h h').mono ?_
        rintro e w3 ⟨rfl, hB⟩
        have h := h.step hB
        have h' := h'.step hB
        have hBB := hBB.trans (hB.mono hBB.size)
        go_wp2_with fail
        refine (C28 _ h h').mono ?_
        rintro e w4 ⟨rfl, hB⟩
        have h := h.step hB
        have h' := h'.step hB
        have hBB := hBB.trans (hB.mono hBB.size)
        go_wp2_with fail
        refine (C29 _ h h').mono ?_
        rintro e w5 ⟨rfl, hB⟩
        have h := h.step hB
        have h' := h'.step hB
        have hBB := hBB.trans (hB.mono hBB.size)
        go_wp2_with fail
        refine (C30 _ h h').mono ?_
        rintro e w6 ⟨Aha, cha, rfl, hcha, ha, hB⟩
        have h := h.step hB
        have h' := h'.step hB
        have hBB := hBB.trans (hB.mono hBB.size)
        go_wp2_with fail
        refine (C31 _ h h').mono ?_
        rintro e w7 ⟨Ahb, chb, rfl, hchb, hb, hB⟩
        have h := h.step hB
        have h' := h'.step hB
        have ha := ha.step hB
        have hBB := hBB.trans (hB.mono hBB.size)
        go_wp2_with fail
        refine (same_self _ _ _ _ _ _ ha hb l0).mono ?_
        rintro e w8 ⟨rfl, hB⟩
        have h := h.step hB
        have h' := h'.step hB
        have ha := ha.step hB
        have hb := hb.step hB
        have hBB := hBB.trans (hB.mono hBB.size)
        clear ha hb
        go_wp2_with fail
        refine (C33 _ h h').mono ?_
        rintro e w9 ⟨Ahc, chc, rfl, hchc, hc, hB⟩
        have h := h.step hB
        have h' := h'.step hB
        have hBB := hBB.trans (hB.mono hBB.size)
        go_wp2_with fail
        refine (C34 _ h h').mono ?_
        rintro e w10 ⟨Ahd, chd, rfl, hchd, hd, hB⟩
        have h := h.step hB
        have h' := h'.step hB
        have hc := hc.step hB
        have hBB := hBB.trans (hB.mono hBB.size)
        go_wp2_with fail
        refine (C35 _ h h').mono ?_
        rintro e w11 ⟨Ahx, chx, Ahy, chy, rfl, hchx, hchy, hx, hy, hB⟩
        have h := h.step hB
        have h' := h'.step hB
        have hc := hc.step hB
        have hd := hd.step hB
        have hBB := hBB.trans (hB.mono hBB.size)
        go_wp2_with fail
        refine (C36 _ h h').mono ?_
        rintro e w12 ⟨Ahz, chz, Ahv, chv, rfl, hchz, hchv, hz, hv, hB⟩
        have h := h.step hB
        have h' := h'.step hB
        have hc := hc.step hB
        have hd := hd.step hB
        have hx := hx.step hB
        have hy := hy.step hB
        have hBB := hBB.trans (hB.mono hBB.size)
        go_wp2_with fail
        refine (eq_self _ _ _ _ _ _ hc hd l1).mono ?_
        rintro e w13 ⟨rfl, hB⟩
        have h := h.step hB
        have h' := h'.step hB
        have hc := hc.step hB
        have hd := hd.step hB
        have hx := hx.step hB
        have hy := hy.step hB
        have hz := hz.step hB
        have hv := hv.step hB
        have hBB := hBB.trans (hB.mono hBB.size)
        go_wp2_with fail
        refine (eq_self _ _ _ _ _ _ hx hz l2).mono ?_
        rintro e w14 ⟨rfl, hB⟩
        have h := h.step hB
        have h' := h'.step hB
        have hc := hc.step hB
        have hd := hd.step hB
        have hx := hx.step hB
        have hy := hy.step hB
        have hz := hz.step hB
        have hv := hv.step hB
        have hBB := hBB.trans (hB.mono hBB.size)
        go_wp2_with fail
        refine (eq_self _ _ _ _ _ _ hy hv l3).mono ?_
        rintro e w15 ⟨rfl, hB⟩
        have h := h.step hB
        have h' := h'.step hB
        have hc := hc.step hB
        have hd := hd.step hB
        have hx := hx.step hB
        have hy := hy.step hB
        have hz := hz.step hB
        have hv := hv.step hB
        have hBB := hBB.trans (hB.mono hBB.size)
        go_wp2_with fail
        refine (cut_any _).mono ?_
        rintro e w16 ⟨rfl, hB⟩
        have h := h.step hB
        have h' := h'.step hB
        have hc := hc.step hB
        have hd := hd.step hB
        have hx := hx.step hB
        have hy := hy.step hB
        have hz := hz.step hB
        have hv := hv.step hB
        have hBB := hBB.trans (hB.mono hBB.size)
        go_wp2
        go_ret
        exact ⟨rfl, hBB⟩
      · have hd2 : (er == 0) = false := by rw [beq_eq_false_iff_ne]; exact he
        go_enter Try.func5, Try.ntmps5
        have hBB : Below w.heap.size w w := Below.refl _ _
        go_wp2_with fail
        refine (C25 _).mono ?_
        rintro e w' ⟨rfl, rfl⟩
        go_wp2_with fail
        refine (C26 _ h h').mono ?_
        rintro e w1 ⟨rfl, hB⟩
        have h := h.step hB
        have h' := h'.step hB
        have hBB := hBB.trans (hB.mono hBB.size)
        go_wp2_with fail
        refine (C27 _ h h').mono ?_
        rintro e w2 ⟨rfl, hB⟩
        have h := h.step hB
        have h' := h'.step hB
        have hBB := hBB.trans (hB.mono hBB.size)
        go_wp2_with fail
        refine (C26 _ h h').mono ?_
        rintro e w3 ⟨rfl, hB⟩
        have h := h.step hB
        have h' := h'.step hB
        have hBB := hBB.trans (hB.mono hBB.size)
        go_wp2_with fail
        refine (C28 _ h h').mono ?_
        rintro e w4 ⟨rfl, hB⟩
        have h := h.step hB
        have h' := h'.step hB
        have hBB := hBB.trans (hB.mono hBB.size)
        go_wp2_with fail
        refine (C29 _ h h').mono ?_
        rintro e w5 ⟨rfl, hB⟩
        have h := h.step hB
        have h' := h'.step hB
        have hBB := hBB.trans (hB.mono hBB.size)
        go_wp2_with fail
        refine (C30 _ h h').mono ?_
        rintro e w6 ⟨Aha, cha, rfl, hcha, ha, hB⟩
        have h := h.step hB
        have h' := h'.step hB
        have hBB := hBB.trans (hB.mono hBB.size)
        go_wp2_with fail
        refine (C31 _ h h').mono ?_
        rintro e w7 ⟨Ahb, chb, rfl, hchb, hb, hB⟩
        have h := h.step hB
        have h' := h'.step hB
        have ha := ha.step hB
        have hBB := hBB.trans (hB.mono hBB.size)
        go_wp2_with fail
        refine (same_self _ _ _ _ _ _ ha hb l0).mono ?_
        rintro e w8 ⟨rfl, hB⟩
        have h := h.step hB
        have h' := h'.step hB
        have ha := ha.step hB
        have hb := hb.step hB
        have hBB := hBB.trans (hB.mono hBB.size)
        clear ha hb
        go_wp2_with fail
        refine (C33 _ h h').mono ?_
        rintro e w9 ⟨Ahc, chc, rfl, hchc, hc, hB⟩
        have h := h.step hB
        have h' := h'.step hB
        have hBB := hBB.trans (hB.mono hBB.size)
        go_wp2_with fail
        refine (C34 _ h h').mono ?_
        rintro e w10 ⟨Ahd, chd, rfl, hchd, hd, hB⟩
        have h := h.step hB
        have h' := h'.step hB
        have hc := hc.step hB
        have hBB := hBB.trans (hB.mono hBB.size)
        go_wp2_with fail
        refine (C35 _ h h').mono ?_
        rintro e w11 ⟨Ahx, chx, Ahy, chy, rfl, hchx, hchy, hx, hy, hB⟩
        have h := h.step hB
        have h' := h'.step hB
        have hc := hc.step hB
        have hd := hd.step hB
        have hBB := hBB.trans (hB.mono hBB.size)
        go_wp2_with fail
        refine (C36 _ h h').mono ?_
        rintro e w12 ⟨Ahz, chz, Ahv, chv, rfl, hchz, hchv, hz, hv, hB⟩
        have h := h.step hB
        have h' := h'.step hB
        have hc := hc.step hB
        have hd := hd.step hB
        have hx := hx.step hB
        have hy := hy.step hB
        have hBB := hBB.trans (hB.mono hBB.size)
        go_wp2_with fail
        refine (eq_self _ _ _ _ _ _ hc hd l1).mono ?_
        rintro e w13 ⟨rfl, hB⟩
        have h := h.step hB
        have h' := h'.step hB
        have hc := hc.step hB
        have hd := hd.step hB
        have hx := hx.step hB
        have hy := hy.step hB
        have hz := hz.step hB
        have hv := hv.step hB
        have hBB := hBB.trans (hB.mono hBB.size)
        go_wp2_with fail
        refine (eq_self _ _ _ _ _ _ hx hz l2).mono ?_
        rintro e w14 ⟨rfl, hB⟩
        have h := h.step hB
        have h' := h'.step hB
        have hc := hc.step hB
        have hd := hd.step hB
        have hx := hx.step hB
        have hy := hy.step hB
        have hz := hz.step hB
        have hv := hv.step hB
        have hBB := hBB.trans (hB.mono hBB.size)
        go_wp2_with fail
        refine (eq_self _ _ _ _ _ _ hy hv l3).mono ?_
        rintro e w15 ⟨rfl, hB⟩
        have h := h.step hB
        have h' := h'.step hB
        have hc := hc.step hB
        have hd := hd.step hB
        have hx := hx.step hB
        have hy := hy.step hB
        have hz := hz.step hB
        have hv := hv.step hB
        have hBB := hBB.trans (hB.mono hBB.size)
        go_wp2_with fail
        refine (cut_any _).mono ?_
        rintro e w16 ⟨rfl, hB⟩
        have h := h.step hB
        have h' := h'.step hB
        have hc := hc.step hB
        have hd := hd.step hB
        have hx := hx.step hB
        have hy := hy.step hB
        have hz := hz.step hB
        have hv := hv.step hB
        have hBB := hBB.trans (hB.mono hBB.size)
        go_wp2
        go_ret
        exact ⟨rfl, hBB⟩
end Go.Proofs.Ytcbkocjpkdcpfaa
