/- SegNests: its walk. -/
import Derived.Test.YtcbkocjpkdcpfaaVa
namespace Go.Proofs.Ytcbkocjpkdcpfaa
set_option linter.unusedVariables false
open Go.RowKit Go.Shelf
set_option maxRecDepth 100000 in
set_option maxHeartbeats 40000000 in
theorem law4 (A A' : Option Addr) (c c' : Nat) (zs ys : List Int) (most : Int) (w : World) (h : Sl w A zs) (h' : Sl w A' ys) (hl : zs.length ≤ 9223372036854775807) (hl' : ys.length ≤ 9223372036854775807) (hc' : ys.length ≤ c') (hc2 : c' ≤ 9223372036854775807) :
    Calls Try.prog 4 #[.slice A zs.length c, .slice A' ys.length c', .int .i64 most] w (Good w) := by
  have C10 := great_any A c zs w h hl
  have D10 := great_any A' c' ys w h' hl'
  have C21 := fun W h h' => nest_any A A' c c' zs ys W h h' hl hl' hc' hc2
  have C22 := fun W h h' => rnest_any A A' c c' zs ys W h h' hl hl' hc' hc2
  have C23 := fun W h => split_any A' c' ys most W h hl'
  have C24 := fun W h => rsplit_any A' c' ys most W h hl'
  have l1 := len_ns (zs := zs) (ys := ys)
  have l2 := len_spP (zs := ys) (m := most)
  have l3 := len_spO (zs := ys) (m := most)
  obtain ⟨g, hg⟩ : ∃ g, decide ((ckE zs = 0 ∧ 2000 < ckN zs) ∨ 2000 < zs.length) = g := ⟨_, rfl⟩
  obtain ⟨g', hg'⟩ : ∃ g, decide ((ckE ys = 0 ∧ 2000 < ckN ys) ∨ 2000 < ys.length) = g := ⟨_, rfl⟩
  rw [hg] at C10
  rw [hg'] at D10
  clear hg hg'
  obtain ⟨z1, hz1⟩ : ∃ z, orL (nsE zs ys) (nsL zs ys) = z := ⟨_, rfl⟩
  obtain ⟨z2, hz2⟩ : ∃ z, orL (spE ys most) (spP ys most.toNat) = z := ⟨_, rfl⟩
  obtain ⟨z3, hz3⟩ : ∃ z, orL (spE ys most) (spO ys most.toNat) = z := ⟨_, rfl⟩
  rw [hz1] at C21 C22 l1
  rw [hz2, hz3] at C23 C24
  rw [hz2] at l2
  rw [hz3] at l3
  obtain ⟨er, her⟩ : ∃ er, nsE zs ys = er := ⟨_, rfl⟩
  obtain ⟨er2, her2⟩ : ∃ er, spE ys most = er := ⟨_, rfl⟩
  rw [her] at C21 C22
  rw [her2] at C23 C24
  clear hz1 hz2 hz3 her her2
  cases g with
  | true =>
    go_enter Try.func4, Try.ntmps4
    go_wp2_with fail
    refine C10.mono ?_
    rintro e w' ⟨rfl, rfl⟩
    go_wp2_with fail
    refine (cut_any _).mono ?_
    rintro e w1 ⟨rfl, hB⟩
    go_wp2
    go_ret
    exact ⟨rfl, hB⟩
  | false =>
    cases g' with
    | true =>
      go_enter Try.func4, Try.ntmps4
      go_wp2_with fail
      refine C10.mono ?_
      rintro e w' ⟨rfl, rfl⟩
      go_wp2_with fail
      refine D10.mono ?_
      rintro e w' ⟨rfl, rfl⟩
      go_wp2_with fail
      refine (cut_any _).mono ?_
      rintro e w1 ⟨rfl, hB⟩
      go_wp2
      go_ret
      exact ⟨rfl, hB⟩
    | false =>
      go_enter Try.func4, Try.ntmps4
      have hBB : Below w.heap.size w w := Below.refl _ _
      go_wp2_with fail
      refine (C10).mono ?_
      rintro e w' ⟨rfl, rfl⟩
      go_wp2_with fail
      refine (D10).mono ?_
      rintro e w' ⟨rfl, rfl⟩
      go_wp2_with fail
      refine (C21 _ h h').mono ?_
      rintro e w1 ⟨Aha, cha, rfl, hcha, ha, hB⟩
      have h := h.step hB
      have h' := h'.step hB
      have hBB := hBB.trans (hB.mono hBB.size)
      go_wp2_with fail
      refine (C22 _ h h').mono ?_
      rintro e w2 ⟨Ahb, chb, rfl, hchb, hb, hB⟩
      have h := h.step hB
      have h' := h'.step hB
      have ha := ha.step hB
      have hBB := hBB.trans (hB.mono hBB.size)
      go_wp2_with fail
      refine (C23 _ h').mono ?_
      rintro e w3 ⟨Ahc, chc, Ahd, chd, rfl, hchc, hchd, hc, hd, hB⟩
      have h := h.step hB
      have h' := h'.step hB
      have ha := ha.step hB
      have hb := hb.step hB
      have hBB := hBB.trans (hB.mono hBB.size)
      go_wp2_with fail
      refine (C24 _ h').mono ?_
      rintro e w4 ⟨Ahk, chk, Ahm, chm, rfl, hchk, hchm, hk, hm, hB⟩
      have h := h.step hB
      have h' := h'.step hB
      have ha := ha.step hB
      have hb := hb.step hB
      have hc := hc.step hB
      have hd := hd.step hB
      have hBB := hBB.trans (hB.mono hBB.size)
      go_wp2_with fail
      refine (eq_self _ _ _ _ _ _ ha hb l1).mono ?_
      rintro e w5 ⟨rfl, hB⟩
      have h := h.step hB
      have h' := h'.step hB
      have ha := ha.step hB
      have hb := hb.step hB
      have hc := hc.step hB
      have hd := hd.step hB
      have hk := hk.step hB
      have hm := hm.step hB
      have hBB := hBB.trans (hB.mono hBB.size)
      go_wp2_with fail
      refine (eq_self _ _ _ _ _ _ hc hk l2).mono ?_
      rintro e w6 ⟨rfl, hB⟩
      have h := h.step hB
      have h' := h'.step hB
      have ha := ha.step hB
      have hb := hb.step hB
      have hc := hc.step hB
      have hd := hd.step hB
      have hk := hk.step hB
      have hm := hm.step hB
      have hBB := hBB.trans (hB.mono hBB.size)
      go_wp2_with fail
      refine (eq_self _ _ _ _ _ _ hd hm l3).mono ?_
      rintro e w7 ⟨rfl, hB⟩
      have h := h.step hB
      have h' := h'.step hB
      have ha := ha.step hB
      have hb := hb.step hB
      have hc := hc.step hB
      have hd := hd.step hB
      have hk := hk.step hB
      have hm := hm.step hB
      have hBB := hBB.trans (hB.mono hBB.size)
      go_wp2_with fail
      refine (cut_any _).mono ?_
      rintro e w8 ⟨rfl, hB⟩
      have h := h.step hB
      have h' := h'.step hB
      have ha := ha.step hB
      have hb := hb.step hB
      have hc := hc.step hB
      have hd := hd.step hB
      have hk := hk.step hB
      have hm := hm.step hB
      have hBB := hBB.trans (hB.mono hBB.size)
      go_wp2
      go_ret
      exact ⟨rfl, hBB⟩
end Go.Proofs.Ytcbkocjpkdcpfaa
