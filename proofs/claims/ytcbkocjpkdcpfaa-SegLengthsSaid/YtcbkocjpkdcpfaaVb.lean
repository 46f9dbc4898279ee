/- SegLengths: its walk. -/
import Derived.Test.YtcbkocjpkdcpfaaVa
namespace Go.Proofs.Ytcbkocjpkdcpfaa
set_option linter.unusedVariables false
open Go.RowKit Go.Shelf
set_option maxRecDepth 100000 in
set_option maxHeartbeats 40000000 in
theorem law3 (A : Option Addr) (c : Nat) (zs : List Int) (w : World) (h : Sl w A zs) (hl : zs.length ≤ 9223372036854775807) :
    Calls Try.prog 3 #[.slice A zs.length c] w (Good w) := by
  have C10 := great_any A c zs w h hl
  have C12 := fun W h => check_any A c zs W h hl
  have C13 := fun W h => rcheck_any A c zs W h hl
  have C14 := fun W h => starts_any A c zs W h hl
  have C15 := fun W h => rstarts_any A c zs W h hl
  have C16 := fun W h => heads_any A c zs W h hl
  have C17 := fun W h => rheads_any A c zs W h hl
  have C18 := fun W h => owners_any A c zs W h hl
  have C19 := fun W h => rowners_any A c zs W h hl
  have l1 := len_st (zs := zs)
  have l2 := len_hd (zs := zs)
  have l3 := len_ow (zs := zs)
  obtain ⟨g, hg⟩ : ∃ g, decide ((ckE zs = 0 ∧ 2000 < ckN zs) ∨ 2000 < zs.length) = g := ⟨_, rfl⟩
  rw [hg] at C10
  clear hg
  obtain ⟨z1, hz1⟩ : ∃ z, orL (ckE zs) (stL zs) = z := ⟨_, rfl⟩
  obtain ⟨z2, hz2⟩ : ∃ z, orL (ckE zs) (hdL zs) = z := ⟨_, rfl⟩
  obtain ⟨z3, hz3⟩ : ∃ z, orL (ckE zs) (owL zs) = z := ⟨_, rfl⟩
  rw [hz1] at C14 C15 l1
  rw [hz2] at C16 C17 l2
  rw [hz3] at C18 C19 l3
  obtain ⟨er, her⟩ : ∃ er, ckE zs = er := ⟨_, rfl⟩
  obtain ⟨nn, hnn⟩ : ∃ nn, ckN zs = nn := ⟨_, rfl⟩
  rw [her, hnn] at C12 C13
  rw [her] at C14 C15 C16 C17 C18 C19
  clear hz1 hz2 hz3 her hnn
  cases g with
  | true =>
    go_enter Try.func3, Try.ntmps3
    go_wp2_with fail
    refine C10.mono ?_
    rintro e w' ⟨rfl, rfl⟩
    go_wp2_with fail
    refine (cut_any _).mono ?_
    rintro e w1 ⟨rfl, hB⟩
    go_wp2
    go_ret
    exact ⟨rfl, hB⟩
  | false =>
    go_enter Try.func3, Try.ntmps3
    have hBB : Below w.heap.size w w := Below.refl _ _
    go_wp2_with fail
    refine (C10).mono ?_
    rintro e w' ⟨rfl, rfl⟩
    go_wp2_with fail
    refine (C12 _ h).mono ?_
    rintro e w1 ⟨rfl, hB⟩
    have h := h.step hB
    have hBB := hBB.trans (hB.mono hBB.size)
    go_wp2_with fail
    refine (C13 _ h).mono ?_
    rintro e w' ⟨rfl, rfl⟩
    go_wp2_with fail
    refine (C14 _ h).mono ?_
    rintro e w2 ⟨Aha, cha, rfl, hcha, ha, hB⟩
    have h := h.step hB
    have hBB := hBB.trans (hB.mono hBB.size)
    go_wp2_with fail
    refine (C15 _ h).mono ?_
    rintro e w3 ⟨Ahb, chb, rfl, hchb, hb, hB⟩
    have h := h.step hB
    have ha := ha.step hB
    have hBB := hBB.trans (hB.mono hBB.size)
    go_wp2_with fail
    refine (C16 _ h).mono ?_
    rintro e w4 ⟨Ahc, chc, rfl, hchc, hc, hB⟩
    have h := h.step hB
    have ha := ha.step hB
    have hb := hb.step hB
    have hBB := hBB.trans (hB.mono hBB.size)
    go_wp2_with fail
    refine (C17 _ h).mono ?_
    rintro e w5 ⟨Ahd, chd, rfl, hchd, hd, hB⟩
    have h := h.step hB
    have ha := ha.step hB
    have hb := hb.step hB
    have hc := hc.step hB
    have hBB := hBB.trans (hB.mono hBB.size)
    go_wp2_with fail
    refine (C18 _ h).mono ?_
    rintro e w6 ⟨Ahk, chk, rfl, hchk, hk, hB⟩
    have h := h.step hB
    have ha := ha.step hB
    have hb := hb.step hB
    have hc := hc.step hB
    have hd := hd.step hB
    have hBB := hBB.trans (hB.mono hBB.size)
    go_wp2_with fail
    refine (C19 _ h).mono ?_
    rintro e w7 ⟨Ahm, chm, rfl, hchm, hm, hB⟩
    have h := h.step hB
    have ha := ha.step hB
    have hb := hb.step hB
    have hc := hc.step hB
    have hd := hd.step hB
    have hk := hk.step hB
    have hBB := hBB.trans (hB.mono hBB.size)
    go_wp2_with fail
    refine (eq_self _ _ _ _ _ _ ha hb l1).mono ?_
    rintro e w8 ⟨rfl, hB⟩
    have h := h.step hB
    have ha := ha.step hB
    have hb := hb.step hB
    have hc := hc.step hB
    have hd := hd.step hB
    have hk := hk.step hB
    have hm := hm.step hB
    have hBB := hBB.trans (hB.mono hBB.size)
    go_wp2_with fail
    refine (eq_self _ _ _ _ _ _ hc hd l2).mono ?_
    rintro e w9 ⟨rfl, hB⟩
    have h := h.step hB
    have ha := ha.step hB
    have hb := hb.step hB
    have hc := hc.step hB
    have hd := hd.step hB
    have hk := hk.step hB
    have hm := hm.step hB
    have hBB := hBB.trans (hB.mono hBB.size)
    go_wp2_with fail
    refine (eq_self _ _ _ _ _ _ hk hm l3).mono ?_
    rintro e w10 ⟨rfl, hB⟩
    have h := h.step hB
    have ha := ha.step hB
    have hb := hb.step hB
    have hc := hc.step hB
    have hd := hd.step hB
    have hk := hk.step hB
    have hm := hm.step hB
    have hBB := hBB.trans (hB.mono hBB.size)
    go_wp2_with fail
    refine (cut_any _).mono ?_
    rintro e w11 ⟨rfl, hB⟩
    have h := h.step hB
    have ha := ha.step hB
    have hb := hb.step hB
    have hc := hc.step hB
    have hd := hd.step hB
    have hk := hk.step hB
    have hm := hm.step hB
    have hBB := hBB.trans (hB.mono hBB.size)
    go_wp2
    go_ret
    exact ⟨rfl, hBB⟩
end Go.Proofs.Ytcbkocjpkdcpfaa
