/- The chapter's examples: cut returns true. -/
import Derived.Test.YtcbkocjpkdcpfaaUa
namespace Go.Proofs.Ytcbkocjpkdcpfaa
set_option linter.unusedVariables false
open Go.RowKit Go.Shelf
set_option maxRecDepth 100000 in
set_option maxHeartbeats 40000000 in
theorem cut_any (w : World) : Calls Try.prog 11 #[] w fun e w' => e = .returned (.bool true) ∧ Below w.heap.size w w' := by
  go_enter Try.func11, Try.ntmps11
  have hBB : Below w.heap.size w w := Below.refl _ _
  have hl := Sl.lit w [2, 0, 3]
  have hBB := hBB.alloc hBB.size (.cells #[.int .i64 2, .int .i64 0, .int .i64 3] 3)
  go_wp2_with fail
  refine (k14 _ _ _ hl).mono ?_
  rintro e w1 ⟨Aha, cha, rfl, hcha, ha, hB⟩
  have hl := hl.step hB
  have hBB := hBB.trans (hB.mono hBB.size)
  go_wp2_with fail
  refine (k16 _ _ _ hl).mono ?_
  rintro e w2 ⟨Ahb, chb, rfl, hchb, hb, hB⟩
  have hl := hl.step hB
  have ha := ha.step hB
  have hBB := hBB.trans (hB.mono hBB.size)
  go_wp2_with fail
  refine (k18 _ _ _ hl).mono ?_
  rintro e w3 ⟨Ahc, chc, rfl, hchc, hc, hB⟩
  have hl := hl.step hB
  have ha := ha.step hB
  have hb := hb.step hB
  have hBB := hBB.trans (hB.mono hBB.size)
  go_wp2_with fail
  have hl := hl.al (.cells #[.int .i64 2, .int .i64 0, .int .i64 1] 3)
  have ha := ha.al (.cells #[.int .i64 2, .int .i64 0, .int .i64 1] 3)
  have hb := hb.al (.cells #[.int .i64 2, .int .i64 0, .int .i64 1] 3)
  have hc := hc.al (.cells #[.int .i64 2, .int .i64 0, .int .i64 1] 3)
  have ht := Sl.lit w3 [2, 0, 1]
  have hBB := hBB.alloc hBB.size (.cells #[.int .i64 2, .int .i64 0, .int .i64 1] 3)
  refine (k21 _ _ _ _ ht hl).mono ?_
  rintro e w4 ⟨Ahd, chd, rfl, hchd, hd, hB⟩
  have hl := hl.step hB
  have ha := ha.step hB
  have hb := hb.step hB
  have hc := hc.step hB
  have ht := ht.step hB
  have hBB := hBB.trans (hB.mono hBB.size)
  clear ht
  go_wp2_with fail
  have hl := hl.al (.cells #[.int .i64 5, .int .i64 0, .int .i64 2] 3)
  have ha := ha.al (.cells #[.int .i64 5, .int .i64 0, .int .i64 2] 3)
  have hb := hb.al (.cells #[.int .i64 5, .int .i64 0, .int .i64 2] 3)
  have hc := hc.al (.cells #[.int .i64 5, .int .i64 0, .int .i64 2] 3)
  have hd := hd.al (.cells #[.int .i64 5, .int .i64 0, .int .i64 2] 3)
  have ht := Sl.lit w4 [5, 0, 2]
  have hBB := hBB.alloc hBB.size (.cells #[.int .i64 5, .int .i64 0, .int .i64 2] 3)
  refine (k23 _ _ _ ht).mono ?_
  rintro e w5 ⟨Ahx, chx, Ahy, chy, rfl, hchx, hchy, hx, hy, hB⟩
  have hl := hl.step hB
  have ha := ha.step hB
  have hb := hb.step hB
  have hc := hc.step hB
  have hd := hd.step hB
  have ht := ht.step hB
  have hBB := hBB.trans (hB.mono hBB.size)
  clear ht
  go_wp2_with fail
  have hl := hl.al (.cells #[.int .i64 0, .int .i64 2, .int .i64 2] 3)
  have ha := ha.al (.cells #[.int .i64 0, .int .i64 2, .int .i64 2] 3)
  have hb := hb.al (.cells #[.int .i64 0, .int .i64 2, .int .i64 2] 3)
  have hc := hc.al (.cells #[.int .i64 0, .int .i64 2, .int .i64 2] 3)
  have hd := hd.al (.cells #[.int .i64 0, .int .i64 2, .int .i64 2] 3)
  have hx := hx.al (.cells #[.int .i64 0, .int .i64 2, .int .i64 2] 3)
  have hy := hy.al (.cells #[.int .i64 0, .int .i64 2, .int .i64 2] 3)
  have hz := Sl.lit w5 [0, 2, 2]
  have hBB := hBB.alloc hBB.size (.cells #[.int .i64 0, .int .i64 2, .int .i64 2] 3)
  refine (eq_lit _ _ _ _ 3 [0, 2, 2] _ rfl ha hz (by decide)).mono ?_
  clear hz
  rintro e w6 ⟨rfl, hB⟩
  have hl := hl.step hB
  have ha := ha.step hB
  have hb := hb.step hB
  have hc := hc.step hB
  have hd := hd.step hB
  have hx := hx.step hB
  have hy := hy.step hB
  have hBB := hBB.trans (hB.mono hBB.size)
  clear ha
  go_wp2_with fail
  have hl := hl.al (.cells #[.int .i64 1, .int .i64 0, .int .i64 2, .int .i64 0, .int .i64 0, .int .i64 0] 3)
  have hb := hb.al (.cells #[.int .i64 1, .int .i64 0, .int .i64 2, .int .i64 0, .int .i64 0, .int .i64 0] 3)
  have hc := hc.al (.cells #[.int .i64 1, .int .i64 0, .int .i64 2, .int .i64 0, .int .i64 0, .int .i64 0] 3)
  have hd := hd.al (.cells #[.int .i64 1, .int .i64 0, .int .i64 2, .int .i64 0, .int .i64 0, .int .i64 0] 3)
  have hx := hx.al (.cells #[.int .i64 1, .int .i64 0, .int .i64 2, .int .i64 0, .int .i64 0, .int .i64 0] 3)
  have hy := hy.al (.cells #[.int .i64 1, .int .i64 0, .int .i64 2, .int .i64 0, .int .i64 0, .int .i64 0] 3)
  have hz := Sl.lit w6 [1, 0, 2, 0, 0, 0]
  have hBB := hBB.alloc hBB.size (.cells #[.int .i64 1, .int .i64 0, .int .i64 2, .int .i64 0, .int .i64 0, .int .i64 0] 3)
  refine (eq_lit _ _ _ _ 6 [1, 0, 2, 0, 0, 0] _ rfl hb hz (by decide)).mono ?_
  clear hz
  rintro e w7 ⟨rfl, hB⟩
  have hl := hl.step hB
  have hb := hb.step hB
  have hc := hc.step hB
  have hd := hd.step hB
  have hx := hx.step hB
  have hy := hy.step hB
  have hBB := hBB.trans (hB.mono hBB.size)
  clear hb
  go_wp2_with fail
  have hl := hl.al (.cells #[.int .i64 0, .int .i64 0, .int .i64 2, .int .i64 2, .int .i64 2] 3)
  have hc := hc.al (.cells #[.int .i64 0, .int .i64 0, .int .i64 2, .int .i64 2, .int .i64 2] 3)
  have hd := hd.al (.cells #[.int .i64 0, .int .i64 0, .int .i64 2, .int .i64 2, .int .i64 2] 3)
  have hx := hx.al (.cells #[.int .i64 0, .int .i64 0, .int .i64 2, .int .i64 2, .int .i64 2] 3)
  have hy := hy.al (.cells #[.int .i64 0, .int .i64 0, .int .i64 2, .int .i64 2, .int .i64 2] 3)
  have hz := Sl.lit w7 [0, 0, 2, 2, 2]
  have hBB := hBB.alloc hBB.size (.cells #[.int .i64 0, .int .i64 0, .int .i64 2, .int .i64 2, .int .i64 2] 3)
  refine (eq_lit _ _ _ _ 5 [0, 0, 2, 2, 2] _ rfl hc hz (by decide)).mono ?_
  clear hz
  rintro e w8 ⟨rfl, hB⟩
  have hl := hl.step hB
  have hc := hc.step hB
  have hd := hd.step hB
  have hx := hx.step hB
  have hy := hy.step hB
  have hBB := hBB.trans (hB.mono hBB.size)
  clear hc
  go_wp2_with fail
  have hl := hl.al (.cells #[.int .i64 2, .int .i64 0, .int .i64 3] 3)
  have hd := hd.al (.cells #[.int .i64 2, .int .i64 0, .int .i64 3] 3)
  have hx := hx.al (.cells #[.int .i64 2, .int .i64 0, .int .i64 3] 3)
  have hy := hy.al (.cells #[.int .i64 2, .int .i64 0, .int .i64 3] 3)
  have hz := Sl.lit w8 [2, 0, 3]
  have hBB := hBB.alloc hBB.size (.cells #[.int .i64 2, .int .i64 0, .int .i64 3] 3)
  refine (eq_lit _ _ _ _ 3 [2, 0, 3] _ rfl hd hz (by decide)).mono ?_
  clear hz
  rintro e w9 ⟨rfl, hB⟩
  have hl := hl.step hB
  have hd := hd.step hB
  have hx := hx.step hB
  have hy := hy.step hB
  have hBB := hBB.trans (hB.mono hBB.size)
  clear hd
  go_wp2_with fail
  have hl := hl.al (.cells #[.int .i64 2, .int .i64 2, .int .i64 1, .int .i64 2] 3)
  have hx := hx.al (.cells #[.int .i64 2, .int .i64 2, .int .i64 1, .int .i64 2] 3)
  have hy := hy.al (.cells #[.int .i64 2, .int .i64 2, .int .i64 1, .int .i64 2] 3)
  have hz := Sl.lit w9 [2, 2, 1, 2]
  have hBB := hBB.alloc hBB.size (.cells #[.int .i64 2, .int .i64 2, .int .i64 1, .int .i64 2] 3)
  refine (eq_lit _ _ _ _ 4 [2, 2, 1, 2] _ rfl hx hz (by decide)).mono ?_
  clear hz
  rintro e w10 ⟨rfl, hB⟩
  have hl := hl.step hB
  have hx := hx.step hB
  have hy := hy.step hB
  have hBB := hBB.trans (hB.mono hBB.size)
  clear hx
  go_wp2_with fail
  have hl := hl.al (.cells #[.int .i64 3, .int .i64 0, .int .i64 1] 3)
  have hy := hy.al (.cells #[.int .i64 3, .int .i64 0, .int .i64 1] 3)
  have hz := Sl.lit w10 [3, 0, 1]
  have hBB := hBB.alloc hBB.size (.cells #[.int .i64 3, .int .i64 0, .int .i64 1] 3)
  refine (eq_lit _ _ _ _ 3 [3, 0, 1] _ rfl hy hz (by decide)).mono ?_
  clear hz
  rintro e w11 ⟨rfl, hB⟩
  have hl := hl.step hB
  have hy := hy.step hB
  have hBB := hBB.trans (hB.mono hBB.size)
  clear hy
  go_wp2_with fail
  have hl := hl.al (.cells #[.int .i64 1, .int .i64 3, .int .i64 0] 3)
  have hs := Sl.lit w11 [1, 3, 0]
  have hBB := hBB.alloc hBB.size (.cells #[.int .i64 1, .int .i64 3, .int .i64 0] 3)
  have hl := hl.al (.cells #[.int .i64 3, .int .i64 2, .int .i64 0] 3)
  have hs := hs.al (.cells #[.int .i64 3, .int .i64 2, .int .i64 0] 3)
  have hn := Sl.lit (w11.alloc (.cells #[.int .i64 1, .int .i64 3, .int .i64 0] 3)) [3, 2, 0]
  rw [World.size_alloc] at hn
  have hBB := hBB.alloc hBB.size (.cells #[.int .i64 3, .int .i64 2, .int .i64 0] 3)
  refine (k28 _ _ _ _ _ hs hn).mono ?_
  rintro e w12 ⟨rfl, hB⟩
  have hl := hl.step hB
  have hs := hs.step hB
  have hn := hn.step hB
  have hBB := hBB.trans (hB.mono hBB.size)
  go_wp2_with fail
  refine (k30 _ _ _ _ _ hs hn).mono ?_
  rintro e w13 ⟨Ahsp, chsp, rfl, hchsp, hsp, hB⟩
  have hl := hl.step hB
  have hs := hs.step hB
  have hn := hn.step hB
  have hBB := hBB.trans (hB.mono hBB.size)
  go_wp2_with fail
  refine (k33 _ _ _ _ _ hs hn).mono ?_
  rintro e w14 ⟨Ahp, chp, rfl, hchp, hp, hB⟩
  have hl := hl.step hB
  have hs := hs.step hB
  have hn := hn.step hB
  have hsp := hsp.step hB
  have hBB := hBB.trans (hB.mono hBB.size)
  go_wp2_with fail
  refine (k35 _ _ _ _ _ hs hn).mono ?_
  rintro e w15 ⟨Ahq, chq, Ahr, chr, rfl, hchq, hchr, hq, hr, hB⟩
  have hl := hl.step hB
  have hs := hs.step hB
  have hn := hn.step hB
  have hsp := hsp.step hB
  have hp := hp.step hB
  have hBB := hBB.trans (hB.mono hBB.size)
  go_wp2_with fail
  refine (k27 _ _ _ _ _ hs hn).mono ?_
  rintro e w16 ⟨rfl, hB⟩
  have hl := hl.step hB
  have hs := hs.step hB
  have hn := hn.step hB
  have hsp := hsp.step hB
  have hp := hp.step hB
  have hq := hq.step hB
  have hr := hr.step hB
  have hBB := hBB.trans (hB.mono hBB.size)
  clear hs hn
  go_wp2_with fail
  refine (k12 _ _ _ hl).mono ?_
  rintro e w17 ⟨rfl, hB⟩
  have hl := hl.step hB
  have hsp := hsp.step hB
  have hp := hp.step hB
  have hq := hq.step hB
  have hr := hr.step hB
  have hBB := hBB.trans (hB.mono hBB.size)
  go_wp2_with fail
  have hl := hl.al (.cells #[.int .i64 0, .int .i64 2, .int .i64 2] 3)
  have hsp := hsp.al (.cells #[.int .i64 0, .int .i64 2, .int .i64 2] 3)
  have hp := hp.al (.cells #[.int .i64 0, .int .i64 2, .int .i64 2] 3)
  have hq := hq.al (.cells #[.int .i64 0, .int .i64 2, .int .i64 2] 3)
  have hr := hr.al (.cells #[.int .i64 0, .int .i64 2, .int .i64 2] 3)
  have ht := Sl.lit w17 [0, 2, 2]
  have hBB := hBB.alloc hBB.size (.cells #[.int .i64 0, .int .i64 2, .int .i64 2] 3)
  refine (k39 _ _ _ ht).mono ?_
  rintro e w18 ⟨Ahu, chu, rfl, hchu, hu, hB⟩
  have hl := hl.step hB
  have hsp := hsp.step hB
  have hp := hp.step hB
  have hq := hq.step hB
  have hr := hr.step hB
  have ht := ht.step hB
  have hBB := hBB.trans (hB.mono hBB.size)
  clear ht
  go_wp2_with fail
  have hl := hl.al (.cells #[.int .i64 2, .int .i64 1] 3)
  have hsp := hsp.al (.cells #[.int .i64 2, .int .i64 1] 3)
  have hp := hp.al (.cells #[.int .i64 2, .int .i64 1] 3)
  have hq := hq.al (.cells #[.int .i64 2, .int .i64 1] 3)
  have hr := hr.al (.cells #[.int .i64 2, .int .i64 1] 3)
  have hu := hu.al (.cells #[.int .i64 2, .int .i64 1] 3)
  have ht := Sl.lit w18 [2, 1]
  have hBB := hBB.alloc hBB.size (.cells #[.int .i64 2, .int .i64 1] 3)
  refine (k40 _ _ _ ht).mono ?_
  rintro e w19 ⟨Ahv, chv, rfl, hchv, hv, hB⟩
  have hl := hl.step hB
  have hsp := hsp.step hB
  have hp := hp.step hB
  have hq := hq.step hB
  have hr := hr.step hB
  have hu := hu.step hB
  have ht := ht.step hB
  have hBB := hBB.trans (hB.mono hBB.size)
  clear ht
  go_wp2_with fail
  have hl := hl.al (.cells #[.int .i64 0, .int .i64 0, .int .i64 2] 3)
  have hsp := hsp.al (.cells #[.int .i64 0, .int .i64 0, .int .i64 2] 3)
  have hp := hp.al (.cells #[.int .i64 0, .int .i64 0, .int .i64 2] 3)
  have hq := hq.al (.cells #[.int .i64 0, .int .i64 0, .int .i64 2] 3)
  have hr := hr.al (.cells #[.int .i64 0, .int .i64 0, .int .i64 2] 3)
  have hu := hu.al (.cells #[.int .i64 0, .int .i64 0, .int .i64 2] 3)
  have hv := hv.al (.cells #[.int .i64 0, .int .i64 0, .int .i64 2] 3)
  have ht := Sl.lit w19 [0, 0, 2]
  have hBB := hBB.alloc hBB.size (.cells #[.int .i64 0, .int .i64 0, .int .i64 2] 3)
  refine (k41 _ _ _ ht).mono ?_
  rintro e w20 ⟨Ahw, chw, rfl, hchw, hw, hB⟩
  have hl := hl.step hB
  have hsp := hsp.step hB
  have hp := hp.step hB
  have hq := hq.step hB
  have hr := hr.step hB
  have hu := hu.step hB
  have hv := hv.step hB
  have ht := ht.step hB
  have hBB := hBB.trans (hB.mono hBB.size)
  clear ht
  go_wp2_with fail
  have hl := hl.al (.cells #[.int .i64 1, .int .i64 4] 52)
  have hsp := hsp.al (.cells #[.int .i64 1, .int .i64 4] 52)
  have hp := hp.al (.cells #[.int .i64 1, .int .i64 4] 52)
  have hq := hq.al (.cells #[.int .i64 1, .int .i64 4] 52)
  have hr := hr.al (.cells #[.int .i64 1, .int .i64 4] 52)
  have hu := hu.al (.cells #[.int .i64 1, .int .i64 4] 52)
  have hv := hv.al (.cells #[.int .i64 1, .int .i64 4] 52)
  have hw := hw.al (.cells #[.int .i64 1, .int .i64 4] 52)
  have hsq := SlP.lit1 w20 1 4
  have hBB := hBB.alloc hBB.size (.cells #[.int .i64 1, .int .i64 4] 52)
  refine (k32 _ _ _ _ _ hsp hsq).mono ?_
  rintro e w21 ⟨rfl, hB⟩
  have hl := hl.step hB
  have hsp := hsp.step hB
  have hp := hp.step hB
  have hq := hq.step hB
  have hr := hr.step hB
  have hu := hu.step hB
  have hv := hv.step hB
  have hw := hw.step hB
  have hBB := hBB.trans (hB.mono hBB.size)
  clear hsp
  clear hsq
  go_wp2_with fail
  have hl := hl.al (.cells #[.int .i64 1, .int .i64 2, .int .i64 3, .int .i64 3, .int .i64 4] 3)
  have hp := hp.al (.cells #[.int .i64 1, .int .i64 2, .int .i64 3, .int .i64 3, .int .i64 4] 3)
  have hq := hq.al (.cells #[.int .i64 1, .int .i64 2, .int .i64 3, .int .i64 3, .int .i64 4] 3)
  have hr := hr.al (.cells #[.int .i64 1, .int .i64 2, .int .i64 3, .int .i64 3, .int .i64 4] 3)
  have hu := hu.al (.cells #[.int .i64 1, .int .i64 2, .int .i64 3, .int .i64 3, .int .i64 4] 3)
  have hv := hv.al (.cells #[.int .i64 1, .int .i64 2, .int .i64 3, .int .i64 3, .int .i64 4] 3)
  have hw := hw.al (.cells #[.int .i64 1, .int .i64 2, .int .i64 3, .int .i64 3, .int .i64 4] 3)
  have hz := Sl.lit w21 [1, 2, 3, 3, 4]
  have hBB := hBB.alloc hBB.size (.cells #[.int .i64 1, .int .i64 2, .int .i64 3, .int .i64 3, .int .i64 4] 3)
  refine (eq_lit _ _ _ _ 5 [1, 2, 3, 3, 4] _ rfl hp hz (by decide)).mono ?_
  clear hz
  rintro e w22 ⟨rfl, hB⟩
  have hl := hl.step hB
  have hp := hp.step hB
  have hq := hq.step hB
  have hr := hr.step hB
  have hu := hu.step hB
  have hv := hv.step hB
  have hw := hw.step hB
  have hBB := hBB.trans (hB.mono hBB.size)
  clear hp
  go_wp2_with fail
  have hl := hl.al (.cells #[.int .i64 0, .int .i64 2, .int .i64 0] 3)
  have hq := hq.al (.cells #[.int .i64 0, .int .i64 2, .int .i64 0] 3)
  have hr := hr.al (.cells #[.int .i64 0, .int .i64 2, .int .i64 0] 3)
  have hu := hu.al (.cells #[.int .i64 0, .int .i64 2, .int .i64 0] 3)
  have hv := hv.al (.cells #[.int .i64 0, .int .i64 2, .int .i64 0] 3)
  have hw := hw.al (.cells #[.int .i64 0, .int .i64 2, .int .i64 0] 3)
  have hz := Sl.lit w22 [0, 2, 0]
  have hBB := hBB.alloc hBB.size (.cells #[.int .i64 0, .int .i64 2, .int .i64 0] 3)
  refine (eq_lit _ _ _ _ 3 [0, 2, 0] _ rfl hq hz (by decide)).mono ?_
  clear hz
  rintro e w23 ⟨rfl, hB⟩
  have hl := hl.step hB
  have hq := hq.step hB
  have hr := hr.step hB
  have hu := hu.step hB
  have hv := hv.step hB
  have hw := hw.step hB
  have hBB := hBB.trans (hB.mono hBB.size)
  clear hq
  go_wp2_with fail
  have hl := hl.al (.cells #[.int .i64 1, .int .i64 2, .int .i64 3, .int .i64 4] 3)
  have hr := hr.al (.cells #[.int .i64 1, .int .i64 2, .int .i64 3, .int .i64 4] 3)
  have hu := hu.al (.cells #[.int .i64 1, .int .i64 2, .int .i64 3, .int .i64 4] 3)
  have hv := hv.al (.cells #[.int .i64 1, .int .i64 2, .int .i64 3, .int .i64 4] 3)
  have hw := hw.al (.cells #[.int .i64 1, .int .i64 2, .int .i64 3, .int .i64 4] 3)
  have hz := Sl.lit w23 [1, 2, 3, 4]
  have hBB := hBB.alloc hBB.size (.cells #[.int .i64 1, .int .i64 2, .int .i64 3, .int .i64 4] 3)
  refine (eq_lit _ _ _ _ 4 [1, 2, 3, 4] _ rfl hr hz (by decide)).mono ?_
  clear hz
  rintro e w24 ⟨rfl, hB⟩
  have hl := hl.step hB
  have hr := hr.step hB
  have hu := hu.step hB
  have hv := hv.step hB
  have hw := hw.step hB
  have hBB := hBB.trans (hB.mono hBB.size)
  clear hr
  go_wp2_with fail
  refine (eq_lit _ _ _ _ 3 [2, 0, 3] _ rfl hu hl (by decide)).mono ?_
  rintro e w25 ⟨rfl, hB⟩
  have hl := hl.step hB
  have hu := hu.step hB
  have hv := hv.step hB
  have hw := hw.step hB
  have hBB := hBB.trans (hB.mono hBB.size)
  clear hu
  go_wp2_with fail
  have hl := hl.al (.cells #[.int .i64 0, .int .i64 1, .int .i64 0] 3)
  have hv := hv.al (.cells #[.int .i64 0, .int .i64 1, .int .i64 0] 3)
  have hw := hw.al (.cells #[.int .i64 0, .int .i64 1, .int .i64 0] 3)
  have hz := Sl.lit w25 [0, 1, 0]
  have hBB := hBB.alloc hBB.size (.cells #[.int .i64 0, .int .i64 1, .int .i64 0] 3)
  refine (eq_lit _ _ _ _ 3 [0, 1, 0] _ rfl hv hz (by decide)).mono ?_
  clear hz
  rintro e w26 ⟨rfl, hB⟩
  have hl := hl.step hB
  have hv := hv.step hB
  have hw := hw.step hB
  have hBB := hBB.trans (hB.mono hBB.size)
  clear hv
  go_wp2_with fail
  have hl := hl.al (.cells #[.int .i64 2, .int .i64 0, .int .i64 1, .int .i64 0] 3)
  have hw := hw.al (.cells #[.int .i64 2, .int .i64 0, .int .i64 1, .int .i64 0] 3)
  have hz := Sl.lit w26 [2, 0, 1, 0]
  have hBB := hBB.alloc hBB.size (.cells #[.int .i64 2, .int .i64 0, .int .i64 1, .int .i64 0] 3)
  refine (eq_lit _ _ _ _ 4 [2, 0, 1, 0] _ rfl hw hz (by decide)).mono ?_
  clear hz
  rintro e w27 ⟨rfl, hB⟩
  have hl := hl.step hB
  have hw := hw.step hB
  have hBB := hBB.trans (hB.mono hBB.size)
  clear hw
  go_wp2
  go_ret
  exact ⟨rfl, hBB⟩
end Go.Proofs.Ytcbkocjpkdcpfaa
