/- Walks of scan: Tree. -/
import Derived.Test.YtecpanppnljkhaaGreatDoorKa5
import Derived.Test.YtecpanppnljkhaaGreatDoorEz
import Derived.Test.YtecpanppnljkhaaGreatDoorEd
import Derived.Test.YtecpanppnljkhaaGreatDoorQp
import Derived.Test.YtecpanppnljkhaaGreatDoorShelf
import Derived.Deep.OwnRows
namespace Go.Proofs.YtecpanppnljkhaaGreatDoor
set_option linter.unusedVariables false
set_option maxRecDepth 100000
open Go.RowKit Go.Shelf
theorem flg_all {a : List Int} {d : Nat} (h : Flg a) (ha : a.length = 2 ^ d) (hd : d ≤ 20) (j i : Nat) : 0 ≤ nth (lvK addW a j) i ∧ nth (lvK addW a j) i ≤ 1048576 := by
  by_cases hj : j ≤ d
  · have h1 := flg_lv h j (by omega) i
    have hp : (2 : Int) ^ j ≤ 2 ^ 20 := by
      have : (2 : Nat) ^ j ≤ 2 ^ 20 := Nat.pow_le_pow_right (by omega) (by omega)
      exact_mod_cast this
    omega
  · rw [lv_nil addW ha j (by omega)]
    show 0 ≤ nth [] i ∧ nth [] i ≤ 1048576
    rw [nth_out [] i (by simp)]; omega
theorem TreeAt.far {w : World} {base g : Nat} {vs : Nat → Value} {LV : Nat → List Int} (h : TreeAt w base g vs LV) {b : Nat} (hb : b < base) (hg : g ≠ b) (i : Nat) (u : Value) : TreeAt (w.setCell ⟨b, i, none⟩ u) base g vs LV :=
  ⟨h.blk.far (p := ⟨b, i, none⟩) hg u, h.rows.kept (grownBy_set w ⟨b, i, none⟩ u) fun j hj => .inr fun e => by have := (h.rows.lt hj b e).1; omega⟩
theorem own_same {w w' : World} {base b n c : Nat} {zs : List Int} (h : OwnI w base (.slice (some ⟨b, 0, none⟩) n c) zs) (e : w'.heap[b]? = w.heap[b]?) : OwnI w' base (.slice (some ⟨b, 0, none⟩) n c) zs := by
  refine ⟨h.1, ?_⟩
  rcases h.2 with h0 | ⟨g, cap, cur, e1, h1, h2, h3⟩
  · exact .inl h0
  · have hbg : b = g := by injection e1 with e1; injection e1 with e1; injection e1
    exact .inr ⟨g, cap, cur, e1, h1, by rw [← hbg, e, hbg]; exact h2, h3⟩
set_option maxHeartbeats 4000000 in
theorem tree_ok (op : Int) (d : Nat) (A A' : Option Addr) (c c' : Nat) (l shape : List Int) (w : World) (hI : Inv w) (h : Sl w A l) (hcl : l.length ≤ c) (k : Ok l) (h' : Sl w A' shape) (ks : shape.length ≤ 9223372036854775807) (he : cE op [l] = 0) (hd : IsD l.length d) (hn : 0 < l.length) (hs : Shape shape l.length) :
    Calls Tryz.prog 15 #[.int .i64 op, .slice A l.length c, .slice A' shape.length c'] w fun e w' => e = .returned (.tuple #[.int .i64 (nth (trF (doN op) d l shape shape.length).1 0), .int .i64 0]) ∧ Below w.heap.size w w' := by
  have hl16 := (lsE_ok (cE_ok he).2).1 l (by simp)
  have bA := Blk.new w 22 #[.slice A l.length c]
  have hB0 : Below w.heap.size w (w.alloc (.cells #[.slice A l.length c] 22)) := (Below.refl _ _).alloc (Nat.le_refl _) _
  have C1 := checked_any op (some ⟨w.heap.size, 0, none⟩) 1 [l] _ (hI.below hB0) (sll1 bA (h.step hB0) hcl) (by simp) (allShort_of (by unfold Ok at k; simpa using k))
  rw [he] at C1
  have C1 := Lib.hid C1
  have HT := Lib.hid (fun i hi => trI_at (doN op) hd hs i hi)
  have HS := Lib.hid hs
  have HD := Lib.hid hd
  obtain ⟨bl, ol, rfl, hbl, hcL⟩ := h hn
  have C2 := fun W (hW : Sl W A' shape) => isShape_any A' c' l.length shape W hW hl16 ks
  have C3 := fun W (hW : Sl W (some ⟨bl, ol, none⟩) l) => Tryz.slices_Clone_int bl ol l.length c l W (Nat.le_refl _) (by omega) (by
    obtain ⟨b', o', e, _, hc⟩ := hW hn
    obtain ⟨rfl, rfl⟩ : bl = b' ∧ ol = o' := by injection e with e; injection e with e1 e2; exact ⟨e1, e2⟩
    exact fun j hj => hc j hj)
  have C4 := fun W => allLeft_any l.length d W hd hl16
  have C2 := Lib.hid C2
  have C3 := Lib.hid C3
  have C4 := Lib.hid C4
  clear hd he hs
  go_enter Tryz.func15, Tryz.ntmps15
  go_wp2_with fail
  refine C1.out.mono ?_
  rintro e w1 ⟨n, f, rfl, hB, hg, hz⟩
  obtain ⟨rfl, g, rfl, hgl, hgb⟩ := hg rfl
  clear hz
  have hB1 := hB0.trans (hB.mono (by simp))
  have hsz := hB.size
  simp at hsz hgl
  have hB2 := hB1.alloc (by omega) (.cells #[.int .i64 (neN op), .func (.func 87) #[] #[.pointer (some ⟨g, 0, none⟩)]] 58)
  have hgb2 := hgb.alloc (.cells #[.int .i64 (neN op), .func (.func 87) #[] #[.pointer (some ⟨g, 0, none⟩)]] 58)
  have b6 := Blk.new w1 58 #[.int .i64 (neN op), .func (.func 87) #[] #[.pointer (some ⟨g, 0, none⟩)]]
  have C2' := Lib.hid (C2.out _ (h'.step hB2))
  go_wp2_with fail
  refine C2'.out.mono ?_
  rintro e w2 ⟨⟨bb, rfl, hbb⟩, rfl⟩
  obtain rfl : bb = true := hbb.2 HS.out
  clear hbb
  have C3' := Lib.hid (C3.out _ (h.step hB2))
  go_wp2_with fail
  refine C3'.out.mono ?_
  rintro e w3 ⟨v', rfl, hown, _, hBc⟩
  have hB3 := hB2.trans (hBc.mono hB2.size)
  rw [List.take_length] at hown
  rcases hown.2 with ⟨_, h0⟩ | ⟨bw, cw, cur, ev, hbw, hgw, hr1, hr2, hr3, hr4⟩
  · omega
  subst ev
  have hbw3 : bw < w3.heap.size := (Array.getElem?_eq_some_iff.1 hgw).1
  have C4' := Lib.hid (C4.out w3)
  go_wp2_with fail
  refine C4'.out.mono ?_
  rintro e w4 ⟨G, vs, rfl, hG, hT, hBd⟩
  have hB4 := hB3.trans (hBd.mono hB3.size)
  have hs2 := hBc.size
  have hs3 := hBd.size
  simp at hs2 hbw
  have hown4 : OwnI w4 w.heap.size (.slice (some ⟨bw, 0, none⟩) l.length cw) l := (OwnI.below (show OwnI w3 w.heap.size (.slice (some ⟨bw, 0, none⟩) l.length cw) l from OwnI.lower hown (by simp; omega)) hBd (Nat.le_refl _))
  have b7 := (b6.below hBc b6.lt).below hBd (by have := b6.lt; simp at this; omega)
  have g7 := (hgb2.below hBc hgb2.lt).below hBd (by have := hgb2.lt; simp at this; omega)
  obtain ⟨n, hnn⟩ : ∃ n, l.length = n := ⟨_, rfl⟩
  have HT0 : TreeAt w4 w3.heap.size G vs (lvK addW (trF (doN op) d l shape 0).2) := by
    have e : (trF (doN op) d l shape 0).2 = onesL l.length d := rfl
    rw [e]; exact hT
  have HO0 : OwnI w4 w.heap.size (.slice (some ⟨bw, 0, none⟩) n cw) (trF (doN op) d l shape 0).1 := by
    have e : (trF (doN op) d l shape 0).1 = l := rfl
    rw [e, ← hnn]; exact hown4
  rw [hnn] at HT HS hn hl16 ⊢
  have hgne : g ≠ bw := fun e => by have := hgb.lt; omega
  clear hT hown4 hown hr1 hr2 hr3 hr4 C1 C2 C3 C4 C2' C3' C4' hcL hgw
  go_wp2
  go_loopw [38] (fun i wr => ∃ j : Nat, j ≤ shape.length ∧ i = .int .i64 j ∧ OwnI wr w.heap.size (.slice (some ⟨bw, 0, none⟩) n cw) (trF (doN op) d l shape j).1 ∧ TreeAt wr w3.heap.size G vs (lvK addW (trF (doN op) d l shape j).2) ∧ Below w.heap.size w wr ∧ w3.heap.size ≤ wr.heap.size ∧ Blk wr w1.heap.size 58 #[.int .i64 (neN op), .func (.func 87) #[] #[.pointer (some ⟨g, 0, none⟩)]] ∧ Blk wr g 3 #[.int .i64 op]) (fun i _ => shape.length - (intOf i).toNat)
  case atStart => exact ⟨0, Nat.zero_le _, rfl, HO0, HT0, hB4, hs3, b7, g7⟩
  case round =>
    clear HO0 HT0 b7 g7 hB4 b6 hgb2
    obtain ⟨j, hj, rfl, hO, hT, hBr, hsr, r7, rg⟩ := hrel
    have hTI := HT.out j hj
    by_cases hlt : j < shape.length
    · have hsh := HS.out.2 j hlt
      obtain ⟨f1, f2⟩ := trI_find hTI HD.out.2.2 hsh.1 hsh.2
      have HTR := Lib.hid (trF_succ (doN op) d l shape j hlt)
      obtain ⟨kn, hkn⟩ : ∃ kn : Nat, nth shape j = (kn : Int) := ⟨(nth shape j).toNat, by omega⟩
      obtain ⟨bs, os, rfl, hbs, hcS⟩ := (h'.step hBr) (by omega)
      have cs := hcS j hlt
      rw [hkn] at cs f1 f2 HTR hsh
      obtain ⟨s, hs'⟩ : ∃ s, trF (doN op) d l shape j = s := ⟨_, rfl⟩
      rw [hs'] at hO hT hTI f1 f2 HTR
      obtain ⟨ws, a⟩ := s
      simp only at hO hT f1 f2
      have hfl := hTI.flags
      have hfg := hTI.flg
      have hwl := hTI.words
      simp only at hfl hfg hwl
      have P1 := Lib.hid (fun W (hW : TreeAt W w3.heap.size G vs (lvK addW a)) => place_any G d w3.heap.size kn vs addW a W HD.out.2.2 hfl hW (by omega) (flg_all hfg hfl HD.out.2.2))
      have P2 := Lib.hid (fun W (hW : TreeAt W w3.heap.size G vs (lvK addW a)) => place_any G d w3.heap.size (kn + 1) vs addW a W HD.out.2.2 hfl hW (by omega) (flg_all hfg hfl HD.out.2.2))
      have hkk : ((kn + 1 : Nat) : Int) = (kn : Int) + 1 := by omega
      rw [hkk] at P2
      have P3 := Lib.hid (fun q W (hW : TreeAt W w3.heap.size G vs (lvK addW a)) hq1 hq2 hW2 => takeOut_any G d w3.heap.size q vs addW a W HD.out.2.2 hfl hW hW2 hq1 (fun jj hjj => ⟨flg_one hfg hfl HD.out.2.2 hq1 hq2 jj hjj, (flg_all hfg hfl HD.out.2.2 jj _).2⟩))
      have HOUT := Lib.hid (fun q hq1 hq2 => out_lv (p := q) hfg hfl HD.out.2.2 hq1 hq2)
      unfold trS at HTR
      simp only at HTR
      obtain ⟨p, hp⟩ : ∃ p, plL (lvK addW a) d (kn : Int) = p := ⟨_, rfl⟩
      obtain ⟨q, hq⟩ : ∃ q, plL (lvK addW a) d ((kn : Int) + 1) = q := ⟨_, rfl⟩
      rw [hp] at P1 f1 HTR
      rw [hq] at P2 f2 HTR
      have m1 : (0 : Int) ≤ (j : Int) := by omega
      have m2 : (j : Int) < (shape.length : Int) := by omega
      have m3 : (0 : Int) ≤ (p : Int) := by omega
      have m4 : (p : Int) < (n : Int) := by omega
      have m5 : (0 : Int) ≤ (q : Int) := by omega
      have m6 : (q : Int) < (n : Int) := by omega
      have P1' := Lib.hid (P1.out wr hT)
      clear hs' hp hq hcS hkk
      go_wp2_with fail
      refine P1'.out.mono ?_
      rintro e w5 ⟨rfl, hB5⟩
      have hT5 := hT.below hB5 (Nat.le_refl _)
      have P2' := Lib.hid (P2.out w5 hT5)
      go_wp2_with fail
      refine P2'.out.mono ?_
      rintro e w6 ⟨rfl, hB6⟩
      have hB56 : Below wr.heap.size wr w6 := hB5.trans (hB6.mono hB5.size)
      have hT6 := hT5.below hB6 (Nat.le_refl _)
      have hO6 := hO.below hB56 (Nat.le_refl _)
      have r6 := r7.below hB56 r7.lt
      have g6 := rg.below hB56 rg.lt
      have hBw6 : Below w.heap.size w w6 := hBr.trans (hB56.mono hBr.size)
      have hs6 := hB56.size
      obtain ⟨A9, c9, e9, _, hsW⟩ := hO6.form
      have e9a : A9 = some ⟨bw, 0, none⟩ := by injection e9 with e9; exact e9.symm
      subst e9a
      obtain ⟨b', o', e8, hbw6, hcW⟩ := hsW (by omega)
      obtain ⟨rfl, rfl⟩ : bw = b' ∧ 0 = o' := by injection e8 with e8; injection e8 with e1 e2; exact ⟨e1, e2⟩
      have cp := hcW p (by omega)
      have cq := hcW q (by omega)
      rw [Nat.zero_add] at cp cq
      have hfz : w6.frozen? ⟨bw, p, none⟩ = false := by
        rcases hO6.2 with ⟨h0, _⟩ | ⟨gz, _, _, e1, _, h2, _⟩
        · cases h0
        · have hbg : bw = gz := by injection e1 with e1; injection e1 with e1; injection e1
          subst hbg
          simp [World.frozen?, h2]
      obtain ⟨x1, hx1⟩ : ∃ x1, nth ws p = x1 := ⟨_, rfl⟩
      obtain ⟨x2, hx2⟩ : ∃ x2, nth ws q = x2 := ⟨_, rfl⟩
      rw [hx1] at cp HTR
      rw [hx2] at cq HTR
      have LT : ∀ W', (Blk W' w1.heap.size 58 #[.int .i64 (neN op), .func (.func 87) #[] #[.pointer (some ⟨g, 0, none⟩)]] ∧ W'.cell? ⟨bw, p, none⟩ = some (.int .i64 x1) ∧ W'.cell? ⟨bw, q, none⟩ = some (.int .i64 x2)) → W'.cell? ⟨w1.heap.size, 1, none⟩ = some (.func (.func 87) #[] #[.pointer (some ⟨g, 0, none⟩)]) ∧ W'.cell? ⟨bw, p, none⟩ = some (.int .i64 x1) ∧ W'.cell? ⟨bw, q, none⟩ = some (.int .i64 x2) := fun W' hW => ⟨hW.1.cell 1, hW.2⟩
      clear hsW hcW e9 e8 hx1 hx2
      go_wp2
      refine wp_region_mix' (fun W' => Blk W' w1.heap.size 58 #[.int .i64 (neN op), .func (.func 87) #[] #[.pointer (some ⟨g, 0, none⟩)]] ∧ W'.cell? ⟨bw, p, none⟩ = some (.int .i64 x1) ∧ W'.cell? ⟨bw, q, none⟩ = some (.int .i64 x2)) [false, false, false, false, false, false, false, false, false, false, false, false, true, false] (by kernel_rfl) (by kernel_rfl) ⟨r6, cp, cq⟩ ?_
      simp only [mixT, mixH, mixD]
      iterate 12 (refine wpLts_light ?_ (fun W' hW => ?_) ?_; rotate_left; (obtain ⟨q0, q1, q2⟩ := LT W' hW; go_simp; try with_reducible rfl); simp only [Act.put, List.setIfInBounds_toArray, List.set_cons_zero, List.set_cons_succ])
      refine wpLts_heavy ?_
      iterate 1 (refine wpLts_light ?_ (fun W' hW => ?_) ?_; rotate_left; (obtain ⟨q0, q1, q2⟩ := LT W' hW; go_simp; try with_reducible rfl); simp only [Act.put, List.setIfInBounds_toArray, List.set_cons_zero, List.set_cons_succ])
      refine wpLts_nil ?_
      refine wpHvP_call 87 #[.int .i64 x1, .int .i64 x2, .pointer (some ⟨g, 0, none⟩)] (by go_simp) ?_
      refine (join_any op x1 x2 g w6.drew g6.drew).mono ?_
      rintro e w7 ⟨rfl, hB7⟩
      have hB67 : Below w6.heap.size w6 w7 := (Below.refl _ _).drew.trans hB7
      have r7' := r6.below hB67 r6.lt
      have cp7 := (hB67.cell (p := ⟨bw, p, none⟩) hbw6).trans cp
      have cq7 := (hB67.cell (p := ⟨bw, q, none⟩) hbw6).trans cq
      have fz7 := (hB67.frozen (p := ⟨bw, p, none⟩) hbw6).trans hfz
      obtain ⟨rr, hrr⟩ : ∃ rr, doN op x1 x2 = rr := ⟨_, rfl⟩
      rw [hrr] at HTR ⊢
      refine ⟨_, rfl, ⟨r7', cp7, cq7⟩, ?_⟩
      simp only [Act.put, List.setIfInBounds_toArray, List.set_cons_zero, List.set_cons_succ]
      refine wpHvP_nil ?_
      have hO7 := hO6.below hB67 (Nat.le_refl _)
      have hT7 := hT6.below hB67 (Nat.le_refl _)
      have g7' := g6.below hB67 g6.lt
      have hBw7 : Below w.heap.size w w7 := hBw6.trans (hB67.mono hBw6.size)
      rw [← hwl] at hO7
      have hO8 := (OwnI.stored hO7 p rr).1
      rw [List.length_set, hwl] at hO8
      have hT8 := hT7.far hbw3 (by omega) p (.int .i64 rr)
      have r8 := r7'.far (p := ⟨bw, p, none⟩) (by show w1.heap.size ≠ bw; omega) (.int .i64 rr)
      have g8 := g7'.far (p := ⟨bw, p, none⟩) (by show g ≠ bw; exact hgne) (.int .i64 rr)
      have hBw8 := hBw7.setCell (p := ⟨bw, p, none⟩) (by show w.heap.size ≤ bw; omega) (.int .i64 rr)
      have hs7 := hB67.size
      have P3' := Lib.hid (P3.out q _ hT8 f2.2.1 f2.2.2 (by simp; omega))
      have HO := Lib.hid (HOUT.out q f2.2.1 f2.2.2)
      clear hrr P1 P2 P3 HOUT P1' P2' hT hO hT5 hO6 hT6 hO7 hT7
      go_wp2_with fail
      refine P3'.out.mono ?_
      rintro e w9 ⟨⟨u, rfl⟩, hT9, hB9, hs9, _⟩
      rw [HO.out] at hT9
      have hO9 := own_same hO8 (hB9.block bw hbw3)
      have r9 := r8.below hB9 (by omega)
      have g9 := g8.below hB9 (by have := hgb.lt; omega)
      have hBw9 : Below w.heap.size w w9 := hBw8.trans (hB9.mono (by omega))
      simp at hs9
      have hs9' : w3.heap.size ≤ w9.heap.size := by omega
      clear hT8 hO8 P3'
      go_wp2
      go_roundw
      case rel => exact ⟨j + 1, by omega, by go_num, by rw [HTR.out]; exact hO9, by rw [HTR.out]; exact hT9, hBw9, hs9', r9, g9⟩
      case measure => simp [intOf]; omega
    · obtain rfl : j = shape.length := by omega
      have hwl := hTI.words
      obtain ⟨R, hR⟩ : ∃ R, (trF (doN op) d l shape shape.length).1 = R := ⟨_, rfl⟩
      have HR := Lib.hid hR
      rw [hR] at hO hwl
      obtain ⟨A9, c9, e9, _, hsW⟩ := hO.form
      have e9a : A9 = some ⟨bw, 0, none⟩ := by injection e9 with e9; exact e9.symm
      subst e9a
      obtain ⟨b', o', e8, hbw6, hcW⟩ := hsW (by omega)
      obtain ⟨rfl, rfl⟩ : bw = b' ∧ 0 = o' := by injection e8 with e8; injection e8 with e1 e2; exact ⟨e1, e2⟩
      have cp := hcW 0 (by omega)
      rw [Nat.zero_add] at cp
      have m6 : (0 : Int) < (n : Int) := by omega
      obtain ⟨y, hy⟩ : ∃ y, nth R 0 = y := ⟨_, rfl⟩
      rw [hy] at cp
      have HY : Hid (nth (trF (doN op) d l shape shape.length).1 0 = y) := Lib.hid (by rw [HR.out]; exact hy)
      clear hR hsW hcW e9 e8 hy
      go_wp2
      go_ret2
      exact ⟨by rw [HY.out]; rfl, hBr⟩
end Go.Proofs.YtecpanppnljkhaaGreatDoor
