/- Walks of scan: areLevels. -/
import Derived.Test.YtecpanppnljkhaaGreatDoorEq
import Derived.Test.YtecpanppnljkhaaGreatDoorEr
namespace Go.Proofs.YtecpanppnljkhaaGreatDoor
set_option linter.unusedVariables false
set_option maxRecDepth 100000
open Go.RowKit Go.Shelf
/-- These are the levels of some list of words. -/
def AreLv (f : Int → Int → Int) (x : Int) (L : List (List Int)) : Prop := ∃ d, L ≠ [] ∧ lsE [nthL L 0] = 0 ∧ IsD (nthL L 0).length d ∧ L = lvs f (padL x d (nthL L 0)) d
theorem isD_unique {n d e : Nat} (h : IsD n d) (h' : IsD n e) : d = e := by
  rcases Nat.lt_trichotomy d e with h1 | h1 | h1
  · have := h'.2.1 d h1; have := h.1; omega
  · exact h1
  · have := h.2.1 e h1; have := h'.1; omega
theorem areLv_of {f : Int → Int → Int} {x : Int} {L : List (List Int)} {d : Nat} (h0 : L ≠ []) (h : lsE [nthL L 0] = 0) (hd : IsD (nthL L 0).length d) : AreLv f x L ↔ L = lvs f (padL x d (nthL L 0)) d :=
  ⟨fun ⟨e, _, _, he, h1⟩ => by rw [isD_unique hd he]; exact h1, fun h1 => ⟨d, h0, h, hd, h1⟩⟩
/-- 'Returned whether that holds'. -/
def RetB (p : Prop) (w : World) (e : Ending) (w' : World) : Prop := ∃ b : Bool, e = .returned (.bool b) ∧ (b = true ↔ p) ∧ Below w.heap.size w w'
theorem lvs_short (f : Int → Int → Int) {a : List Int} {d : Nat} (h : a.length = 2 ^ d) (hd : d ≤ 20) : AllShort (lvs f a d) := fun j hj => by
  rw [lvs_len] at hj
  rw [lvs_nth f a d j hj, lv_length f h j (by omega)]
  have : 2 ^ (d - j) ≤ 2 ^ 20 := Nat.pow_le_pow_right (by omega) (by omega)
  omega
set_option maxHeartbeats 4000000 in
theorem areLevels_any (op x : Int) (g : Nat) (A : Option Addr) (c : Nat) (L : List (List Int)) (w : World) (hg : Blk w g 3 #[.int .i64 op]) (h : Sll w A L) (hn : L.length ≤ 9223372036854775807) (hs : AllShort L) :
    Calls Tryz.prog 60 #[.agg #[.int .i64 x, .func (.func 87) #[] #[.pointer (some ⟨g, 0, none⟩)]], .slice A L.length c] w (RetB (AreLv (doN op) x L) w) := by
  have bO := Blk.new w 58 #[.int .i64 x, .func (.func 87) #[] #[.pointer (some ⟨g, 0, none⟩)]]
  have hB0 : Below w.heap.size w (w.alloc (.cells #[.int .i64 x, .func (.func 87) #[] #[.pointer (some ⟨g, 0, none⟩)]] 58)) := (Below.refl _ _).alloc (Nat.le_refl _) _
  have gO := hg.alloc (.cells #[.int .i64 x, .func (.func 87) #[] #[.pointer (some ⟨g, 0, none⟩)]] 58)
  have hO : Sll (w.alloc (.cells #[.int .i64 x, .func (.func 87) #[] #[.pointer (some ⟨g, 0, none⟩)]] 58)) A L := h.below hB0
  have hsz : (w.alloc (.cells #[.int .i64 x, .func (.func 87) #[] #[.pointer (some ⟨g, 0, none⟩)]] 58)).heap.size = w.heap.size + 1 := by simp
  by_cases hl : L.length = 0
  · have hL : L = [] := List.eq_nil_of_length_eq_zero hl
    have HN : Hid (¬ AreLv (doN op) x L) := Lib.hid (fun ⟨d, h1, _⟩ => h1 hL)
    rw [hl]
    clear hl hL hO bO gO
    go_enter Tryz.func60, Tryz.ntmps60
    go_wp2
    go_ret
    exact ⟨false, rfl, ⟨by simp, fun e => absurd e HN.out⟩, hB0⟩
  · have hl0 : 0 < L.length := by omega
    have hL0 : L ≠ [] := fun e => hl (by rw [e]; rfl)
    obtain ⟨W0, hW0⟩ : ∃ W0, w.alloc (.cells #[.int .i64 x, .func (.func 87) #[] #[.pointer (some ⟨g, 0, none⟩)]] 58) = W0 := ⟨_, rfl⟩
    rw [hW0] at bO gO hO hB0 hsz
    obtain ⟨b, off, rfl, hb, hcs⟩ := hO hl0
    obtain ⟨A0, c0, q0, hc0, s0⟩ := hcs 0 hl0
    have q0 : W0.cell? ⟨b, off, none⟩ = some (.slice A0 (nthL L 0).length c0) := by rw [← q0]; rfl
    have hs0 := hs 0 hl0
    have HLV := Lib.hid (fun d h1 h2 => areLv_of (f := doN op) (x := x) (d := d) hL0 h1 h2)
    obtain ⟨l0, hl0e⟩ : ∃ l0, nthL L 0 = l0 := ⟨_, rfl⟩
    rw [hl0e] at q0 hc0 s0 HLV hs0
    have HLE := Lib.hid hl0e
    have hd0 : ((L.length : Int) == 0) = false := by rw [beq_eq_false_iff_ne]; omega
    have hd1 : (0 : Int) < (L.length : Int) := by omega
    have bA := Blk.new W0 22 #[.slice A0 l0.length c0]
    have hB1 : Below W0.heap.size W0 (W0.alloc (.cells #[.slice A0 l0.length c0] 22)) := (Below.refl _ _).alloc (Nat.le_refl _) _
    have C1 := scheck_any (some ⟨W0.heap.size, 0, none⟩) 1 [l0] _ (sll1 bA (s0.step hB1) hc0) (by simp) (allShort_of (by simpa using hs0))
    rw [hsz] at C1
    by_cases he : lsE [l0] = 0
    · have hl16 := (lsE_ok he).1 l0 (by simp)
      obtain ⟨d, hd⟩ := exD l0.length hl16
      rw [he] at C1
      have C1 := Lib.hid C1
      have HV := Lib.hid (HLV.out d he hd)
      have HA := padL_len (x := x) hd
      have bO2 := bO.alloc (.cells #[.slice A0 l0.length c0] 22)
      have gO2 := gO.alloc (.cells #[.slice A0 l0.length c0] 22)
      have HL2 := Lib.hid (hO.below hB1)
      have k0 := bO2.cell 0
      have k1 := bO2.cell 1
      simp at k0 k1
      have q1 := (hB1.cell (p := ⟨b, off, none⟩) hb).trans q0
      have HD := Lib.hid hd
      clear hd he HLV hl0e hl hL0 hcs
      go_enter Tryz.func60, Tryz.ntmps60
      go_wp2_with (first | (go_at_call 76; refine C1.out.mono ?_; rintro e wx ⟨rfl, e1⟩; subst e1) | fail)
      have gd : Blk (W0.alloc (.cells #[.slice A0 l0.length c0] 22)).drew g 3 #[.int .i64 op] := gO2.drew
      have C2 := treeOf_any op x g d A0 c0 l0 (W0.alloc (.cells #[.slice A0 l0.length c0] 22)).drew gd (s0.step hB1.drew) hc0 HD.out.1 HD.out.2.1 HD.out.2.2
      have hBz : Below w.heap.size w (W0.alloc (.cells #[.slice A0 l0.length c0] 22)).drew := (hB0.trans (hB1.mono hB0.size)).drew
      obtain ⟨W5, hW5⟩ : ∃ W5, (W0.alloc (.cells #[.slice A0 l0.length c0] 22)) = W5 := ⟨_, rfl⟩
      rw [hW5] at k0 k1 q1 bO2 C2 hBz HL2 hB1 ⊢
      have SS : ∀ W', (Blk W' w.heap.size 58 #[.int .i64 x, .func (.func 87) #[] #[.pointer (some ⟨g, 0, none⟩)]] ∧ W'.cell? ⟨b, off, none⟩ = some (.slice A0 l0.length c0)) → W'.cell? ⟨w.heap.size, 0, none⟩ = some (.int .i64 x) ∧ W'.cell? ⟨w.heap.size, 1, none⟩ = some (.func (.func 87) #[] #[.pointer (some ⟨g, 0, none⟩)]) ∧ W'.cell? ⟨b, off, none⟩ = some (.slice A0 l0.length c0) := fun W' hW => ⟨hW.1.cell 0, hW.1.cell 1, hW.2⟩
      refine wp_region_mix' (fun W' => Blk W' w.heap.size 58 #[.int .i64 x, .func (.func 87) #[] #[.pointer (some ⟨g, 0, none⟩)]] ∧ W'.cell? ⟨b, off, none⟩ = some (.slice A0 l0.length c0)) [false, false, false, false, false, true, true, true] (by kernel_rfl) (by kernel_rfl) ⟨bO2, q1⟩ ?_
      simp only [mixT, mixH, mixD]
      iterate 5 (refine wpLts_light ?_ (fun W' hW => ?_) ?_; rotate_left; (obtain ⟨q0, q1, q2⟩ := SS W' hW; go_simp; try with_reducible rfl); simp only [Act.put, List.setIfInBounds_toArray, List.set_cons_zero, List.set_cons_succ])
      refine wpLts_heavy (wpLts_heavy (wpLts_heavy (wpLts_nil ?_)))
      refine wpHvP_call 54 #[.agg #[.int .i64 x, .func (.func 87) #[] #[.pointer (some ⟨g, 0, none⟩)]], .slice A0 l0.length c0] (by go_simp) ?_
      refine C2.mono ?_
      rintro e W6 ⟨G, vs, rfl, hG, hT, hBd⟩
      have hbz : b < W5.heap.size := Nat.lt_of_lt_of_le hb hB1.size
      have a1 := bO2.drew.below hBd bO2.lt
      have a2 := (hBd.cell (p := ⟨b, off, none⟩) hbz).trans q1
      refine ⟨_, rfl, ⟨a1, a2⟩, ?_⟩
      simp only [Act.put, List.setIfInBounds_toArray, List.set_cons_zero, List.set_cons_succ]
      refine wpHvP_call 55 #[.pointer (some ⟨G, 0, none⟩)] (by go_simp) ?_
      refine (treeLists_any G d _ vs (doN op) (padL x d l0) W6 HD.out.2.2 HA hT).mono ?_
      rintro e W7 ⟨rfl, e7⟩
      have e7 := e7.symm
      subst e7
      refine ⟨_, rfl, ⟨a1, a2⟩, ?_⟩
      simp only [Act.put, List.setIfInBounds_toArray, List.set_cons_zero, List.set_cons_succ]
      have hS6 : Sll W6 (some ⟨b, off, none⟩) L := HL2.out.drewN 1 |>.below hBd
      have hS7 := tree_sll hT HD.out.2.2
      have C4 := equalFunc_any (some ⟨b, off, none⟩) (some ⟨G, 0, none⟩) c (d + 1) L (lvs (doN op) (padL x d l0) d) W6 hS6 hS7 hn (by rw [lvs_len]; have := HD.out.2.2; omega) hs (lvs_short (doN op) HA HD.out.2.2)
      rw [lvs_len] at C4
      refine wpHvP_call 89 #[.slice (some ⟨b, off, none⟩) L.length c, .slice (some ⟨G, 0, none⟩) (d + 1) (d + 1), .func (.func 90) #[] #[]] (by go_simp) ?_
      refine C4.mono ?_
      rintro e W8 ⟨rfl, m', rfl⟩
      refine ⟨_, rfl, ⟨a1, a2⟩, ?_⟩
      simp only [Act.put, List.setIfInBounds_toArray, List.set_cons_zero, List.set_cons_succ]
      refine wpHvP_nil ?_
      have hBf : Below w.heap.size w (W6.drewN m') := hBz.trans (hBd.mono hBz.size) |>.trans ⟨rfl, rfl, rfl, Nat.le_refl _, fun _ _ => rfl⟩
      have HB := Lib.hid (show (decide (L = lvs (doN op) (padL x d l0) d) = true ↔ AreLv (doN op) x L) by rw [decide_eq_true_iff]; exact HV.out.symm)
      obtain ⟨bb, hbb⟩ : ∃ bb, decide (L = lvs (doN op) (padL x d l0) d) = bb := ⟨_, rfl⟩
      rw [hbb] at HB ⊢
      clear hbb C4 HA
      go_wp2
      go_ret
      exact ⟨bb, rfl, HB.out, hBf⟩
    · have HN : Hid (¬ AreLv (doN op) x L) := Lib.hid (fun ⟨d, _, h1, _⟩ => he (by rw [HLE.out] at h1; exact h1))
      obtain ⟨y, hy⟩ : ∃ y, lsE [l0] = y := ⟨_, rfl⟩
      have hd2 : (y != 0) = true := by rw [bne_iff_ne, ← hy]; exact he
      rw [hy] at C1
      have C1 := Lib.hid C1
      clear hy he HLV hl0e hl hL0 hcs
      go_enter Tryz.func60, Tryz.ntmps60
      go_wp2_with (first | (go_at_call 76; refine C1.out.mono ?_; rintro e wx ⟨rfl, e1⟩; subst e1) | fail)
      go_ret
      exact ⟨false, rfl, ⟨by simp, fun e => absurd e HN.out⟩, hB0.trans (hB1.mono hB0.size)⟩
end Go.Proofs.YtecpanppnljkhaaGreatDoor
