/- PrimAlike: for any number and any three slices of ints that can be read, the law's call returns true, and they read as they did. No condition but the row's own (the listed table holds what the text lays). -/
import Derived.Test.YtchjdhlmpdcibaaDoorVa
import Derived.Test.YtchjdhlmpdcibaaDoorVo
import Derived.Test.YtchjdhlmpdcibaaDoorVl
import Derived.Test.YtchjdhlmpdcibaaDoorVn
import Derived.Test.YtchjdhlmpdcibaaDoorTie
import Derived.Test.YtchjdhlmpdcibaaDoorCards
import Derived.Test.YtchjdhlmpdcibaaDoorTd
import Derived.Test.YtchjdhlmpdcibaaDoorMt
namespace Go.Proofs.YtchjdhlmpdcibaaDoor.primAlike
open Go.ChangeShapes Go.WideShapes Go.ChangeAt Go.RowKit Go.ChangeMaps
set_option linter.unusedVariables false
theorem min3_run (ts : Array TypeId) (t : TypeId) (x y n : Int) (h : min (min x y) 100 = n) (W : World) : (Builtin.min_ ts t #[.int .i64 x, .int .i64 y, .int .i64 100]).run Tryd.prog W = .ok (.int .i64 n) W := by
  have hr : (Builtin.min_ ts t #[.int .i64 x, .int .i64 y, .int .i64 100]).run Tryd.prog W = .ok (.int .i64 (if (100 : Int) < (if y < x then y else x) then 100 else (if y < x then y else x))) W := by simp [Builtin.min_, Builtin.min2]
  rw [hr]
  have e : (if (100 : Int) < (if y < x then y else x) then 100 else (if y < x then y else x)) = n := by
    by_cases h1 : y < x
    · rw [if_pos h1]; split <;> omega
    · rw [if_neg h1]; split <;> omega
  rw [e]
set_option maxRecDepth 100000 in
set_option maxHeartbeats 40000000 in
theorem walk (a0 : Int) (A1 : Option Addr) (c1 : Nat) (z1 : List Int) (A2 : Option Addr) (c2 : Nat) (z2 : List Int) (A3 : Option Addr) (c3 : Nat) (z3 : List Int) (w : World) (hI : Inv w) (h1 : Sl w A1 z1) (hc1 : z1.length ≤ c1) (k1 : Ok z1) (h2 : Sl w A2 z2) (hc2 : z2.length ≤ c2) (k2 : Ok z2) (h3 : Sl w A3 z3) (hc3 : z3.length ≤ c3) (k3 : Ok z3) :
    Calls Tryd.prog 10 #[.int .i64 a0, .slice A1 z1.length c1, .slice A2 z2.length c2, .slice A3 z3.length c3] w (Good w) := by
  have hnz : min (min (z1.length : Int) (z2.length : Int)) 100 = ((min (min z1.length z2.length) 100 : Nat) : Int) := by omega
  have hxl : (wlL z1 (min (min z1.length z2.length) 100)).length = min (min z1.length z2.length) 100 := by unfold wlL; rw [mk_length]; omega
  have hyl : (wlL z2 (min (min z1.length z2.length) 100)).length = min (min z1.length z2.length) 100 := by unfold wlL; rw [mk_length]; omega
  have hn100 : min (min z1.length z2.length) 100 ≤ 100 := by omega
  obtain ⟨n, hn⟩ : ∃ n, min (min z1.length z2.length) 100 = n := ⟨_, rfl⟩
  rw [hn] at hnz hxl hyl hn100
  clear hn
  have hmin3 := fun ts t W => min3_run ts t (z1.length : Int) (z2.length : Int) (n : Int) hnz W
  clear hnz
  have W1 := fun W (hs : Sl W A1 z1) => lwords_any A1 c1 z1 n W hs k1 (by omega)
  have W2 := fun W (hs : Sl W A2 z2) => lwords_any A2 c2 z2 n W hs k2 (by omega)
  have W3 := fun W (hs : Sl W A3 z3) => flags_any A3 c3 z3 n W hs k3 (by omega)
  have W4 := fun W (hs : Sl W A3 z3) => order_of A3 c3 z3 n W hs k3 (by omega)
  have hxw := wl_all z1 n
  have hyw := wl_all z2 n
  have hfw := fl_all z3 n
  have hfl := fl_len z3 n
  obtain ⟨x, hx0⟩ : ∃ x, wlL z1 n = x := ⟨_, rfl⟩
  obtain ⟨y, hy0⟩ : ∃ x, wlL z2 n = x := ⟨_, rfl⟩
  obtain ⟨f, hf0⟩ : ∃ x, flL z3 n = x := ⟨_, rfl⟩
  rw [hx0] at W1 hxl hxw
  rw [hy0] at W2 hyl hyw
  rw [hf0] at W3 hfl hfw
  have W1 := Lib.hid W1
  have W2 := Lib.hid W2
  have W3 := Lib.hid W3
  have W4 := Lib.hid W4
  have HX := Lib.hid (And.intro hxl hxw)
  have HY := Lib.hid (And.intro hyl hyw)
  have HF := Lib.hid (And.intro hfl hfw)
  clear hx0 hy0 hf0 hxl hyl hfl hxw hyw hfw
  go_enter Tryd.func10, Tryd.ntmps10
  have hBB : Below w.heap.size w w := Below.refl _ _
  have C0 : Calls Tryd.prog 48 #[.int .i64 a0, .int .i64 10] (w.alloc (.cells #[.int .i64 0, .int .i64 1, .int .i64 2, .int .i64 5, .int .i64 6, .int .i64 7, .int .i64 8, .int .i64 9, .int .i64 10, .int .i64 11] 3)) fun e w' => ∃ j : Nat, j < 10 ∧ e = .returned (.int .i64 (j : Int)) ∧ (w.alloc (.cells #[.int .i64 0, .int .i64 1, .int .i64 2, .int .i64 5, .int .i64 6, .int .i64 7, .int .i64 8, .int .i64 9, .int .i64 10, .int .i64 11] 3)) = w' := turn_some 10 (by omega) (by omega) a0 _
  have C0 := Lib.hid C0
  have hlit : Sl (w.alloc (.cells #[.int .i64 0, .int .i64 1, .int .i64 2, .int .i64 5, .int .i64 6, .int .i64 7, .int .i64 8, .int .i64 9, .int .i64 10, .int .i64 11] 3)) (some ⟨w.heap.size, 0, none⟩) [0, 1, 2, 5, 6, 7, 8, 9, 10, 11] := Sl.lit' w [0, 1, 2, 5, 6, 7, 8, 9, 10, 11] w.heap.size #[.int .i64 0, .int .i64 1, .int .i64 2, .int .i64 5, .int .i64 6, .int .i64 7, .int .i64 8, .int .i64 9, .int .i64 10, .int .i64 11] rfl rfl
  go_wp2_with fail
  refine C0.out.mono ?_
  rintro e w' ⟨j, hj, rfl, rfl⟩
  have hB := (Below.refl w.heap.size w).alloc (Nat.le_refl _) (.cells #[.int .i64 0, .int .i64 1, .int .i64 2, .int .i64 5, .int .i64 6, .int .i64 7, .int .i64 8, .int .i64 9, .int .i64 10, .int .i64 11] 3)
  have h1 := h1.step hB
  have h2 := h2.step hB
  have h3 := h3.step hB
  have hBB := hBB.trans (hB.mono hBB.size)
  obtain ⟨bl, ol, ebl, hbl, hcl⟩ := hlit.at_ (show j < 10 from hj)
  cases ebl
  have hsafe := lit_safe j hj
  obtain ⟨op, hop⟩ : ∃ op, nth [0, 1, 2, 5, 6, 7, 8, 9, 10, 11] j = op := ⟨_, rfl⟩
  rw [hop] at hcl hsafe
  try simp only [Nat.zero_add] at hcl
  have j1 : (0 : Int) ≤ (j : Int) := by omega
  have j2 : (j : Int) < 10 := by omega
  have HSF := Lib.hid hsafe
  clear hsafe hop hlit C0
  generalize (w.alloc (.cells #[.int .i64 0, .int .i64 1, .int .i64 2, .int .i64 5, .int .i64 6, .int .i64 7, .int .i64 8, .int .i64 9, .int .i64 10, .int .i64 11] 3)) = wb at *
  clear hB
  go_wp2_with fail
  refine (W1.out _ h1).mono ?_
  rintro e w1 ⟨Ahx, chx, rfl, hchx, hx, hB⟩
  have h1 := h1.step hB
  have h2 := h2.step hB
  have h3 := h3.step hB
  have hBB := hBB.trans (hB.mono hBB.size)
  go_wp2_with fail
  refine (W2.out _ h2).mono ?_
  rintro e w2 ⟨Ahy, chy, rfl, hchy, hy, hB⟩
  have h1 := h1.step hB
  have h2 := h2.step hB
  have h3 := h3.step hB
  have hx := hx.step hB
  have hBB := hBB.trans (hB.mono hBB.size)
  go_wp2_with fail
  refine (W3.out _ h3).mono ?_
  rintro e w3 ⟨Ahf, chf, rfl, hchf, hf, hB⟩
  have h3 := h3.step hB
  have hx := hx.step hB
  have hy := hy.step hB
  have hBB := hBB.trans (hB.mono hBB.size)
  go_wp2_with fail
  refine (W4.out _ h3).mono ?_
  rintro e w4 ⟨p, hpp, Ap, cp, rfl, hcp, hp, hB⟩
  have h3 := h3.step hB
  have hx := hx.step hB
  have hy := hy.step hB
  have hf := hf.step hB
  have hBB := hBB.trans (hB.mono hBB.size)
  obtain ⟨hxl, hxw⟩ := HX.out
  obtain ⟨hyl, hyw⟩ := HY.out
  obtain ⟨hfl, hfw⟩ := HF.out
  have M := ord_of hpp
  have hpl := M.len
  have hpm := M.mem
  have hrl := binL_len op x y
  have hsl := binL_len op y x
  have hrw := bin_word HSF.out (by omega) hxw hyw
  have hsw := bin_word HSF.out (by omega) hyw hxw
  have hml := picL_len f x y
  have hmw := pic_word (f := f) (by omega) (by omega) hxw hyw
  have hul := gatL_len x p
  have hvl := gatL_len y p
  have huw := gat_mem hpm hxl isW hxw
  have hvw := gat_mem hpm hyl isW hyw
  have hel : (x ++ y).length = (y ++ x).length := by rw [List.length_append, List.length_append]; omega
  have hel2 : (x ++ y).length ≤ 200 := by rw [List.length_append]; omega
  have haw := app_word hxw hyw
  have hbw := app_word hyw hxw
  have B1 : ∀ W A A' c c', Inv W → Sl W A x → Sl W A' y → x.length ≤ c → y.length ≤ c' → Calls Tryd.prog 15 #[.int .i64 op, .slice A x.length c, .slice A' y.length c'] W (RetL W (binL op x y) 0) := fun W A A' c c' hh h h' hc hc' => by have := bin_any op A A' c c' x y W hh h h' hc hc' (by unfold Ok; omega) (by unfold Ok; omega); rw [binE_0 HSF.out (by omega) (by omega) hxw hyw, orL_ok] at this; exact this
  have Q1 : ∀ W A A' A'' c c' c'', Sl W A f → Sl W A' x → Sl W A'' y → f.length ≤ c → x.length ≤ c' → y.length ≤ c'' → Calls Tryd.prog 18 #[.slice A f.length c, .slice A' x.length c', .slice A'' y.length c''] W (RetL W (picL f x y) 0) := fun W A A' A'' c c' c'' h h' h'' hc hc' hc'' => by have := pick_any A A' A'' c c' c'' f x y W h h' h'' hc hc' hc'' (by unfold Ok; omega) (by unfold Ok; omega) (by unfold Ok; omega); rwa [show picE f x y = 0 from ev3 (by omega) (by omega) (by omega) hfw hxw hyw, orL_ok] at this
  have K1 : ∀ W A A' c c', Sl W A x → Sl W A' y → x.length ≤ c → y.length ≤ c' → Calls Tryd.prog 38 #[.slice A x.length c, .slice A' y.length c'] W (RetL W (x ++ y) 0) := fun W A A' c c' h h' hc hc' => by have := cat_any A A' c c' x y W h h' hc hc' (by unfold Ok; omega) (by unfold Ok; omega); rwa [catE_0 (by omega) hxw hyw, orL_ok] at this
  have K2 : ∀ W A A' c c', Sl W A y → Sl W A' x → y.length ≤ c → x.length ≤ c' → Calls Tryd.prog 38 #[.slice A y.length c, .slice A' x.length c'] W (RetL W (y ++ x) 0) := fun W A A' c c' h h' hc hc' => by have := cat_any A A' c c' y x W h h' hc hc' (by unfold Ok; omega) (by unfold Ok; omega); rwa [catE_0 (by omega) hyw hxw, orL_ok] at this
  have B2 : ∀ W A A' c c', Inv W → Sl W A (x ++ y) → Sl W A' (y ++ x) → (x ++ y).length ≤ c → (y ++ x).length ≤ c' → Calls Tryd.prog 15 #[.int .i64 op, .slice A (x ++ y).length c, .slice A' (y ++ x).length c'] W (RetL W (binL op x y ++ binL op y x) 0) := fun W A A' c c' hh h h' hc hc' => by have := bin_any op A A' c c' (x ++ y) (y ++ x) W hh h h' hc hc' (by unfold Ok; omega) (by unfold Ok; omega); rw [binE_0 HSF.out (by omega) (by omega) haw hbw, orL_ok] at this; rw [bin_cat op x y (by omega)] at this; exact this
  have B3 : ∀ W A A' c c', Inv W → Sl W A y → Sl W A' x → y.length ≤ c → x.length ≤ c' → Calls Tryd.prog 15 #[.int .i64 op, .slice A y.length c, .slice A' x.length c'] W (RetL W (binL op y x) 0) := fun W A A' c c' hh h h' hc hc' => by have := bin_any op A A' c c' y x W hh h h' hc hc' (by unfold Ok; omega) (by unfold Ok; omega); rw [binE_0 HSF.out (by omega) (by omega) hyw hxw, orL_ok] at this; exact this
  have K3 : ∀ W A A' c c', Sl W A (binL op x y) → Sl W A' (binL op y x) → (binL op x y).length ≤ c → (binL op y x).length ≤ c' → Calls Tryd.prog 38 #[.slice A (binL op x y).length c, .slice A' (binL op y x).length c'] W (RetL W ((binL op x y) ++ (binL op y x)) 0) := fun W A A' c c' h h' hc hc' => by have := cat_any A A' c c' (binL op x y) (binL op y x) W h h' hc hc' (by unfold Ok; omega) (by unfold Ok; omega); rwa [catE_0 (by omega) hrw hsw, orL_ok] at this
  have G1 : ∀ W A A' c c', Sl W A x → Sl W A' p → x.length ≤ c → p.length ≤ c' → Calls Tryd.prog 30 #[.slice A x.length c, .slice A' p.length c'] W (RetL W (gatL x p) 0) := fun W A A' c c' h h' hc hc' => by have := gather_any A A' c c' x p W h h' hc hc' (by unfold Ok; omega) (by unfold Ok; omega); rw [gatE_0 hpm (by omega) (by omega) (by omega) hxw, orL_ok] at this; exact this
  have G2 : ∀ W A A' c c', Sl W A y → Sl W A' p → y.length ≤ c → p.length ≤ c' → Calls Tryd.prog 30 #[.slice A y.length c, .slice A' p.length c'] W (RetL W (gatL y p) 0) := fun W A A' c c' h h' hc hc' => by have := gather_any A A' c c' y p W h h' hc hc' (by unfold Ok; omega) (by unfold Ok; omega); rw [gatE_0 hpm (by omega) (by omega) (by omega) hyw, orL_ok] at this; exact this
  have B4 : ∀ W A A' c c', Inv W → Sl W A (gatL x p) → Sl W A' (gatL y p) → (gatL x p).length ≤ c → (gatL y p).length ≤ c' → Calls Tryd.prog 15 #[.int .i64 op, .slice A (gatL x p).length c, .slice A' (gatL y p).length c'] W (RetL W (gatL (binL op x y) p) 0) := fun W A A' c c' hh h h' hc hc' => by have := bin_any op A A' c c' (gatL x p) (gatL y p) W hh h h' hc hc' (by unfold Ok; omega) (by unfold Ok; omega); rw [binE_0 HSF.out (by omega) (by omega) huw hvw, orL_ok] at this; rw [bin_gat op (by omega) (by rw [hxl]; exact hpm)] at this; exact this
  have G3 : ∀ W A A' c c', Sl W A (binL op x y) → Sl W A' p → (binL op x y).length ≤ c → p.length ≤ c' → Calls Tryd.prog 30 #[.slice A (binL op x y).length c, .slice A' p.length c'] W (RetL W (gatL (binL op x y) p) 0) := fun W A A' c c' h h' hc hc' => by have := gather_any A A' c c' (binL op x y) p W h h' hc hc' (by unfold Ok; omega) (by unfold Ok; omega); rw [gatE_0 hpm (by omega) (by omega) (by omega) hrw, orL_ok] at this; exact this
  have D1 : ∀ W A A' c c', Sl W A f → Sl W A' x → f.length ≤ c → x.length ≤ c' → Calls Tryd.prog 23 #[.slice A f.length c, .slice A' x.length c'] W (RetL W (pacL f x) 0) := fun W A A' c c' h h' hc hc' => by have := pack_any A A' c c' f x W h h' hc hc' (by unfold Ok; omega) (by unfold Ok; omega); rw [show pacE f x = 0 from ev2 (by omega) (by omega) hfw hxw, orL_ok] at this; exact this
  have D2 : ∀ W A A' c c', Sl W A f → Sl W A' (picL f x y) → f.length ≤ c → (picL f x y).length ≤ c' → Calls Tryd.prog 23 #[.slice A f.length c, .slice A' (picL f x y).length c'] W (RetL W (pacL f x) 0) := fun W A A' c c' h h' hc hc' => by have := pack_any A A' c c' f (picL f x y) W h h' hc hc' (by unfold Ok; omega) (by unfold Ok; omega); rw [show pacE f (picL f x y) = 0 from ev2 (by omega) (by omega) hfw hmw, orL_ok] at this; rw [pac_pick f x y] at this; exact this
  have HPK := fun k (hk : k < n) => picL_nth f x y k (by omega)
  have hq1 : (gatL (binL op x y) p).length ≤ 100 := by rw [gatL_len]; omega
  have hq2 : (pacL f x).length ≤ 100 := by have := pacK_length f x f.length; unfold pacL; omega
  have hq3 : (binL op x y ++ binL op y x).length ≤ 200 := by rw [List.length_append]; omega
  obtain ⟨r, hr0⟩ : ∃ r, binL op x y = r := ⟨_, rfl⟩
  obtain ⟨s, hs0⟩ : ∃ r, binL op y x = r := ⟨_, rfl⟩
  obtain ⟨m, hm0⟩ : ∃ r, picL f x y = r := ⟨_, rfl⟩
  obtain ⟨u, hu0⟩ : ∃ r, gatL x p = r := ⟨_, rfl⟩
  obtain ⟨v, hv0⟩ : ∃ r, gatL y p = r := ⟨_, rfl⟩
  rw [hr0] at B1 B2 K3 B4 G3 hq1 hq3 hrl
  rw [hs0] at B2 B3 K3 hq3
  rw [hm0] at Q1 D2 hml
  simp only [hm0] at HPK
  rw [hu0] at G1 B4
  rw [hv0] at G2 B4
  obtain ⟨t, ht0⟩ : ∃ t, gatL r p = t := ⟨_, rfl⟩
  rw [ht0] at B4 G3 hq1
  obtain ⟨d, hd0⟩ : ∃ t, pacL f x = t := ⟨_, rfl⟩
  rw [hd0] at D1 D2 hq2
  obtain ⟨cc2, hcc0⟩ : ∃ t, r ++ s = t := ⟨_, rfl⟩
  rw [hcc0] at B2 K3 hq3
  obtain ⟨xy, hxy0⟩ : ∃ t, x ++ y = t := ⟨_, rfl⟩
  rw [hxy0] at K1 B2
  obtain ⟨yx, hyx0⟩ : ∃ t, y ++ x = t := ⟨_, rfl⟩
  rw [hyx0] at K2 B2
  have lc : cc2.length ≤ 9223372036854775807 := by omega
  have lt : t.length ≤ 9223372036854775807 := by omega
  have ld : d.length ≤ 9223372036854775807 := by omega
  have hrn : r.length = n := by omega
  have hmn : m.length = n := by omega
  have hd1 : ((r.length : Int) != (n : Int)) = false := by rw [bne_eq_false_iff_eq]; omega
  have hd2 : ((m.length : Int) != (n : Int)) = false := by rw [bne_eq_false_iff_eq]; omega
  have HLL := Lib.hid (And.intro hxl (And.intro hyl (And.intro hfl hmn)))
  have B1 := Lib.hid B1
  have Q1 := Lib.hid Q1
  have K1 := Lib.hid K1
  have K2 := Lib.hid K2
  have B2 := Lib.hid B2
  have B3 := Lib.hid B3
  have K3 := Lib.hid K3
  have G1 := Lib.hid G1
  have G2 := Lib.hid G2
  have B4 := Lib.hid B4
  have G3 := Lib.hid G3
  have D1 := Lib.hid D1
  have D2 := Lib.hid D2
  have HPK := Lib.hid HPK
  clear hxl hxw hyl hyw hfl hfw M hpl hpm hrl hsl hrw hsw hml hmw hul hvl huw hvw hel hel2 haw hbw hr0 hs0 hm0 hu0 hv0 ht0 hd0 hcc0 hxy0 hyx0 hrn hmn hq1 hq2 hq3 hpp
  go_wp2_with fail
  refine (B1.out _ _ _ _ _ (hI.below hBB) hx hy hchx hchy).mono ?_
  rintro e w5 ⟨Ahr, chr, rfl, hchr, hr, hB⟩
  have hx := hx.step hB
  have hy := hy.step hB
  have hf := hf.step hB
  have hp := hp.step hB
  have hBB := hBB.trans (hB.mono hBB.size)
  go_wp2_with fail
  refine (Q1.out _ _ _ _ _ _ _ hf hx hy hchf hchx hchy).mono ?_
  rintro e w6 ⟨Ahm, chm, rfl, hchm, hm, hB⟩
  have hx := hx.step hB
  have hy := hy.step hB
  have hf := hf.step hB
  have hp := hp.step hB
  have hr := hr.step hB
  have hBB := hBB.trans (hB.mono hBB.size)
  go_wp2_with fail
  refine (K1.out _ _ _ _ _ hx hy hchx hchy).mono ?_
  rintro e w7 ⟨Aha, cha, rfl, hcha, ha, hB⟩
  have hx := hx.step hB
  have hy := hy.step hB
  have hf := hf.step hB
  have hp := hp.step hB
  have hr := hr.step hB
  have hm := hm.step hB
  have hBB := hBB.trans (hB.mono hBB.size)
  go_wp2_with fail
  refine (K2.out _ _ _ _ _ hy hx hchy hchx).mono ?_
  rintro e w8 ⟨Ahb, chb, rfl, hchb, hb, hB⟩
  have hx := hx.step hB
  have hy := hy.step hB
  have hf := hf.step hB
  have hp := hp.step hB
  have hr := hr.step hB
  have hm := hm.step hB
  have ha := ha.step hB
  have hBB := hBB.trans (hB.mono hBB.size)
  go_wp2_with fail
  refine (B2.out _ _ _ _ _ (hI.below hBB) ha hb hcha hchb).mono ?_
  rintro e w9 ⟨Ahc, chc, rfl, hchc, hc, hB⟩
  have hx := hx.step hB
  have hy := hy.step hB
  have hf := hf.step hB
  have hp := hp.step hB
  have hr := hr.step hB
  have hm := hm.step hB
  have ha := ha.step hB
  have hb := hb.step hB
  have hBB := hBB.trans (hB.mono hBB.size)
  go_wp2_with fail
  refine (B3.out _ _ _ _ _ (hI.below hBB) hy hx hchy hchx).mono ?_
  rintro e w10 ⟨Ahs, chs, rfl, hchs, hs, hB⟩
  have hx := hx.step hB
  have hy := hy.step hB
  have hf := hf.step hB
  have hp := hp.step hB
  have hr := hr.step hB
  have hm := hm.step hB
  have hc := hc.step hB
  have hBB := hBB.trans (hB.mono hBB.size)
  go_wp2_with fail
  refine (K3.out _ _ _ _ _ hr hs hchr hchs).mono ?_
  rintro e w11 ⟨Aht, cht, rfl, hcht, ht, hB⟩
  have hx := hx.step hB
  have hy := hy.step hB
  have hf := hf.step hB
  have hp := hp.step hB
  have hr := hr.step hB
  have hm := hm.step hB
  have hc := hc.step hB
  have hs := hs.step hB
  have hBB := hBB.trans (hB.mono hBB.size)
  go_wp2_with fail
  refine (eq_self _ _ _ _ _ _ hc ht lc).mono ?_
  rintro e w12 ⟨rfl, hB⟩
  have hx := hx.step hB
  have hy := hy.step hB
  have hf := hf.step hB
  have hp := hp.step hB
  have hr := hr.step hB
  have hm := hm.step hB
  have hc := hc.step hB
  have ht := ht.step hB
  have hBB := hBB.trans (hB.mono hBB.size)
  go_wp2_with fail
  refine (G1.out _ _ _ _ _ hx hp hchx hcp).mono ?_
  rintro e w13 ⟨Ahu, chu, rfl, hchu, hu, hB⟩
  have hx := hx.step hB
  have hy := hy.step hB
  have hf := hf.step hB
  have hp := hp.step hB
  have hr := hr.step hB
  have hm := hm.step hB
  have hBB := hBB.trans (hB.mono hBB.size)
  go_wp2_with fail
  refine (G2.out _ _ _ _ _ hy hp hchy hcp).mono ?_
  rintro e w14 ⟨Ahv, chv, rfl, hchv, hv, hB⟩
  have hx := hx.step hB
  have hy := hy.step hB
  have hf := hf.step hB
  have hp := hp.step hB
  have hr := hr.step hB
  have hm := hm.step hB
  have hu := hu.step hB
  have hBB := hBB.trans (hB.mono hBB.size)
  go_wp2_with fail
  refine (B4.out _ _ _ _ _ (hI.below hBB) hu hv hchu hchv).mono ?_
  rintro e w15 ⟨Ahw, chw, rfl, hchw, hw, hB⟩
  have hx := hx.step hB
  have hy := hy.step hB
  have hf := hf.step hB
  have hp := hp.step hB
  have hr := hr.step hB
  have hm := hm.step hB
  have hu := hu.step hB
  have hv := hv.step hB
  have hBB := hBB.trans (hB.mono hBB.size)
  go_wp2_with fail
  refine (G3.out _ _ _ _ _ hr hp hchr hcp).mono ?_
  rintro e w16 ⟨Ahg, chg, rfl, hchg, hg, hB⟩
  have hx := hx.step hB
  have hy := hy.step hB
  have hf := hf.step hB
  have hp := hp.step hB
  have hr := hr.step hB
  have hm := hm.step hB
  have hw := hw.step hB
  have hBB := hBB.trans (hB.mono hBB.size)
  go_wp2_with fail
  refine (D1.out _ _ _ _ _ hf hx hchf hchx).mono ?_
  rintro e w17 ⟨Ahk, chk, rfl, hchk, hk, hB⟩
  have hx := hx.step hB
  have hy := hy.step hB
  have hf := hf.step hB
  have hm := hm.step hB
  have hw := hw.step hB
  have hg := hg.step hB
  have hBB := hBB.trans (hB.mono hBB.size)
  go_wp2_with fail
  refine (D2.out _ _ _ _ _ hf hm hchf hchm).mono ?_
  rintro e w18 ⟨Ahl, chl, rfl, hchl, hl, hB⟩
  have hx := hx.step hB
  have hy := hy.step hB
  have hf := hf.step hB
  have hm := hm.step hB
  have hw := hw.step hB
  have hg := hg.step hB
  have hk := hk.step hB
  have hBB := hBB.trans (hB.mono hBB.size)
  go_wp2_with fail
  refine (eq_self _ _ _ _ _ _ hw hg lt).mono ?_
  rintro e w19 ⟨rfl, hB⟩
  have hx := hx.step hB
  have hy := hy.step hB
  have hf := hf.step hB
  have hm := hm.step hB
  have hw := hw.step hB
  have hg := hg.step hB
  have hk := hk.step hB
  have hl := hl.step hB
  have hBB := hBB.trans (hB.mono hBB.size)
  go_wp2_with fail
  refine (eq_self _ _ _ _ _ _ hk hl ld).mono ?_
  rintro e w20 ⟨rfl, hB⟩
  have hx := hx.step hB
  have hy := hy.step hB
  have hf := hf.step hB
  have hm := hm.step hB
  have hk := hk.step hB
  have hl := hl.step hB
  have hBB := hBB.trans (hB.mono hBB.size)
  go_wp2
  go_loopw [35] (fun i wr => ∃ k : Nat, k ≤ n ∧ i = .int .i64 k ∧ Below w20.heap.size w20 wr) (fun i _ => n - (intOf i).toNat)
  case atStart => exact ⟨0, Nat.zero_le _, rfl, Below.refl _ _⟩
  case round =>
    obtain ⟨k, hk, rfl, hBr⟩ := hrel
    by_cases hlt : k < n
    · obtain ⟨e1, e2, e3, e4⟩ := HLL.out
      obtain ⟨bx, ox, rfl, hbx, hcx⟩ := (hx.step hBr).at_ (show k < x.length by omega)
      obtain ⟨by_, oy, rfl, hby, hcy⟩ := (hy.step hBr).at_ (show k < y.length by omega)
      obtain ⟨bf, of_, rfl, hbf, hcf⟩ := (hf.step hBr).at_ (show k < f.length by omega)
      obtain ⟨bm, om, rfl, hbm, hcm⟩ := (hm.step hBr).at_ (show k < m.length by omega)
      have q0 : (0 : Int) ≤ (k : Int) := by omega
      have qn : (k : Int) < (n : Int) := by omega
      have q1 : (k : Int) < (x.length : Int) := by omega
      have q2 : (k : Int) < (y.length : Int) := by omega
      have q3 : (k : Int) < (f.length : Int) := by omega
      have q4 : (k : Int) < (m.length : Int) := by omega
      have hpk := HPK.out k hlt
      rw [hpk] at hcm
      clear e1 e2 e3 e4 hpk
      by_cases h0 : nth f k = 0
      · simp only [h0, ne_eq, not_true_eq_false, if_false] at hcm
        rw [h0] at hcf
        obtain ⟨yv, hyv⟩ : ∃ v, nth y k = v := ⟨_, rfl⟩
        rw [hyv] at hcm hcy
        clear h0 hyv
        go_wp2
        go_quiet (fail)
        go_wp2
        go_roundw
        case rel => exact ⟨k + 1, by omega, by go_num, below_drewN hBr _⟩
        case measure => simp [intOf]; omega
      · simp only [h0, ne_eq, not_false_eq_true, if_true] at hcm
        have hb1 : (nth f k != 0) = true := by rw [bne_iff_ne]; exact h0
        have hb2 : (nth f k == 0) = false := by rw [beq_eq_false_iff_ne]; exact h0
        obtain ⟨fv, hfv⟩ : ∃ v, nth f k = v := ⟨_, rfl⟩
        obtain ⟨xv, hxv⟩ : ∃ v, nth x k = v := ⟨_, rfl⟩
        rw [hfv] at hcf hb1 hb2
        rw [hxv] at hcm hcx
        clear h0 hfv hxv
        go_wp2
        go_quiet (fail)
        go_wp2
        go_roundw
        case rel => exact ⟨k + 1, by omega, by go_num, below_drewN hBr _⟩
        case measure => simp [intOf]; omega
    · obtain rfl : k = n := by omega
      have hBB := hBB.trans (hBr.mono hBB.size)
      go_wp2_with fail
      refine (done_any _ (hI.below hBB)).mono ?_
      rintro e w21 ⟨rfl, hB⟩
      have hBB := hBB.trans (hB.mono hBB.size)
      go_wp2
      go_ret
      exact ⟨rfl, hBB⟩

/-! ### the row and the card -/
theorem own : ownKnob Tryd.prog.godebug = none := by kernel_rfl
theorem door_met (os : Os) (args : Array Value) : laidMetH Tryd.prog Rows.primAlikeRow.laid ((World.doorLaid Tryd.prog 61 os).forCall (fun _ _ => 0) ⟨#[], args, []⟩).memory :=
  laidMetH_of_parts3 (fuel := 8) (laidMet_of_run' 8 (by kernel_rfl) (by kernel_rfl)) (by kernel_rfl) (by kernel_rfl)
set_option maxRecDepth 100000 in
theorem lifted (os : Os) (started : os.Started) (H : Type) (enc : TypeId × Value → H) :
    ReturnsInHanded {} Tryd.checked os 10 .any (fun w args => (Rows.primAlikeSpec.pre enc Tryd.prog Tryd.f10 [] false w args ∧ laidMetH Tryd.prog Rows.primAlikeRow.laid w) ∧ sizedMet enc Tryd.prog Tryd.f10 (OpenSpec.ofChange Rows.primAlikeSpec) false w args)
      (Rows.primAlikeSpec.post enc Tryd.prog Tryd.f10 false true false false) := by
  refine returnsInHanded_of_change_and (C := Tryd.checked) (X := fun w _ => laidMetH Tryd.prog Rows.primAlikeRow.laid w) (fun _ _ _ hh h => h.of_heap hh) own started (by kernel_rfl) Tryd.func10
    (ChangeSpec.witness_shaped (enc := enc) (C := Tryd.checked) (os := os) (X := fun w _ => laidMetH Tryd.prog Rows.primAlikeRow.laid w) false (World.doorLaid Tryd.prog 61 os) #[.int .i64 0, .slice none 0 0, .slice none 0 0, .slice none 0 0] 8 rfl (World.shaped_of_RefB (by kernel_rfl) (by kernel_rfl)) (by kernel_rfl) (by kernel_rfl) (by kernel_rfl) (door_met os _)) ?_
  intro W base args ds gs before hval0 hW _ _ hL _
  have hval : ∀ (j : Nat) t v, Tryd.f10.params[j]? = some t → args[j]? = some v → Value.okWide Tryd.prog W .any base t v := hval0
  have hW' := hW
  obtain ⟨p, q, hA0, hV, rfl, hfz, hnd⟩ := hW
  have hA : DataW.TrodAll enc Tryd.prog W 0 (fun _ => true) true Tryd.f10.params.toList args.toList ds p := hA0
  rw [Tryd.params10] at hA hval
  obtain ⟨v0, vs0, d0, ds0, p0, q0, hargs, rfl, rfl, h0, r0⟩ := trodAll_cons hA
  obtain ⟨v1, vs1, d1, ds1, p1, q1, rfl, rfl, rfl, h1, r1⟩ := trodAll_cons r0
  obtain ⟨v2, vs2, d2, ds2, p2, q2, rfl, rfl, rfl, h2, r2⟩ := trodAll_cons r1
  obtain ⟨v3, vs3, d3, ds3, p3, q3, rfl, rfl, rfl, h3, r3⟩ := trodAll_cons r2
  obtain ⟨rfl, rfl, rfl⟩ := trodAll_nil r3
  obtain rfl : args = #[v0, v1, v2, v3] := by cases args; simp_all
  obtain ⟨rfl, rfl⟩ := trodVars_none hV
  clear hA0 hval0
  simp only [List.append_nil] at hW'
  obtain ⟨a0, rfl, rfl, rfl, w0⟩ := open_int Tryd.underlying3 (hval 0 3 v0 rfl rfl) h0
  have hlt1 : ∀ x ∈ p1, x.block < W.heap.size := fun x hx => by simpa using hW'.lt x (by simp [hx])
  have hg1 : ∀ (W' : World), Below W.heap.size W W' → DataW.Trod enc Tryd.prog W' 0 (fun b => decide (b < W.heap.size)) true 22 v1 d1 p1 :=
    fun W' hn => Below.trod Tryd.laidOut (by kernel_rfl) (of_decide_eq_true (by kernel_rfl)) h1 hn hlt1
  obtain ⟨A1, c1, z1, rfl, hle1, hmx1, hS1, hR1⟩ := open_sl (hval 1 22 v1 rfl rfl) h1 hlt1
  have hlt2 : ∀ x ∈ p2, x.block < W.heap.size := fun x hx => by simpa using hW'.lt x (by simp [hx])
  have hg2 : ∀ (W' : World), Below W.heap.size W W' → DataW.Trod enc Tryd.prog W' 0 (fun b => decide (b < W.heap.size)) true 22 v2 d2 p2 :=
    fun W' hn => Below.trod Tryd.laidOut (by kernel_rfl) (of_decide_eq_true (by kernel_rfl)) h2 hn hlt2
  obtain ⟨A2, c2, z2, rfl, hle2, hmx2, hS2, hR2⟩ := open_sl (hval 2 22 v2 rfl rfl) h2 hlt2
  have hlt3 : ∀ x ∈ p3, x.block < W.heap.size := fun x hx => by simpa using hW'.lt x (by simp [hx])
  have hg3 : ∀ (W' : World), Below W.heap.size W W' → DataW.Trod enc Tryd.prog W' 0 (fun b => decide (b < W.heap.size)) true 22 v3 d3 p3 :=
    fun W' hn => Below.trod Tryd.laidOut (by kernel_rfl) (of_decide_eq_true (by kernel_rfl)) h3 hn hlt3
  obtain ⟨A3, c3, z3, rfl, hle3, hmx3, hS3, hR3⟩ := open_sl (hval 3 22 v3 rfl rfl) h3 hlt3
  refine (walk a0 A1 c1 z1 A2 c2 z2 A3 c3 z3 W (of_laid hL) hS1 hle1 (by unfold Ok; omega) hS2 hle2 (by unfold Ok; omega) hS3 hle3 (by unfold Ok; omega)).mono fun e W' ⟨he, hB⟩ => ?_
  subst he
  exact ⟨_, rfl, _, _, _, [], _, [], hW', trodAll_cons_mk (shut_bool Tryd.underlying4 _) trodAll_mk0, trodAll_cons_mk (shut_int Tryd.underlying3 w0) (trodAll_cons_mk (hg1 _ hB) (trodAll_cons_mk (hg2 _ hB) (trodAll_cons_mk (hg3 _ hB) trodAll_mk0))), rfl, hB.frame _, fun h => by cases h⟩
theorem holds : Rows.PrimAlikeSaid :=
  OpenClaim.holds_of_wide 10 Tryd.f10 rfl rfl rfl rfl rfl rfl rfl ⟨rfl, rfl, rfl, rfl, rfl⟩ rfl rfl rfl rfl rfl (by kernel_rfl) Tryd.func10 (by kernel_rfl)
    (of_decide_eq_true (by kernel_rfl)) (by unfold Func.isWrapper; first | (rw [if_pos (by decide +kernel)]; kernel_rfl) | (rw [if_neg (by decide +kernel)]; exact ⟨rfl, rfl⟩))
    (fun os started H enc _ => lifted os started H enc)
theorem proved : Rows.PrimAlikeCardSaid :=
  Claim7.holds_tied_plain_at .later [] [.data] true (true, "c48142069686eda1f245f4174541a761d0ed2a85e4383fa61a5a23a4d37df986") false
    holds (fun _ h => by cases h) (by kernel_rfl) (fun _ h => by cases h) primAlike_row_tie rfl ⟨rfl, rfl⟩ (by kernel_rfl) rfl
    (fun f fn hf hfn => by
      obtain rfl : f = 10 := Option.some.inj ((show Tryd.prog.funcNamed "sheafworks/sheafworkslaw04.PrimAlike" = some 10 by kernel_rfl).symm.trans hf) |>.symm
      obtain rfl : fn = Tryd.f10 := (Option.some.inj (Tryd.func10.symm.trans hfn)).symm
      exact ⟨by kernel_rfl, fun j t ht => by
        rw [Tryd.params10] at ht
        have hm : t ∈ [3, 22] := by
          have := Array.mem_of_getElem? ht
          simpa using this
        have hall : ([3, 22].all fun u => !Tryd.prog.wantsStandIn u) = true := by kernel_rfl
        exact (show Tryd.prog.wantsStandIn t = false by simpa using List.all_eq_true.1 hall t hm)⟩)
    (by kernel_rfl)
#print axioms proved
end Go.Proofs.YtchjdhlmpdcibaaDoor.primAlike
