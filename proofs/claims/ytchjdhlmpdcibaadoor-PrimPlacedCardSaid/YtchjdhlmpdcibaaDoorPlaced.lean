/- PrimPlaced: for any three slices of ints that can be read, the law's call returns true, and they read as they did. No condition but the row's own (the listed table holds what the text lays). -/
import Derived.Test.YtchjdhlmpdcibaaDoorVa
import Derived.Test.YtchjdhlmpdcibaaDoorVo
import Derived.Test.YtchjdhlmpdcibaaDoorVl
import Derived.Test.YtchjdhlmpdcibaaDoorVn
import Derived.Test.YtchjdhlmpdcibaaDoorTie
import Derived.Test.YtchjdhlmpdcibaaDoorCards
import Derived.Test.YtchjdhlmpdcibaaDoorTd
import Derived.Test.YtchjdhlmpdcibaaDoorMs
import Derived.Deep.CutBlock
namespace Go.Proofs.YtchjdhlmpdcibaaDoor.primPlaced
open Go.ChangeShapes Go.WideShapes Go.ChangeAt Go.RowKit Go.ChangeMaps
set_option linter.unusedVariables false
theorem put0 {x p : List Int} {n : Nat} (M : Ord p n) (hx : x.length = n) (hn : n ≤ 200) (hw : ∀ y ∈ x, isW y) (W : World) (A A' : Option Addr) (c c' : Nat) (h : Sl W A x) (h' : Sl W A' p) (hc : x.length ≤ c) (hc' : p.length ≤ c') :
    Calls Tryd.prog 32 #[.slice A x.length c, .slice A' p.length c'] W (RetL W (putL x p) 0) := by
  have hl := M.len
  have := put_any A A' c c' x p W h h' hc hc' (by unfold Ok; omega) (by unfold Ok; omega)
  rwa [putE_0 M hx (by omega) hw, orL_ok] at this
theorem gat0 {x p : List Int} {n : Nat} (hp : ∀ y ∈ p, 0 ≤ y ∧ y < n) (hl : p.length ≤ 200) (hx : x.length = n) (hn : n ≤ 200) (hw : ∀ y ∈ x, isW y) (W : World) (A A' : Option Addr) (c c' : Nat) (h : Sl W A x) (h' : Sl W A' p) (hc : x.length ≤ c) (hc' : p.length ≤ c') :
    Calls Tryd.prog 30 #[.slice A x.length c, .slice A' p.length c'] W (RetL W (gatL x p) 0) := by
  have := gather_any A A' c c' x p W h h' hc hc' (by unfold Ok; omega) (by unfold Ok; omega)
  rwa [gatE_0 hp (by omega) hx (by omega) hw, orL_ok] at this
set_option maxRecDepth 100000 in
set_option maxHeartbeats 40000000 in
theorem walk (A0 : Option Addr) (c0 : Nat) (z0 : List Int) (A1 : Option Addr) (c1 : Nat) (z1 : List Int) (A2 : Option Addr) (c2 : Nat) (z2 : List Int) (w : World) (hI : Inv w) (h0 : Sl w A0 z0) (hc0 : z0.length ≤ c0) (k0 : Ok z0) (h1 : Sl w A1 z1) (hc1 : z1.length ≤ c1) (k1 : Ok z1) (h2 : Sl w A2 z2) (hc2 : z2.length ≤ c2) (k2 : Ok z2) :
    Calls Tryd.prog 8 #[.slice A0 z0.length c0, .slice A1 z1.length c1, .slice A2 z2.length c2] w (Good w) := by
  obtain ⟨i0, hi, hz0, hz1, hz2⟩ := info_parts int_info
  have W1 : Calls Tryd.prog 44 #[.slice A0 z0.length c0, .int .i64 200] w (RetS w (wlL z0 200)) := lwords_any A0 c0 z0 200 w h0 k0 (by omega)
  have hfw := wl_len z0 200
  have hwa := wl_all z0 200
  obtain ⟨a, ha0⟩ : ∃ a, wlL z0 200 = a := ⟨_, rfl⟩
  rw [ha0] at W1 hfw hwa
  have W2 := fun W (hs : Sl W A1 z1) => order_of A1 c1 z1 a.length W hs k1 (by omega)
  have W1 := Lib.hid W1
  have W2 := Lib.hid W2
  have HWA := Lib.hid hwa
  clear ha0 hwa
  go_enter Tryd.func8, Tryd.ntmps8
  have hBB : Below w.heap.size w w := Below.refl _ _
  go_wp2_with fail
  refine (W1.out).mono ?_
  rintro e w1 ⟨Aha, cha, rfl, hcha, ha, hB⟩
  have h1 := h1.step hB
  have h2 := h2.step hB
  have hBB := hBB.trans (hB.mono hBB.size)
  go_wp2_with fail
  refine (W2.out _ h1).mono ?_
  rintro e w2 ⟨p, hpp, Ap, cp, rfl, hcp, hp, hB⟩
  have h1 := h1.step hB
  have h2 := h2.step hB
  have ha := ha.step hB
  have hBB := hBB.trans (hB.mono hBB.size)
  have M := ord_of hpp
  have hpl := M.len
  have hwp : ∀ x ∈ p, isW x := fun x hx => by have := M.mem x hx; unfold isW; omega
  have hwu := up_all a.length (by omega)
  have hul := up_len a.length
  have hwP := put_mem M rfl isW HWA.out
  have hwG := gat_mem M.mem rfl isW HWA.out
  have hmV := put_mem M hul (fun x => 0 ≤ x ∧ x < (a.length : Int)) (fun x hx => (mem_up a.length x).1 hx)
  have hPl := putL_len a p
  have hGl : (gatL a p).length = a.length := by rw [gatL_len, hpl]
  have hVl : (putL (upL a.length) p).length = a.length := by rw [putL_len, hul]
  have C1 : ∀ W A A' c c', Sl W A a → Sl W A' p → a.length ≤ c → p.length ≤ c' → Calls Tryd.prog 32 #[.slice A a.length c, .slice A' p.length c'] W (RetL W (putL a p) 0) := fun W A A' c c' h h' hc hc' => put0 M rfl hfw HWA.out W A A' c c' h h' hc hc'
  have C2 : ∀ W A A' c c', Sl W A (putL a p) → Sl W A' p → (putL a p).length ≤ c → p.length ≤ c' → Calls Tryd.prog 30 #[.slice A (putL a p).length c, .slice A' p.length c'] W (RetL W a 0) := fun W A A' c c' h h' hc hc' => by have := gat0 M.mem (by omega) hPl hfw hwP W A A' c c' h h' hc hc'; rwa [gat_put M rfl] at this
  have C3 : ∀ W A A' c c', Sl W A a → Sl W A' p → a.length ≤ c → p.length ≤ c' → Calls Tryd.prog 30 #[.slice A a.length c, .slice A' p.length c'] W (RetL W (gatL a p) 0) := fun W A A' c c' h h' hc hc' => gat0 M.mem (by omega) rfl hfw HWA.out W A A' c c' h h' hc hc'
  have C4 : ∀ W A A' c c', Sl W A (gatL a p) → Sl W A' p → (gatL a p).length ≤ c → p.length ≤ c' → Calls Tryd.prog 32 #[.slice A (gatL a p).length c, .slice A' p.length c'] W (RetL W a 0) := fun W A A' c c' h h' hc hc' => by have := put0 M hGl hfw hwG W A A' c c' h h' hc hc'; rwa [put_gat M rfl] at this
  have C8 : ∀ W A A' c c', Sl W A (upL a.length) → Sl W A' p → a.length ≤ c → p.length ≤ c' → Calls Tryd.prog 32 #[.slice A a.length c, .slice A' p.length c'] W (RetL W (putL (upL a.length) p) 0) := fun W A A' c c' h h' hc hc' => by have := put0 M hul hfw hwu W A A' c c' h h' (by rw [hul]; exact hc) hc'; rwa [hul] at this
  have C9 : ∀ W A A' c c', Sl W A a → Sl W A' (putL (upL a.length) p) → a.length ≤ c → (putL (upL a.length) p).length ≤ c' → Calls Tryd.prog 30 #[.slice A a.length c, .slice A' (putL (upL a.length) p).length c'] W (RetL W (putL a p) 0) := fun W A A' c c' h h' hc hc' => by have := gat0 hmV (by omega) rfl hfw HWA.out W A A' c c' h h' hc hc'; rwa [gat_inv M rfl] at this
  have U := fun W => upto_any a.length W (by omega)
  have CX := fun (ix : List Int) (hm : ∀ x ∈ ix, 0 ≤ x ∧ x < (a.length : Int)) (hxl : ix.length ≤ 50) => (show (∀ W A A' c c', Sl W A (gatL a p) → Sl W A' ix → (gatL a p).length ≤ c → ix.length ≤ c' → Calls Tryd.prog 30 #[.slice A (gatL a p).length c, .slice A' ix.length c'] W (RetL W (gatL (gatL a p) ix) 0)) ∧ (∀ W A A' c c', Sl W A p → Sl W A' ix → p.length ≤ c → ix.length ≤ c' → Calls Tryd.prog 30 #[.slice A p.length c, .slice A' ix.length c'] W (RetL W (gatL p ix) 0)) ∧ (∀ W A A' c c', Sl W A a → Sl W A' (gatL p ix) → a.length ≤ c → (gatL p ix).length ≤ c' → Calls Tryd.prog 30 #[.slice A a.length c, .slice A' (gatL p ix).length c'] W (RetL W (gatL (gatL a p) ix) 0)) ∧ (gatL (gatL a p) ix).length ≤ 50 from
    ⟨fun W A A' c c' h h' hc hc' => gat0 hm (by omega) hGl hfw hwG W A A' c c' h h' hc hc', fun W A A' c c' h h' hc hc' => gat0 hm (by omega) hpl hfw hwp W A A' c c' h h' hc hc', fun W A A' c c' h h' hc hc' => by
      have := gat0 (gat_mem hm hpl (fun x => 0 ≤ x ∧ x < (a.length : Int)) M.mem) (by rw [gatL_len]; omega) rfl hfw HWA.out W A A' c c' h h' hc hc'
      rwa [← gat_gat M hm] at this, by rw [gatL_len]; exact hxl⟩)
  obtain ⟨P, hP⟩ : ∃ P, putL a p = P := ⟨_, rfl⟩
  obtain ⟨G, hG⟩ : ∃ G, gatL a p = G := ⟨_, rfl⟩
  obtain ⟨V, hV⟩ : ∃ V, putL (upL a.length) p = V := ⟨_, rfl⟩
  rw [hP] at C1 C2 C9 hPl
  rw [hG] at C3 C4 hGl
  simp only [hG] at CX
  rw [hV] at C8 C9 hVl
  have la : a.length ≤ 9223372036854775807 := by omega
  have lP : P.length ≤ 9223372036854775807 := by omega
  have C1 := Lib.hid C1
  have C2 := Lib.hid C2
  have C3 := Lib.hid C3
  have C4 := Lib.hid C4
  have C8 := Lib.hid C8
  have C9 := Lib.hid C9
  have CX := Lib.hid CX
  have U := Lib.hid U
  have hpl2 : p.length ≤ 200 := by omega
  clear M hpp hpl hwp hwu hul hwP hwG hmV hPl hGl hVl hP hG hV
  go_upto_block 0 with fail
  go_cut [9, 10] from 32 to 56 (fun v i wx => ∃ ix : List Int, (∀ x ∈ ix, 0 ≤ x ∧ x < (a.length : Int)) ∧ ix.length ≤ 50 ∧ ∃ A c, v = .slice A ix.length c ∧ ix.length ≤ c ∧ Sl wx A ix ∧ Below w2.heap.size w2 wx)
  case first =>
    go_wp2_with fail
    go_loopw [9, 10] (fun v i wr => ∃ (k : Nat) (L : List Int), k ≤ 50 ∧ k ≤ z2.length ∧ i = .int .i64 k ∧ (∀ x ∈ L, 0 ≤ x ∧ x < (a.length : Int)) ∧ L.length ≤ k ∧ OwnI wr w2.heap.size v L ∧ Below w2.heap.size w2 wr) (fun _ i _ => 50 - (intOf i).toNat)
    case atStart => exact ⟨0, [], Nat.zero_le _, Nat.zero_le _, rfl, by simp, by simp, OwnI.empty w2 _ (Nat.le_refl _), (Below.refl _ _).alloc (Nat.le_refl _) _⟩
    case round =>
      obtain ⟨k, L, hk, hkz, rfl, hLm, hLl, hown, hBr⟩ := hrel
      have HM := Lib.hid hLm
      clear hLm
      by_cases hlt : k < z2.length
      · by_cases h50 : k < 50
        · by_cases hn0 : 0 < a.length
          · obtain ⟨bz, oz, rfl, hbz, hcz⟩ := (h2.step hBr).at_ hlt
            have q1 : (0 : Int) ≤ (k : Int) := by omega
            have q2 : (k : Int) < (z2.length : Int) := by omega
            have q3 : (k : Int) < 50 := by omega
            have q4 : (0 : Int) < (a.length : Int) := by omega
            obtain ⟨x, hx⟩ : ∃ x, nth z2 k = x := ⟨_, rfl⟩
            rw [hx] at hcz
            clear hx
            have C7 := Lib.hid (turn_some a.length hn0 (by omega) x wr)
            go_wp2_with fail
            refine C7.out.mono ?_
            rintro e w' ⟨j, hj, rfl, rfl⟩
            go_wp2_with (at_builtin; refine wpList_append_own _ rfl _ _ 22 rfl w2.heap.size 3 i0 (.int .i64 0) 1 8 Tryd.underlying22 hi hz0 hz1 hz2 rfl (by decide) _ _ _ rfl (hown.alloc _) ⟨wr.heap.size, 0, none⟩ 1 1 [.int .i64 (j : Int)] rfl rfl (cell_one_new _ _ _) (by simp [Value.oneCell']) (by unfold maxLen; omega) (by omega) (by have := hBr.size; simp; omega) ?_; intro v' w3 hown' hgrow _; have hB2 := below_append hBr hBr.size hown hgrow)
            have hown2 := OwnI.snoc hown'
            clear hown' hgrow
            go_roundw
            case rel => exact ⟨k + 1, _, by omega, by omega, by go_num, fun y hy => by
              rcases List.mem_append.1 hy with h | h
              · exact HM.out y h
              · simp at h; subst h; omega, by simp; omega, hown2, hB2⟩
            case measure => simp [intOf]; omega
          · obtain ⟨A', c', rfl, hcc, hsl⟩ := hown.form
            have q2 : (k : Int) < (z2.length : Int) := by omega
            have q3 : (k : Int) < 50 := by omega
            go_wp2_with fail
            go_meet
            exact ⟨L, HM.out, by omega, A', c', rfl, hcc, hsl, hBr⟩
        · obtain ⟨A', c', rfl, hcc, hsl⟩ := hown.form
          have q2 : (k : Int) < (z2.length : Int) := by omega
          go_wp2_with fail
          go_meet
          exact ⟨L, HM.out, by omega, A', c', rfl, hcc, hsl, hBr⟩
      · obtain ⟨A', c', rfl, hcc, hsl⟩ := hown.form
        go_wp2_with fail
        go_meet
        exact ⟨L, HM.out, by omega, A', c', rfl, hcc, hsl, hBr⟩
  case rest =>
    obtain ⟨ix, hxm, hxl, Ax, cx, rfl, hcx, hx, hB⟩ := hcut
    have ha := ha.step hB
    have hp := hp.step hB
    have hBB := hBB.trans (hB.mono hBB.size)
    obtain ⟨C5, C6, C7, lX⟩ := CX.out ix hxm hxl
    obtain ⟨X, hX⟩ : ∃ X, gatL G ix = X := ⟨_, rfl⟩
    obtain ⟨Y, hY⟩ : ∃ Y, gatL p ix = Y := ⟨_, rfl⟩
    rw [hX] at C5 C7 lX
    rw [hY] at C6 C7
    have lX : X.length ≤ 9223372036854775807 := by omega
    have C5 := Lib.hid C5
    have C6 := Lib.hid C6
    have C7 := Lib.hid C7
    clear hxm hX hY
    go_wp2_with fail
    refine (C1.out _ _ _ _ _ ha hp hcha hcp).mono ?_
    rintro e w3 ⟨AhP, chP, rfl, hchP, hP, hB⟩
    have ha := ha.step hB
    have hp := hp.step hB
    have hx := hx.step hB
    have hBB := hBB.trans (hB.mono hBB.size)
    go_wp2_with fail
    refine (C2.out _ _ _ _ _ hP hp hchP hcp).mono ?_
    rintro e w4 ⟨Ahb, chb, rfl, hchb, hb, hB⟩
    have ha := ha.step hB
    have hp := hp.step hB
    have hx := hx.step hB
    have hP := hP.step hB
    have hBB := hBB.trans (hB.mono hBB.size)
    go_wp2_with fail
    refine (C3.out _ _ _ _ _ ha hp hcha hcp).mono ?_
    rintro e w5 ⟨AhG, chG, rfl, hchG, hG, hB⟩
    have ha := ha.step hB
    have hp := hp.step hB
    have hx := hx.step hB
    have hP := hP.step hB
    have hb := hb.step hB
    have hBB := hBB.trans (hB.mono hBB.size)
    go_wp2_with fail
    refine (C4.out _ _ _ _ _ hG hp hchG hcp).mono ?_
    rintro e w6 ⟨Ahd, chd, rfl, hchd, hd, hB⟩
    have ha := ha.step hB
    have hp := hp.step hB
    have hx := hx.step hB
    have hP := hP.step hB
    have hb := hb.step hB
    have hG := hG.step hB
    have hBB := hBB.trans (hB.mono hBB.size)
    go_wp2_with fail
    refine (eq_self _ _ _ _ _ _ hb ha la).mono ?_
    rintro e w7 ⟨rfl, hB⟩
    have ha := ha.step hB
    have hp := hp.step hB
    have hx := hx.step hB
    have hP := hP.step hB
    have hb := hb.step hB
    have hG := hG.step hB
    have hd := hd.step hB
    have hBB := hBB.trans (hB.mono hBB.size)
    clear hb
    go_wp2_with fail
    refine (eq_self _ _ _ _ _ _ hd ha la).mono ?_
    rintro e w8 ⟨rfl, hB⟩
    have ha := ha.step hB
    have hp := hp.step hB
    have hx := hx.step hB
    have hP := hP.step hB
    have hG := hG.step hB
    have hd := hd.step hB
    have hBB := hBB.trans (hB.mono hBB.size)
    clear hd
    go_wp2_with fail
    refine (C5.out _ _ _ _ _ hG hx hchG hcx).mono ?_
    rintro e w9 ⟨Ahs, chs, rfl, hchs, hs, hB⟩
    have ha := ha.step hB
    have hp := hp.step hB
    have hx := hx.step hB
    have hP := hP.step hB
    have hG := hG.step hB
    have hBB := hBB.trans (hB.mono hBB.size)
    go_wp2_with fail
    refine (C6.out _ _ _ _ _ hp hx hcp hcx).mono ?_
    rintro e w10 ⟨Ahy, chy, rfl, hchy, hy, hB⟩
    have ha := ha.step hB
    have hp := hp.step hB
    have hx := hx.step hB
    have hP := hP.step hB
    have hG := hG.step hB
    have hs := hs.step hB
    have hBB := hBB.trans (hB.mono hBB.size)
    go_wp2_with fail
    refine (C7.out _ _ _ _ _ ha hy hcha hchy).mono ?_
    rintro e w11 ⟨Aht, cht, rfl, hcht, ht, hB⟩
    have ha := ha.step hB
    have hp := hp.step hB
    have hx := hx.step hB
    have hP := hP.step hB
    have hG := hG.step hB
    have hs := hs.step hB
    have hy := hy.step hB
    have hBB := hBB.trans (hB.mono hBB.size)
    go_wp2_with fail
    refine (U.out _).mono ?_
    rintro e w12 ⟨Au, cu, rfl, hcu, _, hu, hB⟩
    have ha := ha.step hB
    have hp := hp.step hB
    have hx := hx.step hB
    have hP := hP.step hB
    have hG := hG.step hB
    have hs := hs.step hB
    have hy := hy.step hB
    have ht := ht.step hB
    have hBB := hBB.trans (hB.mono hBB.size)
    go_wp2_with fail
    refine (C8.out _ _ _ _ _ hu hp hcu hcp).mono ?_
    rintro e w13 ⟨AhV, chV, rfl, hchV, hV, hB⟩
    have ha := ha.step hB
    have hp := hp.step hB
    have hx := hx.step hB
    have hP := hP.step hB
    have hG := hG.step hB
    have hs := hs.step hB
    have hy := hy.step hB
    have ht := ht.step hB
    have hu := hu.step hB
    have hBB := hBB.trans (hB.mono hBB.size)
    go_wp2_with fail
    refine (C9.out _ _ _ _ _ ha hV hcha hchV).mono ?_
    rintro e w14 ⟨AhQ, chQ, rfl, hchQ, hQ, hB⟩
    have ha := ha.step hB
    have hp := hp.step hB
    have hx := hx.step hB
    have hP := hP.step hB
    have hG := hG.step hB
    have hs := hs.step hB
    have hy := hy.step hB
    have ht := ht.step hB
    have hu := hu.step hB
    have hV := hV.step hB
    have hBB := hBB.trans (hB.mono hBB.size)
    go_wp2_with fail
    refine (eq_self _ _ _ _ _ _ hs ht lX).mono ?_
    rintro e w15 ⟨rfl, hB⟩
    have ha := ha.step hB
    have hp := hp.step hB
    have hx := hx.step hB
    have hP := hP.step hB
    have hG := hG.step hB
    have hs := hs.step hB
    have hy := hy.step hB
    have ht := ht.step hB
    have hu := hu.step hB
    have hV := hV.step hB
    have hQ := hQ.step hB
    have hBB := hBB.trans (hB.mono hBB.size)
    go_wp2_with fail
    refine (eq_self _ _ _ _ _ _ hQ hP lP).mono ?_
    rintro e w16 ⟨rfl, hB⟩
    have ha := ha.step hB
    have hp := hp.step hB
    have hx := hx.step hB
    have hP := hP.step hB
    have hG := hG.step hB
    have hy := hy.step hB
    have hu := hu.step hB
    have hV := hV.step hB
    have hQ := hQ.step hB
    have hBB := hBB.trans (hB.mono hBB.size)
    go_wp2_with fail
    refine (done_any _ (hI.below hBB)).mono ?_
    rintro e w17 ⟨rfl, hB⟩
    have hBB := hBB.trans (hB.mono hBB.size)
    go_wp2
    go_ret
    exact ⟨rfl, hBB⟩

/-! ### the row and the card -/
theorem own : ownKnob Tryd.prog.godebug = none := by kernel_rfl
theorem door_met (os : Os) (args : Array Value) : laidMetH Tryd.prog Rows.primPlacedRow.laid ((World.doorLaid Tryd.prog 61 os).forCall (fun _ _ => 0) ⟨#[], args, []⟩).memory :=
  laidMetH_of_parts3 (fuel := 8) (laidMet_of_run' 8 (by kernel_rfl) (by kernel_rfl)) (by kernel_rfl) (by kernel_rfl)
set_option maxRecDepth 100000 in
theorem lifted (os : Os) (started : os.Started) (H : Type) (enc : TypeId × Value → H) :
    ReturnsInHanded {} Tryd.checked os 8 .any (fun w args => (Rows.primPlacedSpec.pre enc Tryd.prog Tryd.f8 [] false w args ∧ laidMetH Tryd.prog Rows.primPlacedRow.laid w) ∧ sizedMet enc Tryd.prog Tryd.f8 (OpenSpec.ofChange Rows.primPlacedSpec) false w args)
      (Rows.primPlacedSpec.post enc Tryd.prog Tryd.f8 false true false false) := by
  refine returnsInHanded_of_change_and (C := Tryd.checked) (X := fun w _ => laidMetH Tryd.prog Rows.primPlacedRow.laid w) (fun _ _ _ hh h => h.of_heap hh) own started (by kernel_rfl) Tryd.func8
    (ChangeSpec.witness_shaped (enc := enc) (C := Tryd.checked) (os := os) (X := fun w _ => laidMetH Tryd.prog Rows.primPlacedRow.laid w) false (World.doorLaid Tryd.prog 61 os) #[.slice none 0 0, .slice none 0 0, .slice none 0 0] 8 rfl (World.shaped_of_RefB (by kernel_rfl) (by kernel_rfl)) (by kernel_rfl) (by kernel_rfl) (by kernel_rfl) (door_met os _)) ?_
  intro W base args ds gs before hval0 hW _ _ hL _
  have hval : ∀ (j : Nat) t v, Tryd.f8.params[j]? = some t → args[j]? = some v → Value.okWide Tryd.prog W .any base t v := hval0
  have hW' := hW
  obtain ⟨p, q, hA0, hV, rfl, hfz, hnd⟩ := hW
  have hA : DataW.TrodAll enc Tryd.prog W 0 (fun _ => true) true Tryd.f8.params.toList args.toList ds p := hA0
  rw [Tryd.params8] at hA hval
  obtain ⟨v0, vs0, d0, ds0, p0, q0, hargs, rfl, rfl, h0, r0⟩ := trodAll_cons hA
  obtain ⟨v1, vs1, d1, ds1, p1, q1, rfl, rfl, rfl, h1, r1⟩ := trodAll_cons r0
  obtain ⟨v2, vs2, d2, ds2, p2, q2, rfl, rfl, rfl, h2, r2⟩ := trodAll_cons r1
  obtain ⟨rfl, rfl, rfl⟩ := trodAll_nil r2
  obtain rfl : args = #[v0, v1, v2] := by cases args; simp_all
  obtain ⟨rfl, rfl⟩ := trodVars_none hV
  clear hA0 hval0
  simp only [List.append_nil] at hW'
  have hlt0 : ∀ x ∈ p0, x.block < W.heap.size := fun x hx => by simpa using hW'.lt x (by simp [hx])
  have hg0 : ∀ (W' : World), Below W.heap.size W W' → DataW.Trod enc Tryd.prog W' 0 (fun b => decide (b < W.heap.size)) true 22 v0 d0 p0 :=
    fun W' hn => Below.trod Tryd.laidOut (by kernel_rfl) (of_decide_eq_true (by kernel_rfl)) h0 hn hlt0
  obtain ⟨A0, c0, z0, rfl, hle0, hmx0, hS0, hR0⟩ := open_sl (hval 0 22 v0 rfl rfl) h0 hlt0
  have hlt1 : ∀ x ∈ p1, x.block < W.heap.size := fun x hx => by simpa using hW'.lt x (by simp [hx])
  have hg1 : ∀ (W' : World), Below W.heap.size W W' → DataW.Trod enc Tryd.prog W' 0 (fun b => decide (b < W.heap.size)) true 22 v1 d1 p1 :=
    fun W' hn => Below.trod Tryd.laidOut (by kernel_rfl) (of_decide_eq_true (by kernel_rfl)) h1 hn hlt1
  obtain ⟨A1, c1, z1, rfl, hle1, hmx1, hS1, hR1⟩ := open_sl (hval 1 22 v1 rfl rfl) h1 hlt1
  have hlt2 : ∀ x ∈ p2, x.block < W.heap.size := fun x hx => by simpa using hW'.lt x (by simp [hx])
  have hg2 : ∀ (W' : World), Below W.heap.size W W' → DataW.Trod enc Tryd.prog W' 0 (fun b => decide (b < W.heap.size)) true 22 v2 d2 p2 :=
    fun W' hn => Below.trod Tryd.laidOut (by kernel_rfl) (of_decide_eq_true (by kernel_rfl)) h2 hn hlt2
  obtain ⟨A2, c2, z2, rfl, hle2, hmx2, hS2, hR2⟩ := open_sl (hval 2 22 v2 rfl rfl) h2 hlt2
  refine (walk A0 c0 z0 A1 c1 z1 A2 c2 z2 W (of_laid hL) hS0 hle0 (by unfold Ok; omega) hS1 hle1 (by unfold Ok; omega) hS2 hle2 (by unfold Ok; omega)).mono fun e W' ⟨he, hB⟩ => ?_
  subst he
  exact ⟨_, rfl, _, _, _, [], _, [], hW', trodAll_cons_mk (shut_bool Tryd.underlying4 _) trodAll_mk0, trodAll_cons_mk (hg0 _ hB) (trodAll_cons_mk (hg1 _ hB) (trodAll_cons_mk (hg2 _ hB) trodAll_mk0)), rfl, hB.frame _, fun h => by cases h⟩
theorem holds : Rows.PrimPlacedSaid :=
  OpenClaim.holds_of_wide 8 Tryd.f8 rfl rfl rfl rfl rfl rfl rfl ⟨rfl, rfl, rfl, rfl, rfl⟩ rfl rfl rfl rfl rfl (by kernel_rfl) Tryd.func8 (by kernel_rfl)
    (of_decide_eq_true (by kernel_rfl)) (by unfold Func.isWrapper; first | (rw [if_pos (by decide +kernel)]; kernel_rfl) | (rw [if_neg (by decide +kernel)]; exact ⟨rfl, rfl⟩))
    (fun os started H enc _ => lifted os started H enc)
theorem proved : Rows.PrimPlacedCardSaid :=
  Claim7.holds_tied_plain_at .later [] [.data] true (true, "c48142069686eda1f245f4174541a761d0ed2a85e4383fa61a5a23a4d37df986") false
    holds (fun _ h => by cases h) (by kernel_rfl) (fun _ h => by cases h) primPlaced_row_tie rfl ⟨rfl, rfl⟩ (by kernel_rfl) rfl
    (fun f fn hf hfn => by
      obtain rfl : f = 8 := Option.some.inj ((show Tryd.prog.funcNamed "sheafworks/sheafworkslaw04.PrimPlaced" = some 8 by kernel_rfl).symm.trans hf) |>.symm
      obtain rfl : fn = Tryd.f8 := (Option.some.inj (Tryd.func8.symm.trans hfn)).symm
      exact ⟨by kernel_rfl, fun j t ht => by
        rw [Tryd.params8] at ht
        have hm : t ∈ [22] := by
          have := Array.mem_of_getElem? ht
          simpa using this
        have hall : ([22].all fun u => !Tryd.prog.wantsStandIn u) = true := by kernel_rfl
        exact (show Tryd.prog.wantsStandIn t = false by simpa using List.all_eq_true.1 hall t hm)⟩)
    (by kernel_rfl)
#print axioms proved
end Go.Proofs.YtchjdhlmpdcibaaDoor.primPlaced
