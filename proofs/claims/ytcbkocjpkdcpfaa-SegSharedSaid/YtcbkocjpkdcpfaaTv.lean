/- The specification's Compact. -/
import Derived.Test.YtcbkocjpkdcpfaaTp
import Derived.Test.YtcbkocjpkdcpfaaTe
import Derived.Deep.RegionLaw
namespace Go.Proofs.Ytcbkocjpkdcpfaa
set_option linter.unusedVariables false
open Go.RowKit Go.Shelf

/-- How many are ahead of each place, as far as it is known. -/
def ahL (cnt : List Int) (N k : Nat) : List Int := (List.range (N + 1)).map fun j => if j ≤ k then adK cnt j else 0
theorem ahL_length (cnt : List Int) (N k : Nat) : (ahL cnt N k).length = N + 1 := by simp [ahL]
theorem ahL_zero (cnt : List Int) (N : Nat) : ahL cnt N 0 = List.replicate (N + 1) 0 := by
  apply List.ext_getElem
  · simp [ahL]
  · intro i h1 h2
    simp only [ahL, List.getElem_map, List.getElem_range, List.getElem_replicate]
    by_cases h : i ≤ 0
    · obtain rfl : i = 0 := by omega
      simp [adK]
    · rw [if_neg h]
theorem nth_ahL (cnt : List Int) (N k j : Nat) (hj : j ≤ k) (hk : k ≤ N) : nth (ahL cnt N k) j = adK cnt j := by
  rw [nth_eq _ _ (by rw [ahL_length]; omega)]
  simp [ahL, hj]
theorem ahL_succ (cnt : List Int) (N k : Nat) (hk : k < N) (x : Int) (hx : adK cnt (k + 1) = x) : ahL cnt N (k + 1) = (ahL cnt N k).set (k + 1) x := by
  apply List.ext_getElem
  · simp [ahL]
  · intro i h1 h2
    rw [List.getElem_set]
    simp only [ahL, List.getElem_map, List.getElem_range]
    by_cases h : k + 1 = i
    · subst h; simp [hx]
    · rw [if_neg h]
      by_cases h3 : i ≤ k
      · rw [if_pos h3, if_pos (by omega)]
      · rw [if_neg h3, if_neg (by omega)]
theorem adK_zero (cnt : List Int) (k : Nat) (h : nth cnt k = 0) : adK cnt (k + 1) = adK cnt k := by simp [adK, h]
theorem adK_one (cnt : List Int) (k : Nat) (h : nth cnt k ≠ 0) : adK cnt (k + 1) = adK cnt k + 1 := by simp [adK, h]

theorem grown_set (W : World) (b o : Nat) (v : Value) : W.grownBy (W.setCell ⟨b, o, none⟩ v) (some b) := ⟨rfl, rfl, rfl, by simp, fun i _ hne => Below.heap_setCell _ _ _ _ (fun e => hne (by rw [e]))⟩
theorem nth_set_ne (l : List Int) (i j : Nat) (x : Int) (h : i ≠ j) : nth (l.set i x) j = nth l j := by
  unfold nth; rw [List.getD_eq_getElem?_getD, List.getElem?_set_ne h, List.getD_eq_getElem?_getD]
theorem cell_drew_alloc {W : World} {b o : Nat} {v : Value} (h : W.cell? ⟨b, o, none⟩ = some v) (hb : b < W.heap.size) (ob : Obj) : (W.drew.alloc ob).cell? ⟨b, o, none⟩ = some v :=
  (((Below.refl W.heap.size W).drew.alloc (Nat.le_refl _) ob).cell (p := ⟨b, o, none⟩) hb).trans h
set_option maxRecDepth 100000 in
set_option maxHeartbeats 40000000 in
theorem rcompact_any (A A' : Option Addr) (c c' : Nat) (ss ls : List Int) (n : Int) (w : World) (h : Sl w A ss) (h' : Sl w A' ls) (hls : ss.length ≤ 9223372036854775807) (hll : ls.length ≤ 9223372036854775807) (hb : ∀ j, j < ls.length → nth ls j ≤ 9223372036854775807) :
    Calls Try.prog 36 #[.slice A ss.length c, .slice A' ls.length c', .int .i64 n] w (RetLL w (orL (shE ss ls n) (bgL ss ls n.toNat)) (orL (shE ss ls n) (pcK (cntL n.toNat (plL ss ls)) n.toNat)) (shE ss ls n)) := by
  obtain ⟨i0, hi, hz0, hz1, hz2⟩ := info_parts int_info
  have C1 := rshared_any A A' c c' ss ls n w h h' hls hll hb
  clear hb
  by_cases he : shE ss ls n = 0
  · rw [he] at C1
    have HE := Lib.hid he
    obtain ⟨N, rfl, hP, _⟩ := Pool.of he
    rw [he]
    clear he
    simp only [Int.toNat_natCast]
    have hN := hP.size
    have hM := hP.many
    have HP := Lib.hid hP
    have C2 := fun W (hB : Below w.heap.size w W) => counts_any A A' c c' N ss ls W (h.step hB) (h'.step hB) hP
    have hmk := fun W => run_make_row (P := Try.prog) 22 3 i0 (.int .i64 0) Try.underlying22 hi hz0 hz1 rfl .i64 .i64 (N + 1) (by rw [hz2]; omega) (by omega) W
    simp only [Int.natCast_add, Int.cast_ofNat_Int] at hmk
    have HBG := Lib.hid (fun k hk => nth_bgL ss ls N k hk)
    have HBL := Lib.hid (bgL_length ss ls N)
    obtain ⟨cnt, hcnt⟩ : ∃ cnt, cntL N (plL ss ls) = cnt := ⟨_, rfl⟩
    have HCL := Lib.hid (show cnt.length = N by rw [← hcnt, cntL_length])
    have HC0 := Lib.hid (show ∀ k, 0 ≤ nth cnt k by
      intro k
      rw [← hcnt]
      by_cases hk : k < N
      · rw [nth_cntL _ _ _ hk]; omega
      · unfold nth; rw [List.getD_eq_getElem?_getD, List.getElem?_eq_none (by rw [cntL_length]; omega)]; simp)
    rw [hcnt] at C2 HBG ⊢
    obtain ⟨m, hm⟩ : ∃ m, ss.length = m := ⟨_, rfl⟩
    have HM := Lib.hid hm
    rw [hm] at C1 C2 hM ⊢
    have hw1 : IntKind.i64.wrap ((N : Int) + 1) = (N : Int) + 1 := IntWalk.i64_in _ (by omega)
    clear hm hP hcnt
    go_enter Try.func36, Try.ntmps36
    go_upto_region 4 with (go_at_call 26; refine C1.mono ?_; rintro e w' ⟨rfl, q, rfl⟩)
    obtain ⟨wm, hwm⟩ : ∃ wm, w.drewN q = wm := ⟨_, rfl⟩
    have hBm : Below w.heap.size w wm := by rw [← hwm]; exact below_drewN w q
    rw [hwm]
    have hsm := hBm.size
    go_cut [11, 12, 13] from 27 to 34 (fun x y z wx => ∃ gc gp ga, x = .slice (some ⟨gc, 0, none⟩) N N ∧ y = .slice (some ⟨gp, 0, none⟩) 0 0 ∧ z = .slice (some ⟨ga, 0, none⟩) (N + 1) (N + 1) ∧ Full wx gc cnt ∧ OwnI wx w.heap.size (.slice (some ⟨gp, 0, none⟩) 0 0) [] ∧ Full wx ga (List.replicate (N + 1) 0) ∧ gp ≠ gc ∧ gp ≠ ga ∧ ga ≠ gc ∧ w.heap.size ≤ ga ∧ Below w.heap.size w wx)
    case first =>
      go_region_with (go_at_call 54; refine (C2 _ (by repeat (first | exact hBm | refine Below.drew ?_ | refine Below.alloc ?_ (by first | omega | (simp; omega)) _))).mono ?_; rintro e w2 ⟨gc, p, hp, rfl, hg, hf, hb⟩; rw [HCL.out] at hp; obtain rfl := hp)
      all_goals
        have hs2 := hb.size
        have hl2 := hf.lt
        try simp at hs2 hg hl2
        go_wp2_with fail
        go_meet
      all_goals
        refine ⟨gc, _, _, rfl, rfl, rfl, ?_, ?_, ?_, ?_, ?_, ?_, ?_, ?_⟩
        · first | exact hf | exact hf.alloc _ | exact (hf.alloc _).alloc _
        · first
            | exact OwnI.empty _ _ (by first | omega | (simp; omega))
            | exact (OwnI.empty _ _ (by first | omega | (simp; omega))).alloc _
            | (have q := OwnI.empty (w2.alloc (.cells (madeCells #[.int .i64 0] (p + 1)) 3)) w.heap.size (by first | omega | (simp; omega)); rw [World.size_alloc] at q; exact q)
            | exact (OwnI.empty wm.drew _ (by first | omega | (simp; omega))).below hb (Nat.le_refl _)
            | exact ((OwnI.empty wm.drew _ (by first | omega | (simp; omega))).below hb (Nat.le_refl _)).alloc _
            | exact ((OwnI.empty wm.drew _ (by first | omega | (simp; omega))).alloc _).below hb (Nat.le_refl _)
            | (have q := OwnI.empty (wm.drew.alloc (.cells (madeCells #[.int .i64 0] (p + 1)) 3)) w.heap.size (by first | omega | (simp; omega)); rw [World.size_alloc] at q; exact q.below hb (Nat.le_refl _))
        · first
            | exact Full.made _ _ (by unfold maxLen; omega)
            | exact (Full.made _ _ (by unfold maxLen; omega)).alloc _
            | (have q := Full.made (w2.alloc (.cells #[] 3)) (p + 1) (by unfold maxLen; omega); rw [World.size_alloc] at q; exact q)
            | exact (Full.made wm.drew _ (by unfold maxLen; omega)).below hb (Nat.le_refl _)
            | exact ((Full.made wm.drew _ (by unfold maxLen; omega)).below hb (Nat.le_refl _)).alloc _
            | exact ((Full.made wm.drew _ (by unfold maxLen; omega)).alloc _).below hb (Nat.le_refl _)
            | (have q := Full.made (wm.drew.alloc (.cells #[] 3)) (p + 1) (by unfold maxLen; omega); rw [World.size_alloc] at q; exact q.below hb (Nat.le_refl _))
        · first | omega | (simp; omega)
        · first | omega | (simp; omega)
        · first | omega | (simp; omega)
        · first | omega | (simp; omega)
        · first
            | exact ((hBm.drew.trans (hb.mono (by first | omega | (simp; omega)))).alloc (by first | omega | (simp; omega)) _).alloc (by first | omega | (simp; omega)) _
            | exact ((hBm.drew.alloc (by first | omega | (simp; omega)) _).trans (hb.mono (by first | omega | (simp; omega)))).alloc (by first | omega | (simp; omega)) _
            | exact (((hBm.drew.alloc (by first | omega | (simp; omega)) _).alloc (by first | omega | (simp; omega)) _).trans (hb.mono (by first | omega | (simp; omega))))
    case rest =>
      obtain ⟨gc, gp, ga, rfl, rfl, rfl, hfc0, hop0, hfa0, n1, n2, n3, n4, hB0⟩ := hcut
      clear C1 C2 hmk hwm hBm hsm
      go_wp2
      go_loopw [12, 14] (fun v i wr => ∃ (k : Nat) (u : Value), k ≤ N ∧ i = .int .i64 k ∧ u = v ∧ OwnI wr w.heap.size v (pcK cnt k) ∧ v.ownBlock ≠ some gc ∧ v.ownBlock ≠ some ga ∧ Full wr gc cnt ∧ Full wr ga (ahL cnt N k) ∧ Below w.heap.size w wr) (fun _ i _ => N - (intOf i).toNat)
      case atStart => exact ⟨0, _, Nat.zero_le _, rfl, rfl, hop0, by simpa [Value.ownBlock] using n1, by simpa [Value.ownBlock] using n2, hfc0, by rw [ahL_zero]; exact hfa0, hB0⟩
      case round =>
        obtain ⟨k, u, hk, rfl, rfl, hv, hvc, hva, hfc, hfa, hB⟩ := hrel
        by_cases hlt : k < N
        · have cC := hfc.cell k (by rw [HCL.out]; exact hlt)
          have cA := hfa.cell k (by rw [ahL_length]; omega)
          rw [nth_ahL cnt N k k (Nat.le_refl _) hk] at cA
          have hxx := nth_ahL cnt N k k (Nat.le_refl _) hk
          have cA1 := hfa.cell (k + 1) (by rw [ahL_length]; omega)
          have f1 := hfa.frozen (k + 1)
          have hbd := adK_bnd cnt k
          have hc0 := HC0.out k
          have hz := adK_zero cnt k
          have ho := adK_one cnt k
          have hps := Lib.hid (pcK_succ cnt k)
          have hpl := pcK_length cnt k
          have Has := Lib.hid (fun x hx => ahL_succ cnt N k hlt x hx)
          obtain ⟨x, hx⟩ : ∃ x, adK cnt k = x := ⟨_, rfl⟩
          obtain ⟨y, hy⟩ : ∃ y, nth cnt k = y := ⟨_, rfl⟩
          obtain ⟨z, hzz⟩ : ∃ z, nth (ahL cnt N k) (k + 1) = z := ⟨_, rfl⟩
          rw [hx] at cA hbd hz ho hpl hxx
          rw [hy] at cC hc0 hz ho hps
          rw [hzz] at cA1
          clear hx hy hzz
          have hk1 : (0 : Int) ≤ (k : Int) := by omega
          have hk2 : (k : Int) < (N : Int) := by omega
          have hk3 : (k : Int) < (N : Int) + 1 := by omega
          have hk4 : (0 : Int) ≤ (k : Int) + 1 := by omega
          have hk5 : (k : Int) + 1 < (N : Int) + 1 := by omega
          have hw2 : IntKind.i64.wrap ((k : Int) + 1) = (k : Int) + 1 := IntWalk.i64_in _ (by omega)
          have hlc := hfc.lt
          have hla := hfa.lt
          by_cases h0 : y = 0
          · have Hz := Lib.hid (hz h0)
            have HP2 : Hid (pcK cnt (k + 1) = pcK cnt k) := Lib.hid (by rw [hps.out, if_pos h0])
            have hd : decide (0 < y) = false := by rw [h0]; rfl
            clear hz ho h0
            go_wp2
            go_roundw
            case rel => exact ⟨k + 1, u, by omega, by go_num, rfl, by rw [HP2.out]; exact hv.kept (grown_set wr ga (k + 1) (.int .i64 x)) (.inr hva), hvc, hva, hfc.far (p := ⟨ga, k + 1, none⟩) (by show gc ≠ ga; omega) _, by rw [Has.out x Hz.out]; exact hfa.set_ (k + 1) x, hB.setCell (p := ⟨ga, k + 1, none⟩) n4 _⟩
            case measure => simp [intOf]; omega
          · have Ho := Lib.hid (ho h0)
            have HP2 : Hid (pcK cnt (k + 1) = pcK cnt k ++ [(k : Int)]) := Lib.hid (by rw [hps.out, if_neg h0])
            have hd : decide (0 < y) = true := by simp; omega
            have HAk := Lib.hid (show nth (ahL cnt N k) k = x from hxx)
            clear hz ho h0
            go_wp2
            obtain ⟨W8, hW8⟩ : ∃ W8, wr.setCell ⟨ga, k + 1, none⟩ (.int .i64 x) = W8 := ⟨_, rfl⟩
            have hv8 : OwnI W8 w.heap.size u (pcK cnt k) := by rw [← hW8]; exact hv.kept (grown_set wr ga (k + 1) (.int .i64 x)) (.inr hva)
            have hfc8 : Full W8 gc cnt := by rw [← hW8]; exact hfc.far (p := ⟨ga, k + 1, none⟩) (by show gc ≠ ga; omega) _
            have hfa8 : Full W8 ga ((ahL cnt N k).set (k + 1) x) := by rw [← hW8]; exact hfa.set_ (k + 1) x
            have hB8 : Below w.heap.size w W8 := by rw [← hW8]; exact hB.setCell (p := ⟨ga, k + 1, none⟩) n4 _
            rw [hW8]
            have cW := hfa8.cell k (by rw [List.length_set, ahL_length]; omega)
            rw [nth_set_ne _ _ _ _ (by omega), HAk.out] at cW
            have hla8 := hfa8.lt
            have hlc8 := hfc8.lt
            have cW1 : W8.drew.cell? ⟨ga, k, none⟩ = some (.int .i64 x) := cW
            have cW2 := cell_drew_alloc cW hla8 (.cells #[.int .i64 (k : Int)] 3)
            have hs8 := hB8.size
            have cX := hfa8.cell (k + 1) (by rw [List.length_set, ahL_length]; omega)
            have cW3 := cell_drew_alloc cX hla8 (.cells #[.int .i64 (k : Int)] 3)
            have fW3 := (((Below.refl W8.heap.size W8).drew.alloc (Nat.le_refl _) (.cells #[.int .i64 (k : Int)] 3)).frozen (p := ⟨ga, k + 1, none⟩) hla8).trans (hfa8.frozen (k + 1))
            clear cC cA cA1 f1 hW8 hv hfc hfa hB hfc0 hop0 hfa0 hB0
            go_region_law (refine step_append_lies _ (by rfl) _ _ 22 (by rfl) w.heap.size 3 i0 (.int .i64 0) 1 8 Try.underlying22 hi hz0 hz1 hz2 rfl (by decide) _ _ _ (by rfl) ((show OwnI W8.drew w.heap.size u (pcK cnt k) from hv8).alloc _) ⟨W8.heap.size, 0, none⟩ 1 1 [.int .i64 (k : Int)] (by rfl) rfl (cell_one_new _ _ _) (by simp [Value.oneCell']) (by omega) (by unfold maxLen; omega) (by omega) (by simp; omega) (W8.heap.size + 1) (by simp) ?_; intro g cap w3 hown' hgrow hat hlt3; have c31 := (hgrow.cell_far ⟨ga, k, none⟩ (by simp; omega) (Ne.symm hva)).trans cW2; have c32 := (hgrow.cell_far ⟨ga, k + 1, none⟩ (by simp; omega) (Ne.symm hva)).trans cW3; have f32 := (hgrow.frozen_far ⟨ga, k + 1, none⟩ (by simp; omega) (Ne.symm hva)).trans fW3)
            all_goals
              have hgc : g ≠ gc ∧ g ≠ ga := by
                rcases hat with e | e
                · exact ⟨fun e2 => hvc (by rw [e, e2]), fun e2 => hva (by rw [e, e2])⟩
                · omega
              have hv3 := OwnI.snoc hown'
              have hfc3 : Full w3 gc cnt := (show Full (W8.alloc (.cells #[.int .i64 (k : Int)] 3)).drew gc cnt from hfc8.alloc _).grown hgrow (Ne.symm hvc)
              have hfa3 := (show Full (W8.alloc (.cells #[.int .i64 (k : Int)] 3)).drew ga ((ahL cnt N k).set (k + 1) x) from hfa8.alloc _).grown hgrow (Ne.symm hva)
              have hB3 : Below w.heap.size w w3 := (show Below w.heap.size w (W8.alloc (.cells #[.int .i64 (k : Int)] 3)).drew from Below.drew (hB8.alloc hs8 _)).grown hgrow (by simp; omega) (fun j e => (hv8.lt j e).1)
              have hfa4 := hfa3.set_ (k + 1) (x + 1)
              rw [List.set_set] at hfa4
              go_wp2
              go_roundw
              case rel => exact ⟨k + 1, _, by omega, by go_num, rfl, by rw [HP2.out]; exact hv3.kept (grown_set w3 ga (k + 1) (.int .i64 (x + 1))) (.inr (by simp [Value.ownBlock]; omega)), by simp [Value.ownBlock]; omega, by simp [Value.ownBlock]; omega, hfc3.far (p := ⟨ga, k + 1, none⟩) (by show gc ≠ ga; omega) _, by rw [Has.out (x + 1) Ho.out]; exact hfa4, hB3.setCell (p := ⟨ga, k + 1, none⟩) n4 _⟩
              case measure => simp [intOf]; omega
        · obtain rfl : k = N := by omega
          obtain ⟨wE, rfl⟩ : ∃ wE, wE = wr := ⟨_, rfl⟩
          have hla := hfa.lt
          have hBE := hB
          have hsE := hB.size
          clear hfc0 hop0 hfa0 hB0 hfc
          go_wp2
          go_loopw [15, 16] (fun v2 i wr => ∃ (j : Nat), j ≤ m ∧ i = .int .i64 j ∧ OwnI wr wE.heap.size v2 ((bgL ss ls k).take j) ∧ Below wE.heap.size wE wr) (fun _ i _ => m - (intOf i).toNat)
          case atStart => exact ⟨0, Nat.zero_le _, rfl, by rw [List.take_zero]; exact OwnI.empty wE _ (Nat.le_refl _), (Below.refl _ _).alloc (Nat.le_refl _) _⟩
          case round =>
            obtain ⟨j, hj, rfl, hv2, hB2⟩ := hrel
            by_cases hlt2 : j < m
            · have hks : j < ss.length := by rw [HM.out]; exact hlt2
              obtain ⟨b, off, rfl, hbb, hcc⟩ := ((h.step hBE).step hB2).at_ hks
              have hat := HP.out.at_ j hks
              have HBGj := Lib.hid (HBG.out j hks)
              obtain ⟨s, hs⟩ : ∃ s : Nat, nth ss j = (s : Int) := ⟨(nth ss j).toNat, by omega⟩
              rw [hs] at hcc hat HBGj
              rw [Int.toNat_natCast] at HBGj
              have hsN : s ≤ k := by omega
              have cA := (hB2.cell (p := ⟨ga, s, none⟩) hla).trans (hfa.cell s (by rw [ahL_length]; omega))
              rw [nth_ahL cnt k k s hsN (Nat.le_refl _)] at cA
              have hbd := adK_bnd cnt s
              have HT := Lib.hid (take_snoc (bgL ss ls k) j (by rw [HBL.out, HM.out]; exact hlt2))
              rw [HBGj.out] at HT
              have HLL : Hid (((bgL ss ls k).take j).length = j) := Lib.hid (by rw [List.length_take, HBL.out, HM.out]; omega)
              obtain ⟨y, hy⟩ : ∃ y, adK cnt s = y := ⟨_, rfl⟩
              rw [hy] at cA hbd HT
              have hs1 : (0 : Int) ≤ (s : Int) := by omega
              have hs2 : (s : Int) < (k : Int) + 1 := by omega
              have hj1 : (0 : Int) ≤ (j : Int) := by omega
              have hj2 : (j : Int) < (m : Int) := by omega
              have hsq := hB2.size
              clear hs hy hat
              go_wp2_with (at_builtin; refine wpList_append_own _ rfl _ _ 22 rfl wE.heap.size 3 i0 (.int .i64 0) 1 8 Try.underlying22 hi hz0 hz1 hz2 rfl (by decide) _ _ _ rfl (hv2.alloc _) ⟨wr.heap.size, 0, none⟩ 1 1 [.int .i64 y] rfl rfl (cell_one_new _ _ _) (by simp [Value.oneCell']) (by rw [HLL.out]; unfold maxLen; omega) (by rw [HLL.out]; omega) (by simp; omega) ?_; intro v' w5 hown' hgrow _)
              have hv5 : OwnI w5 wE.heap.size v' ((bgL ss ls k).take (j + 1)) := by rw [HT.out]; exact OwnI.snoc hown'
              have hB5 := below_append hB2 hsq hv2 hgrow
              clear hown' hgrow
              go_roundw
              case rel => exact ⟨j + 1, by omega, by go_num, hv5, hB5⟩
              case measure => simp [intOf]; omega
            · obtain rfl : j = m := by omega
              have HTK : Hid ((bgL ss ls k).take j = bgL ss ls k) := Lib.hid (List.take_of_length_le (by rw [HBL.out, HM.out]; exact Nat.le_refl _))
              rw [HTK.out] at hv2
              obtain ⟨A5, c5, rfl, hc5, hs5⟩ := hv2.form
              obtain ⟨A6, c6, rfl, hc6, hs6⟩ := hv.form
              have hs6' := hs6.step hB2
              have hBf : Below w.heap.size w wr := hBE.trans (hB2.mono hsE)
              go_wp2
              go_ret3
              rw [show orL 0 (bgL ss ls k) = bgL ss ls k from rfl, show orL 0 (pcK cnt k) = pcK cnt k from rfl]
              exact ⟨A5, c5, A6, c6, rfl, hc5, hc6, hs5, hs6', hBf⟩
  · have hd : (shE ss ls n != 0) = true := by rw [bne_iff_ne]; exact he
    have HE1 := Lib.hid (show orL (shE ss ls n) (bgL ss ls n.toNat) = [] by simp [orL, he])
    have HE2 := Lib.hid (show orL (shE ss ls n) (pcK (cntL n.toNat (plL ss ls)) n.toNat) = [] by simp [orL, he])
    clear he
    go_enter Try.func36, Try.ntmps36
    go_wp2_with (go_at_call 26; refine C1.mono ?_; rintro e w1 ⟨rfl, q, rfl⟩)
    go_ret3
    rw [HE1.out, HE2.out]
    exact retLL_nil (below_drewN w q)
end Go.Proofs.Ytcbkocjpkdcpfaa
