/- Walks and mathematics of rank, part 24. -/
import Derived.Shelf.Slices.SearchI
import Derived.Shelf.Slices.Empties
import Derived.Ground.Names2Prog
import Derived.Test.YtgicfgpemcagcaaG23
import Derived.Sort.QuietIn
import Derived.OwnWalkIn
/- Walks of rank: among, Merge. -/
namespace Go.Proofs.Ytgicfgpemcagcaa
set_option linter.unusedVariables false
set_option maxRecDepth 100000
open Go.RowKit Go.Shelf
theorem search_any (A : Option Addr) (c : Nat) (zs : List Int) (x : Int) (w : World) (h : Sl w A zs) (hl : zs.length ≤ 1048576) (hs : zs.Pairwise (· ≤ ·)) :
    Calls Try.prog 78 #[.slice A zs.length c, .int .i64 x] w fun e w' => (∃ f, e = .returned (.tuple #[.int .i64 ((zs.countP (fun y => decide (y < x)) : Nat) : Int), .bool f])) ∧ ∃ q, w' = w.drewN q := by
  rcases Nat.eq_zero_or_pos zs.length with h0 | h0
  · have e := List.eq_nil_of_length_eq_zero h0
    subst e
    have hcon := Any.slices_BinarySearch_int_empty Try.lays25 A c x w
    change Calls Try.prog 78 _ _ _ at hcon
    refine hcon.mono ?_
    rintro e w' ⟨rfl, rfl⟩
    exact ⟨⟨_, rfl⟩, 0, rfl⟩
  · obtain ⟨b, off, rfl, hb, hc⟩ := h h0
    have hcon := Any.slices_BinarySearch_int Try.lays25 b off zs.length c zs x w (Nat.le_refl _) (by omega) (fun j hj => hc j hj) (by rw [List.take_length]; exact hs)
    change Calls Try.prog 78 _ _ _ at hcon
    rw [List.take_length] at hcon
    refine hcon.mono ?_
    rintro e w' ⟨rfl, q, rfl⟩
    exact ⟨⟨_, rfl⟩, q, rfl⟩
theorem below_dN (w : World) (q : Nat) : Below w.heap.size w (w.drewN q) := below_drewN (Below.refl _ _) q
set_option maxHeartbeats 2000000 in
theorem among_any (A A' : Option Addr) (c c' : Nat) (l o : List Int) (g : Int) (w : World) (h : Sl w A l) (h' : Sl w A' o) (hl : l.length ≤ 1048576) (ho : o.length ≤ 1048576) (hs : o.Pairwise (· ≤ ·)) (hw : ∀ j, j < l.length → isW (nth l j)) (hg : 0 ≤ g ∧ g ≤ 1) :
    Calls Try.prog 60 #[.slice A l.length c, .slice A' o.length c', .int .i64 g] w (RetS w (amL l o g)) := by
  obtain ⟨i0, hi, hz0, hz1, hz2⟩ := info_parts int_info
  have hmk := fun W => run_make_row (P := Try.prog) 22 3 i0 (.int .i64 0) Try.underlying22 hi hz0 hz1 rfl .i64 .i64 l.length (by rw [hz2]; omega) (by omega) W
  have fR := Full.made w l.length (by unfold maxLen; omega)
  have hB1 := (Below.refl w.heap.size w).alloc (Nat.le_refl _) (.cells (madeCells #[.int .i64 0] l.length) 3)
  have HF : Hid (∀ k, (fun i => ((i + o.countP (fun x => decide (x < nth l i + g)) : Nat) : Int)) k = ((k + o.countP (fun x => decide (x < nth l k + g)) : Nat) : Int)) := Lib.hid (fun _ => rfl)
  have HAM : Hid (amL l o g = mk (fun i => ((i + o.countP (fun x => decide (x < nth l i + g)) : Nat) : Int)) l.length) := Lib.hid rfl
  obtain ⟨F, hF⟩ : ∃ F : Nat → Int, (fun i => ((i + o.countP (fun x => decide (x < nth l i + g)) : Nat) : Int)) = F := ⟨_, rfl⟩
  rw [hF] at HF HAM
  clear hF
  have HC := Lib.hid (fun x W hW => search_any A' c' o x W hW ho hs)
  have HW := Lib.hid hw
  clear hw hs
  go_enter Try.func60, Try.ntmps60
  go_wp2
  go_loopw [17] (fun i wr => ∃ k : Nat, k ≤ l.length ∧ i = .int .i64 k ∧ Full wr w.heap.size (preK F l.length k) ∧ Below w.heap.size w wr) (fun i _ => l.length - (intOf i).toNat)
  case atStart => exact ⟨0, Nat.zero_le _, rfl, by rw [preK_zero]; exact fR, hB1⟩
  case round =>
    clear fR hB1 hmk
    obtain ⟨k, hk, rfl, fR, hBr⟩ := hrel
    by_cases hlt : k < l.length
    · obtain ⟨bp, op, rfl, hbp, hcp⟩ := (h.step hBr).at_ hlt
      have k3 : (0 : Int) ≤ (k : Int) := by omega
      have k4 : (k : Int) < (l.length : Int) := by omega
      have HK := Lib.hid (preK_set F l.length k)
      have HFK := Lib.hid (HF.out k)
      have hwk := HW.out k hlt
      have HL := Lib.hid (preK_len F l.length k)
      obtain ⟨x, hx⟩ : ∃ x, nth l k = x := ⟨_, rfl⟩
      rw [hx] at hcp HFK hwk
      unfold isW at hwk
      clear hx
      have hwr : IntKind.i64.wrap (x + g) = x + g := IntWalk.i64_in _ (by omega)
      have hcl : o.countP (fun y => decide (y < x + g)) ≤ o.length := List.countP_le_length
      obtain ⟨n, hn⟩ : ∃ n, o.countP (fun y => decide (y < x + g)) = n := ⟨_, rfl⟩
      have C := HC.out (x + g) wr (h'.step hBr)
      rw [hn] at C hcl HFK
      clear hn
      have C := Lib.hid C
      have hwr2 : IntKind.i64.wrap ((k : Int) + (n : Int)) = (k : Int) + (n : Int) := IntWalk.i64_in _ (by omega)
      go_wp2_with fail
      refine C.out.mono ?_
      rintro e w2 ⟨⟨f, rfl⟩, q, rfl⟩
      have fR2 : Full (wr.drewN q) w.heap.size (preK F l.length k) := fR
      have dR := fR2.cell k (by rw [HL.out]; exact hlt)
      have fr := fR2.frozen k
      have hB2 : Below w.heap.size w (wr.drewN q) := hBr.trans ((below_dN wr q).mono hBr.size)
      obtain ⟨wq, hwq⟩ : ∃ wq, wr.drewN q = wq := ⟨_, rfl⟩
      rw [hwq] at fR2 dR fr hB2 ⊢
      clear hwq
      go_wp2
      go_roundw
      case rel => exact ⟨k + 1, by omega, by go_num, (by rw [← HK.out, HFK.out, Int.natCast_add]; exact fR2.set_ k _), hB2.setCell (p := ⟨w.heap.size, k, none⟩) (Nat.le_refl _) _⟩
      case measure => simp [intOf]; omega
    · obtain rfl : k = l.length := by omega
      have HE := Lib.hid (preK_all F l.length)
      have HL := Lib.hid (preK_len F l.length l.length)
      go_wp2
      go_ret
      rw [HAM.out, ← HE.out]
      exact ⟨some ⟨w.heap.size, 0, none⟩, l.length, by rw [HL.out]; rfl, by rw [HL.out]; exact Nat.le_refl _, fR.sl, hBr⟩
theorem meE_3 {a b : List Int} (h : ¬ a.length + b.length ≤ 1048576) : meE a b = 3 := by unfold meE; rw [if_neg h]
theorem meE_c {a b : List Int} (h : a.length + b.length ≤ 1048576) (h1 : lsE [a, b] ≠ 0) : meE a b = lsE [a, b] := by unfold meE; rw [if_pos h, if_neg h1]
theorem meE_7 {a b : List Int} (h : a.length + b.length ≤ 1048576) (h1 : lsE [a, b] = 0) (h2 : (risB a && risB b) = false) : meE a b = 7 := by unfold meE; rw [if_pos h, if_pos h1, h2]; rfl
theorem meE_0 {a b : List Int} (h : a.length + b.length ≤ 1048576) (h1 : lsE [a, b] = 0) (h2 : risB a = true) (h3 : risB b = true) : meE a b = 0 := by unfold meE; rw [if_pos h, if_pos h1, h2, h3]; rfl
theorem retLL_none {w w1 : World} {xs ys : List Int} {er : Int} (h : er ≠ 0) (hB : Below w.heap.size w w1) : RetLL w (orL er xs) (orL er ys) er (.returned (.tuple #[.slice none 0 0, .slice none 0 0, .int .i64 er])) w1 := by
  rw [orL_err _ h, orL_err _ h]
  exact ⟨none, 0, none, 0, rfl, Nat.le_refl _, Nat.le_refl _, Sl.nil _ _, Sl.nil _ _, hB⟩
set_option maxHeartbeats 4000000 in
theorem Merge_any (A A' : Option Addr) (c c' : Nat) (a b : List Int) (w : World) (h : Sl w A a) (hc : a.length ≤ c) (k : Ok a) (h' : Sl w A' b) (hc' : b.length ≤ c') (k' : Ok b) (hsum : a.length + b.length ≤ 9223372036854775807) :
    Calls Try.prog 27 #[.slice A a.length c, .slice A' b.length c'] w (RetLL w (orL (meE a b) (amL a b 0)) (orL (meE a b) (amL b a 1)) (meE a b)) := by
  have hwr : IntKind.i64.wrap ((a.length : Int) + (b.length : Int)) = (a.length : Int) + (b.length : Int) := IntWalk.i64_in _ (by omega)
  by_cases h1 : a.length + b.length ≤ 1048576
  case neg =>
    have hd : decide ((1048576 : Int) < (a.length : Int) + (b.length : Int)) = true := by simp; omega
    rw [meE_3 h1]
    go_enter Try.func27, Try.ntmps27
    go_wp2
    go_ret3
    exact retLL_none (by decide) (Below.refl _ _)
  have hd : decide ((1048576 : Int) < (a.length : Int) + (b.length : Int)) = false := by simp; omega
  have bA := Blk.new w 22 #[.slice A a.length c, .slice A' b.length c']
  have hB0 : Below w.heap.size w (w.alloc (.cells #[.slice A a.length c, .slice A' b.length c'] 22)) := (Below.refl _ _).alloc (Nat.le_refl _) _
  have C1 := rkcheck2_any w.heap.size A A' c' c a b _ bA (h.step hB0) (h'.step hB0) hc hc'
  by_cases h2 : lsE [a, b] = 0
  case neg =>
    have hd2 : (lsE [a, b] != 0) = true := by rw [bne_iff_ne]; exact h2
    rw [meE_c h1 h2]
    have HE := Lib.hid h2
    obtain ⟨er, her⟩ : ∃ er, lsE [a, b] = er := ⟨_, rfl⟩
    rw [her] at C1 hd2 HE ⊢
    have C1 := Lib.hid C1
    clear h2 her
    go_enter Try.func27, Try.ntmps27
    go_wp2_with fail
    refine C1.out.mono ?_
    rintro e w1 ⟨rfl, hB⟩
    go_wp2
    go_ret3
    exact retLL_none HE.out (hB0.trans (hB.mono hB0.size))
  rw [h2] at C1
  have C1 := Lib.hid C1
  obtain ⟨hl2, hw2⟩ := lsE_ok h2
  have C2 := Lib.hid (fun W hW => isSorted_gen A c a W hW (by omega))
  have C3 := Lib.hid (fun W hW => isSorted_gen A' c' b W hW (by omega))
  cases h3 : risB a with
  | false =>
    rw [meE_7 h1 h2 (by rw [h3]; rfl)]
    rw [h3] at C2
    clear h2 h3 hw2 hl2
    go_enter Try.func27, Try.ntmps27
    go_wp2_with fail
    refine C1.out.mono ?_
    rintro e w1 ⟨rfl, hB⟩
    have hBB := hB0.trans (hB.mono hB0.size)
    go_wp2_with fail
    refine (C2.out _ (h.step hBB)).mono ?_
    rintro e w2 ⟨rfl, q, rfl⟩
    go_wp2
    go_ret3
    exact retLL_none (by decide) (hBB.trans ((below_dN w1 q).mono hBB.size))
  | true =>
    rw [h3] at C2
    cases h4 : risB b with
    | false =>
      rw [meE_7 h1 h2 (by rw [h3, h4]; rfl)]
      rw [h4] at C3
      clear h2 h3 h4 hw2 hl2
      go_enter Try.func27, Try.ntmps27
      go_wp2_with fail
      refine C1.out.mono ?_
      rintro e w1 ⟨rfl, hB⟩
      have hBB := hB0.trans (hB.mono hB0.size)
      go_wp2_with fail
      refine (C2.out _ (h.step hBB)).mono ?_
      rintro e w2 ⟨rfl, q, rfl⟩
      have hB2 : Below w.heap.size w (w1.drewN q) := hBB.trans ((below_dN w1 q).mono hBB.size)
      obtain ⟨wq, hwq⟩ : ∃ wq, w1.drewN q = wq := ⟨_, rfl⟩
      rw [hwq] at hB2 ⊢
      clear hwq
      go_wp2_with fail
      refine (C3.out _ (h'.step hB2)).mono ?_
      rintro e w3 ⟨rfl, q2, rfl⟩
      go_wp2
      go_ret3
      exact retLL_none (by decide) (hB2.trans ((below_dN wq q2).mono hB2.size))
    | true =>
      rw [meE_0 h1 h2 h3 h4, orL_ok, orL_ok]
      rw [h4] at C3
      have C4 := Lib.hid (fun W hW hW' => among_any A A' c c' a b 0 W hW hW' (by omega) (by omega) (ris_pairwise ((risB_iff b).1 h4)) (hw2 a (by simp)) (by omega))
      have C5 := Lib.hid (fun W hW hW' => among_any A' A c' c b a 1 W hW hW' (by omega) (by omega) (ris_pairwise ((risB_iff a).1 h3)) (hw2 b (by simp)) (by omega))
      have L4 := Lib.hid (amL_len a b 0)
      clear h2 h3 h4 hw2 hl2
      go_enter Try.func27, Try.ntmps27
      go_wp2_with fail
      refine C1.out.mono ?_
      rintro e w1 ⟨rfl, hB⟩
      have hBB := hB0.trans (hB.mono hB0.size)
      go_wp2_with fail
      refine (C2.out _ (h.step hBB)).mono ?_
      rintro e w2 ⟨rfl, q, rfl⟩
      have hB2 : Below w.heap.size w (w1.drewN q) := hBB.trans ((below_dN w1 q).mono hBB.size)
      obtain ⟨wq, hwq⟩ : ∃ wq, w1.drewN q = wq := ⟨_, rfl⟩
      rw [hwq] at hB2 ⊢
      clear hwq
      go_wp2_with fail
      refine (C3.out _ (h'.step hB2)).mono ?_
      rintro e w3 ⟨rfl, q2, rfl⟩
      have hB3 : Below w.heap.size w (wq.drewN q2) := hB2.trans ((below_dN wq q2).mono hB2.size)
      obtain ⟨wr, hwr2⟩ : ∃ wr, wq.drewN q2 = wr := ⟨_, rfl⟩
      rw [hwr2] at hB3 ⊢
      clear hwr2
      go_wp2_with fail
      refine (C4.out _ (h.step hB3) (h'.step hB3)).mono ?_
      rintro e w4 ⟨A4, c4, rfl, hc4, hs4, hB4⟩
      have hB5 := hB3.trans (hB4.mono hB3.size)
      go_wp2_with fail
      refine (C5.out _ (h'.step hB5) (h.step hB5)).mono ?_
      rintro e w5 ⟨A5, c5, rfl, hc5, hs5, hB6⟩
      go_wp2
      go_ret3
      exact ⟨A4, c4, A5, c5, rfl, hc4, hc5, hs4.step hB6, hs5, hB5.trans (hB6.mono hB5.size)⟩
end Go.Proofs.Ytgicfgpemcagcaa
/- Walks of rank: (*row).ranks. -/
namespace Go.Proofs.Ytgicfgpemcagcaa
set_option linter.unusedVariables false
set_option maxRecDepth 100000
open Go.RowKit Go.Shelf
attribute [local go_sem] Oper.semAt_some
theorem SInvK.congr {key key' : Int → Int} {lens S : List Int} {k : Nat} (h : SInvK key lens S k) (hk : ∀ x y : Nat, x < S.length → y < S.length → ltB key x y = ltB key' x y) : SInvK key' lens S k :=
  ⟨h.segs, h.perm, fun s hs hsl => (h.order s hs hsl).imp_of_mem (fun {a b} ha hb hab => by
    have hin : ∀ x ∈ sgL S lens s, ∃ y : Nat, x = (y : Int) ∧ y < S.length := fun x hx => by
      rw [(h.perm s hsl).mem_iff, mem_rgI] at hx
      obtain ⟨y, rfl, _, h2⟩ := hx
      have := h.segs.step s hsl
      exact ⟨y, rfl, by omega⟩
    obtain ⟨x, rfl, hx⟩ := hin a ha
    obtain ⟨y, rfl, hy⟩ := hin b hb
    rw [← hk x y hx hy]; exact hab)⟩
theorem sinv_words {l lens T : List Int} (hz : Segs l lens) (h : SInv (pkey (elL l lens)) lens T) (hT : T.length = l.length) : SInv (wkey l) lens T :=
  SInvK.congr h fun x y hx hy => by
    unfold ltB pkey wkey
    rw [Int.toNat_natCast, Int.toNat_natCast, el_word hz x (by omega), el_word hz y (by omega)]
/-- Each number stands somewhere. -/
theorem sinv_find {key : Int → Int} {lens T : List Int} {k : Nat} (h : SInvK key lens T k) (x : Nat) (hx : x < T.length) : ∃ s j, s < lens.length ∧ j < ofs lens (s + 1) - ofs lens s ∧ nth T (ofs lens s + j) = (x : Int) := by
  obtain ⟨s, h1, h2, h3⟩ := seg_of h.segs lens.length (Nat.le_refl _) x (by rw [h.segs.ofs_all]; exact hx)
  have hl := sg_len h.segs s h1
  have hm : (x : Int) ∈ sgL T lens s := by rw [(h.perm s h1).mem_iff, mem_rgI]; exact ⟨x, rfl, h2, h3⟩
  obtain ⟨j, hj, e⟩ := List.mem_iff_getElem.1 hm
  rw [← nth_eq _ _ hj, seg_nth _ _ _ _ hj] at e
  exact ⟨s, j, h1, by omega, e⟩
/-- The rank at each step through a segment. -/
theorem rk_step {l lens T : List Int} (hz : Segs l lens) (hT : T.length = l.length) (h : SInv (wkey l) lens T) (s j x : Nat) (hs : s < lens.length) (hj : j < ofs lens (s + 1) - ofs lens s) (hx : nth T (ofs lens s + j) = (x : Int)) :
    nth (rkL l lens lens.length) x = (if j = 0 then 0 else nth (rkL l lens lens.length) (nth T (ofs lens s + (j - 1))).toNat + (if nth l x = nth l (nth T (ofs lens s + (j - 1))).toNat then 0 else 1)) := by
  obtain ⟨x', hx', h1, h2⟩ := h.mem s j hs hj
  rw [hx] at hx'
  obtain rfl : x = x' := by omega
  rw [rkL_nth hz s x hs h1 h2]
  by_cases e : j = 0
  · subst e
    rw [if_pos rfl]
    have := rk_first hT h s hs (by omega)
    rw [Nat.add_zero] at hx
    rw [hx, Int.toNat_natCast] at this
    exact this
  · rw [if_neg e]
    obtain ⟨i, rfl⟩ : ∃ i, j = i + 1 := ⟨j - 1, by omega⟩
    have := rk_next hT h s i hs hj
    obtain ⟨y, hy, h3, h4⟩ := h.mem s i hs (by omega)
    rw [hx, hy] at this
    simp only [Int.toNat_natCast] at this
    simp only [Nat.add_sub_cancel]
    rw [hy, Int.toNat_natCast, rkL_nth hz s y hs h3 h4]
    exact this
end Go.Proofs.Ytgicfgpemcagcaa
/- A region that leaves the world alone, inside a round: one walk of the lexical order serves. -/
namespace Go.Proofs.Ytgicfgpemcagcaa
set_option linter.unusedVariables false
section
variable {F : Fence} {n : Nat} {P : Program} {Q : Exit → Act → World → Prop} {ops : Array Oper} {md : Region.Mode}
theorem uponIn_inRound (l : Nat) (o : Oper) (a : Act) (next : Act → World → Prop) (r : Result Next) : o.uponIn (F.inRound l) n P a next Q r = o.uponIn F n P a next Q r := by
  cases r with
  | ok x w => cases x <;> rfl
  | halt h w => cases h <;> rfl
def noDefer (ops : Array Oper) : Bool := ops.all fun o => match o.op with | .defer _ => false | _ => true
theorem noDefer_spec (h : noDefer ops = true) (i : Nat) (o : Oper) (ho : ops[i]? = some o) : ∀ c, o.op ≠ .defer c := by
  intro c e
  unfold noDefer at h
  rw [Array.all_eq_true] at h
  obtain ⟨hi, rfl⟩ := Array.getElem?_eq_some_iff.1 ho
  have := h i hi
  rw [e] at this
  simp at this
theorem opIn_round {l : Nat} {o : Oper} {a : Act} {w : World} {K : Act → World → Prop} (hd : ∀ c, o.op ≠ .defer c) (h : o.wpIn F n P a w K Q) : o.wpIn (F.inRound l) n P a w K Q := by
  obtain ⟨h1, h2⟩ := h
  refine ⟨h1, ?_⟩
  rw [uponIn_inRound, Oper.semAt_plain _ _ _ hd]
  rwa [Oper.semAt_plain F _ _ hd] at h2
theorem anyIn_round {l : Nat} (hd : noDefer ops = true) : ∀ (fuel : Nat) (listed : Array Bool) (a : Act) (w : World), wpAnyIn F n P md ops Q fuel listed a w → wpAnyIn (F.inRound l) n P md ops Q fuel listed a w
  | 0, _, _, _, h => h
  | fuel + 1, _, _, _, h => ⟨h.1, fun i hi => by
      have h2 := h.2 i hi
      unfold wpOpIn at h2 ⊢
      split
      · rename_i ho
        simp only [ho] at h2
        exact anyIn_round hd fuel _ _ _ h2
      · rename_i o ho
        simp only [ho] at h2
        split
        · rename_i hw
          simp only [hw, if_true] at h2
          exact opIn_round (noDefer_spec hd i o ho) (Oper.wpIn_mono (fun a w hK => anyIn_round hd fuel _ _ _ hK) h2)
        · rename_i hw
          simp only [hw] at h2
          exact ⟨h2.1, anyIn_round hd fuel _ _ _ h2.2⟩⟩
theorem region_quiet_round {id l : Nat} {a : Act} {w : World} {os : List Oper} (hro : F.round = none) (hm : P.follows .mixedOrders = true) (hB : Region.lexB .any os.toArray = true) (hd : noDefer os.toArray = true)
    (h : wpQuietIn F n P os.toArray (fun w' => ∃ n, w' = w.drewN n) (fun a' => ∀ w', (∃ n, w' = w.drewN n) → Q .normal a' w') os a) : (Code.region id os.toArray true).wpIn (F.inRound l) n P Q a w := by
  have hB0 := hB
  simp only [Region.lexB, Bool.and_eq_true] at hB
  refine wpIn_region_any hm (anyIn_round hd _ _ _ _ (wpAnyIn_of_quiet (C := fun w' => ∃ n, w' = w.drewN n) (Q := fun a' => ∀ w', (∃ n, w' = w.drewN n) → Q .normal a' w') hro (fun _ w' hw' h => h w' hw') _ _ _ _ ⟨1, rfl⟩ ?_))
  have := wpAnyQIn_lex (F := F) (n := n) (C := fun w' => ∃ n, w' = w.drewN n) (md := .any) hB.1 os.toArray.toList 0 (Array.replicate os.toArray.size false) a (by simp) (by simpa using hB.2) (by simpa using h)
  simpa using this
end
end Go.Proofs.Ytgicfgpemcagcaa
