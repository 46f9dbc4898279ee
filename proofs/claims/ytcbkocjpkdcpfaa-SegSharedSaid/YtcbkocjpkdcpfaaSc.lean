/- Owners (the program's side). -/
import Derived.Test.YtcbkocjpkdcpfaaSb
import Derived.WalkMore
namespace Go.Proofs.Ytcbkocjpkdcpfaa
set_option linter.unusedVariables false
open Go.RowKit Go.Shelf

attribute [local go_sem] Oper.semAt_some

def owF (zs : List Int) (pre : List (Fin zs.length)) : List Int := pre.flatMap fun x => List.replicate (nth zs x.val).toNat ((x.val : Nat) : Int)
def owL (zs : List Int) : List Int := owF zs (List.finRange zs.length)
theorem owF_snoc (zs : List Int) (pre : List (Fin zs.length)) (x : Fin zs.length) : owF zs (pre ++ [x]) = owF zs pre ++ List.replicate (nth zs x.val).toNat ((x.val : Nat) : Int) := by simp [owF]
theorem owF_fr_length {zs : List Int} (hz : Fine zs) (k : Nat) (hk : k ≤ zs.length) : ((owF zs (fr zs.length k)).length : Int) = psum zs k := by
  induction k with
  | zero => simp [fr, owF, psum_zero]
  | succ k ih =>
    have hn := hz.nth k (by omega)
    rw [fr_succ _ k (by omega), owF_snoc, List.length_append, List.length_replicate, psum_succ zs k (by omega), ← ih (by omega)]
    simp only [Int.natCast_add]
    omega
theorem owL_length {zs : List Int} (hz : Fine zs) : ((owL zs).length : Int) = zs.sum := by
  have := owF_fr_length hz zs.length (Nat.le_refl _)
  rw [fr_all, psum_all] at this
  exact this
theorem fr_prefix (n k : Nat) : fr n k <+: List.finRange n := List.take_prefix _ _
theorem owF_prefix {zs : List Int} {p q : List (Fin zs.length)} (h : p <+: q) : owF zs p <+: owF zs q := by
  obtain ⟨r, rfl⟩ := h
  exact ⟨owF zs r, by simp [owF]⟩
theorem nth_le_sum {zs : List Int} (hz : Fine zs) (k : Nat) (hk : k < zs.length) : nth zs k ≤ zs.sum := by
  have h1 := psum_mono zs zs.length (Nat.le_refl _) hz.pos (k + 1) zs.length (by omega) (Nat.le_refl _)
  have h2 := (hz.psum k (by omega)).1
  rw [psum_succ zs k hk, psum_all] at h1
  omega
theorem ow_end {zs : List Int} {pre : List (Fin zs.length)} {x : Fin zs.length} {j : Nat} {L : List Int} (h : L = owF zs pre ++ List.replicate j ((x.val : Nat) : Int)) (hj : (j : Int) = nth zs x.val) : L = owF zs (pre ++ [x]) := by
  rw [owF_snoc, h, show (nth zs x.val).toNat = j by omega]
theorem ow_more {zs : List Int} {pre : List (Fin zs.length)} {x : Fin zs.length} {j : Nat} {L : List Int} (h : L = owF zs pre ++ List.replicate j ((x.val : Nat) : Int)) : L ++ [((x.val : Nat) : Int)] = owF zs pre ++ List.replicate (j + 1) ((x.val : Nat) : Int) := by
  rw [h, List.append_assoc, List.replicate_succ']
theorem ow_prefix {zs : List Int} {pre : List (Fin zs.length)} {x : Fin zs.length} {j : Nat} {L : List Int} (h : L = owF zs pre ++ List.replicate j ((x.val : Nat) : Int)) (hj : (j : Int) < nth zs x.val) : L ++ [((x.val : Nat) : Int)] <+: owF zs (pre ++ [x]) := by
  rw [ow_more h, owF_snoc]
  refine (List.prefix_append_right_inj _).2 ⟨List.replicate ((nth zs x.val).toNat - (j + 1)) ((x.val : Nat) : Int), ?_⟩
  rw [List.replicate_append_replicate]; congr 1; omega
theorem retL_sl {w W : World} {A : Option Addr} {T c : Nat} {zs : List Int} {er : Int} (hT : zs.length = T) (hc : T ≤ c) (h : Sl W A zs) (hB : Below w.heap.size w W) : RetL w zs er (.returned (.tuple #[.slice A T c, .int .i64 er])) W := by
  subst hT
  exact ⟨_, _, rfl, hc, h, hB⟩
theorem wpIn_scope {n : Nat} {P : Program} {c : Code} {Q : Exit → Act → World → Prop} {a : Act} {w : World} (h : c.wpIn Fence.wide n P (Exit.noGoto Q) a w) : (Code.scope c).wpIn Fence.wide n P Q a w :=
  wpIn_wide.2 (wp_scope_straight (wpIn_wide.1 h))
set_option maxRecDepth 100000 in
set_option maxHeartbeats 2000000 in
theorem owners_any (A : Option Addr) (c : Nat) (zs : List Int) (w : World) (h : Sl w A zs) (hl : zs.length ≤ 9223372036854775807) :
    Calls Try.prog 18 #[.slice A zs.length c] w (RetL w (orL (ckE zs) (owL zs)) (ckE zs)) := by
  obtain ⟨i0, hi, hz0, hz1, hz2⟩ := info_parts int_info
  refine (callsIn_wide (n := 8)).1 ?_
  refine callsIn_of_wp_marks Try.func18 rfl trivial ?_ rfl
  simp only [Try.ntmps18, List.size_toArray, List.length_cons, List.length_nil, Nat.reduceAdd, Nat.reduceSub, Array.replicate_succ, Array.replicate_zero, List.push_toArray, List.append_toArray, List.nil_append, List.cons_append]
  by_cases he : ckE zs = 0
  · have hF := Fine.of_ck he
    have hlen := hF.len
    obtain ⟨T, hT⟩ : ∃ T : Nat, zs.sum = (T : Int) := ⟨zs.sum.toNat, by have := hF.psum zs.length (Nat.le_refl _); rw [psum_all] at this; omega⟩
    have hT1 : T ≤ 1048576 := by have := hF.sum; omega
    have C1 := check_any A c zs w h hl
    rw [he, (ck_ok he).2.2.2.2, hT] at C1
    have HE := Lib.hid he; clear he
    have HT := Lib.hid hT; clear hT
    gi_wp2
    refine wpIn_scope ?_
    gi_wp2_with (first | (refine ⟨trivial, ?_⟩; gi_at_call 12; refine (callsIn_wide.2 C1).mono ?_; rintro e w1 ⟨rfl, hB1⟩; have hs1 := hB1.size) | (gi_at_make; refine wpListIn_make_own _ rfl _ _ 22 rfl (w1.heap.size + 1) 3 i0 (.int .i64 0) 1 Try.underlying22 hi hz0 hz1 .i64 .i64 _ T rfl rfl rfl (by rw [hz2]; omega) (by unfold maxLen; omega) (by simp) ?_; intro w2 hown2 hg2; have hz2' := hg2.size; simp at hz2') | (refine ⟨trivial, ?_⟩; gi_at_call 48; refine (callsIn_wide.2 (segments_any _ ⟨_, _, _, rfl⟩ _)).mono ?_; rintro e w' ⟨rfl, rfl⟩))
    refine wpIn_label ?_
    gi_wp2_with (first | (refine ⟨trivial, ?_⟩; gi_at_call 12; refine (callsIn_wide.2 C1).mono ?_; rintro e w1 ⟨rfl, hB1⟩; have hs1 := hB1.size) | (gi_at_make; refine wpListIn_make_own _ rfl _ _ 22 rfl (w1.heap.size + 1) 3 i0 (.int .i64 0) 1 Try.underlying22 hi hz0 hz1 .i64 .i64 _ T rfl rfl rfl (by rw [hz2]; omega) (by unfold maxLen; omega) (by simp) ?_; intro w2 hown2 hg2; have hz2' := hg2.size; simp at hz2') | (refine ⟨trivial, ?_⟩; gi_at_call 48; refine (callsIn_wide.2 (segments_any _ ⟨_, _, _, rfl⟩ _)).mono ?_; rintro e w' ⟨rfl, rfl⟩))
    have hB2 : Below w.heap.size w w2 := (hB1.alloc hs1 _).grown hg2 (by simp; omega) (fun k e => by cases e)
    simp only [World.size_alloc] at hown2
    have bT := (((Blk.new w1 3 #[.int .i64 (T : Int)]).grown hg2 (by simp)).alloc (.cells #[.slice (some ⟨w1.heap.size + 1, 0, none⟩) 0 T] 22)).alloc (.cells #[.slice A zs.length c] 22)
    have bO := (Blk.new w2 22 #[.slice (some ⟨w1.heap.size + 1, 0, none⟩) 0 T]).alloc (.cells #[.slice A zs.length c] 22)
    have bA := Blk.new (w2.alloc (.cells #[.slice (some ⟨w1.heap.size + 1, 0, none⟩) 0 T] 22)) 22 #[.slice A zs.length c]
    have oO : OwnI ((w2.alloc (.cells #[.slice (some ⟨w1.heap.size + 1, 0, none⟩) 0 T] 22)).alloc (.cells #[.slice A zs.length c] 22)) (w1.heap.size + 1) (.slice (some ⟨w1.heap.size + 1, 0, none⟩) 0 T) (owF zs []) := ((hown2.alloc _).alloc _)
    simp only [World.size_alloc] at bA
    have hB0 : Below w.heap.size w ((w2.alloc (.cells #[.slice (some ⟨w1.heap.size + 1, 0, none⟩) 0 T] 22)).alloc (.cells #[.slice A zs.length c] 22)) := (hB2.alloc (by omega) _).alloc (by simp; omega) _
    have hsz : ((w2.alloc (.cells #[.slice (some ⟨w1.heap.size + 1, 0, none⟩) 0 T] 22)).alloc (.cells #[.slice A zs.length c] 22)).heap.size = w2.heap.size + 2 := by simp
    obtain ⟨W0, hW0⟩ : ∃ W0, (w2.alloc (.cells #[.slice (some ⟨w1.heap.size + 1, 0, none⟩) 0 T] 22)).alloc (.cells #[.slice A zs.length c] 22) = W0 := ⟨_, rfl⟩
    rw [hW0] at bT bO bA oO hB0 hsz ⊢
    clear hW0 C1 hown2 hg2
    have hsz1 : w2.heap.size + 2 ≤ W0.heap.size := by omega
    clear hsz
    have hTx : ∀ x : Fin zs.length, nth zs x.val ≤ (T : Int) := fun x => by have := nth_le_sum hF x.val x.isLt; have := HT.out; omega
    refine wpIn_rangeFunc_ownH rfl (by omega) (gf := 63) (lb := #[.pointer (some ⟨w2.heap.size + 1, 0, none⟩)]) rfl trivial (enters_of Try.func63 (by kernel_rfl) rfl)
      (segs_stops Fence.wide (8 - 1) trivial rfl (by omega) (w2.heap.size + 1) w.heap.size c A zs hF W0 w (by omega) rfl hB0 (by omega) (bA.cell 0) h) belowK_t (belowK_b (by omega)) (Below.refl _ _) (fun _ => rfl)
      (fun pre W => Blk W w1.heap.size 3 #[.int .i64 (T : Int)] ∧ (∃ v, Blk W w2.heap.size 22 #[v] ∧ OwnI W (w1.heap.size + 1) v (owF zs pre)) ∧ ((owF zs pre).length < T ∨ (T = 0 ∧ owF zs pre = [])) ∧ Below w.heap.size w W)
      (fun cd pre W => cd = .exit 0 ∧ (Blk W w1.heap.size 3 #[.int .i64 (T : Int)] ∧ (∃ v L, Blk W w2.heap.size 22 #[v] ∧ OwnI W (w1.heap.size + 1) v L ∧ L <+: owF zs pre ∧ L.length = T) ∧ Below w.heap.size w W))
      (fun _ X Y row hs hg hr => by
        obtain ⟨h1, ⟨v, h2, h3⟩, h4, h5⟩ := hs
        exact ⟨h1.aside hg hr, ⟨v, h2.aside hg hr, h3.aside hg hr⟩, h4, below_aside h5 (Nat.le_refl _) (by omega) hg hr⟩)
      (fun cd _ X Y row hs hg hr => by
        obtain ⟨h0, h1, ⟨v, L, h2, h3, h4⟩, h5⟩ := hs
        exact ⟨h0, h1.aside hg hr, ⟨v, L, h2.aside hg hr, h3.aside hg hr, h4⟩, below_aside h5 (Nat.le_refl _) (by omega) hg hr⟩)
      ⟨bT, ⟨_, bO, oO⟩, by rcases Nat.eq_zero_or_pos T with h0 | h0; exact .inr ⟨h0, rfl⟩; exact .inl h0, hB0⟩
      (fun x a' W => ∃ Bx, w2.heap.size < Bx ∧ Blk W Bx 52 #[.int .i64 (psum zs x.val), .int .i64 (nth zs x.val)] ∧ a' = ⟨#[Value.slice A zs.length c, undef, Value.slice none 0 0, Value.int IntKind.i64 0,
          Value.pointer (some { block := w1.heap.size, off := 0 }), Value.int IntKind.i64 0,
          Value.pointer (some { block := w2.heap.size, off := 0 }), .int .i64 x.val, .pointer (some ⟨Bx, 0, none⟩),
          Value.tuple #[Value.int IntKind.i64 ↑T, Value.int IntKind.i64 0], Value.slice A zs.length c,
          Value.tuple #[Value.int IntKind.i64 ↑T, Value.int IntKind.i64 0], Value.int IntKind.i64 ↑T,
          Value.int IntKind.i64 0, Value.int IntKind.i64 0, Value.bool false, undef, Value.int IntKind.i64 ↑T,
          Value.slice (some { block := w1.heap.size + 1, off := 0 }) 0 T, Value.slice A zs.length c,
          Value.func (Fn.func 63) #[] #[Value.pointer (some { block := w2.heap.size + 1, off := 0 })], .int .i64 x.val, .agg #[.int .i64 (psum zs x.val), .int .i64 (nth zs x.val)],
          undef, undef, undef, undef, undef, undef, undef, undef, undef, undef, undef, undef, undef, undef, undef,
          undef, undef], []⟩)
      (fun x a' _ X Y row hs hg hr => by obtain ⟨Bx, h1, h2, h3⟩ := hs; exact ⟨Bx, h1, h2.aside hg hr, h3⟩)
      ?assign ?body ?done ?stop
    case assign =>
      rintro l pre x W K ⟨i1, ⟨v, i2, i3⟩, i4, i5⟩ hK
      have hlt := i2.lt
      simp only [segV]
      gi_wp2
      exact hK _ _ ((KeepsOthers.alloc _ _).from _) ((Below.refl _ W).alloc i5.size _) ⟨i1.alloc _, ⟨v, i2.alloc _, i3.alloc _⟩, i4, i5.alloc i5.size _⟩ ⟨W.heap.size, hlt, Blk.new W 52 _, rfl⟩
    case body =>
      rintro l pre x a' W hl ⟨r, hr⟩ ⟨i1, ⟨v, i2, i3⟩, i4, i5⟩ ⟨Bx, hBx, bX, rfl⟩ hlt
      have c2 := bX.cell 1
      have hx := x.isLt
      have hn := hF.nth x.val hx
      have hnT := hTx x
      simp at c2
      gi_wp2
      gi_loopw [25] (fun i wr => ∃ (j : Nat) (L : List Int) (v : Value), (j : Int) ≤ nth zs x.val ∧ i = .int .i64 j ∧ Hid (L = owF zs pre ++ List.replicate j ((x.val : Nat) : Int)) ∧ Blk wr w1.heap.size 3 #[.int .i64 (T : Int)] ∧ Blk wr w2.heap.size 22 #[v] ∧ OwnI wr (w1.heap.size + 1) v L ∧ Blk wr Bx 52 #[.int .i64 (psum zs x.val), .int .i64 (nth zs x.val)] ∧ (L.length < T ∨ (T = 0 ∧ Hid (L = []))) ∧ KeepsFrom W0.heap.size W wr ∧ Below w.heap.size W wr)
        (fun i _ => (nth zs x.val).toNat - (intOf i).toNat)
      case atStart => exact ⟨0, owF zs pre, v, hn.1, rfl, Lib.hid (by simp), i1, i2, i3, bX, by rcases i4 with h | h; exact .inl h; exact .inr ⟨h.1, Lib.hid h.2⟩, KeepsFrom.refl _ _, Below.refl _ _⟩
      case round =>
        obtain ⟨j, L, v, hj, rfl, HL, j1, j2, j3, j4, j5, j6, j7⟩ := hrel
        by_cases hjl : (j : Int) < nth zs x.val
        · have hLT : L.length < T := by rcases j5 with h | h; exact h; omega
          clear j5
          have hszr : w1.heap.size + 1 ≤ wr.heap.size := by have := j2.lt; omega
          have hnr := Blk.low_row (g := w1.heap.size) j3 (by omega)
          have hnx := j4.not_row (by decide) j3
          have cO := j2.cell 0
          simp at cO
          by_cases hm : L.length + 1 = T
          · have hd : ((L.length : Int) + 1 == (T : Int)) = true := by rw [beq_iff_eq]; omega
            have Hm := Lib.hid hm; clear hm
            gi_wp2_with (gi_at_builtin; refine wpListIn_append_own _ rfl _ _ 22 rfl (w1.heap.size + 1) 3 i0 (.int .i64 0) 1 8 Try.underlying22 hi hz0 hz1 hz2 rfl (by decide) _ _ _ rfl (j3.alloc _) ⟨wr.heap.size, 0, none⟩ 1 1 [.int .i64 (x.val : Int)] rfl rfl (cell_one_new _ _ _) (by simp [Value.oneCell']) (by unfold maxLen; omega) (by omega) (by simp; omega) ?_; intro v' w3 hown' hgrow _; obtain ⟨g', cap', rfl⟩ := ownsRow_succ hown'; have hst := app_step j2 j3 hszr (by omega) hown' hgrow; have cB1 := hst.box.cell 0; have fB1 := hst.box.frozen 0; have cB2 := hst.box'.cell 0; have cT := ((hst.keep _ _ _ j1 (by omega) hnr).2).cell 0; simp at cB1 cB2 cT)
            have hL1 := ow_prefix HL.out hjl
            exact ⟨j6.trans (hst.others.from _), rfl, (hst.keep _ _ _ j1 (by omega) hnr).2, ⟨_, L ++ [((x.val : Nat) : Int)], hst.box', hst.own, hL1, by simpa using Hm.out⟩, i5.trans (j7.trans (hst.below.mono (by omega)))⟩
          · have hd : ((L.length : Int) + 1 == (T : Int)) = false := by rw [beq_eq_false_iff_ne]; omega
            gi_wp2_with (gi_at_builtin; refine wpListIn_append_own _ rfl _ _ 22 rfl (w1.heap.size + 1) 3 i0 (.int .i64 0) 1 8 Try.underlying22 hi hz0 hz1 hz2 rfl (by decide) _ _ _ rfl (j3.alloc _) ⟨wr.heap.size, 0, none⟩ 1 1 [.int .i64 (x.val : Int)] rfl rfl (cell_one_new _ _ _) (by simp [Value.oneCell']) (by unfold maxLen; omega) (by omega) (by simp; omega) ?_; intro v' w3 hown' hgrow _; obtain ⟨g', cap', rfl⟩ := ownsRow_succ hown'; have hst := app_step j2 j3 hszr (by omega) hown' hgrow; have cB1 := hst.box.cell 0; have fB1 := hst.box.frozen 0; have cB2 := hst.box'.cell 0; have cT := ((hst.keep _ _ _ j1 (by omega) hnr).2).cell 0; simp at cB1 cB2 cT)
            have hL1 := Lib.hid (ow_more HL.out)
            go_roundw
            case rel => exact ⟨j + 1, L ++ [((x.val : Nat) : Int)], _, by omega, by go_num, hL1, (hst.keep _ _ _ j1 (by omega) hnr).2, hst.box', hst.own, (hst.keep _ _ _ j4 (by omega) hnx).2, .inl (by simp; omega), j6.trans (hst.others.from _), j7.trans (hst.below.mono (by omega))⟩
            case measure => simp [intOf]; omega
        · have hje : (j : Int) = nth zs x.val := by omega
          have hL1 := ow_end HL.out hje
          subst hL1
          have H5 : (owF zs (pre ++ [x])).length < T ∨ (T = 0 ∧ owF zs (pre ++ [x]) = []) := by
            rcases j5 with h5 | ⟨h5, h6⟩
            · exact .inl h5
            · exact .inr ⟨h5, h6.out⟩
          have H5' := Lib.hid H5
          clear H5 j5 hje
          gi_wp2
          exact ⟨j6, j7, j1, ⟨v, j2, j3⟩, H5'.out, i5.trans j7⟩
    case done =>
      rintro D ys W hD rfl ⟨i1, ⟨v, i2, i3⟩, i4, i5⟩ hK
      have i3' := i3.aside (grownBy_putObj' W D (.deferred none)) (B := 0) (fun r e => by cases e; exact ⟨Nat.zero_le _, _, hK, rfl⟩)
      have i5' := below_aside (B := w.heap.size) i5 (Nat.le_refl _) (Nat.le_refl _) (grownBy_putObj' W D (.deferred none)) (fun r e => by cases e; exact ⟨by have := hB0.size; omega, _, hK, rfl⟩)
      obtain ⟨A', c', rfl, hcc, hsl⟩ := i3'.form
      have hTL : (owF zs (List.finRange zs.length)).length = T := by have := owL_length hF; have h2 := HT.out; unfold owL at this; omega
      have HTL := Lib.hid hTL
      have cO := i2.cell 0
      have cT := i1.cell 0
      simp at cO cT
      rw [hTL] at cO hcc
      have hcT : (T : Int) ≤ (c' : Int) := by omega
      clear i4 i1 i2 i3 i3' hTL
      gi_wp2
      refine ⟨by simp, .inl ⟨_, _, rfl, run_takeDeferred hK, ?_⟩⟩
      refine ⟨.tuple #[.slice A' T T, .int .i64 0], by simp [results, Try.f18, go_sem], ?_⟩
      rw [HE.out]
      exact retL_sl HTL.out (Nat.le_refl _) hsl i5'
    case stop =>
      rintro D cd pre W hD ⟨k, hk, rfl⟩ ⟨rfl, i1, ⟨v, L, i2, i3, i4, i6⟩, i5⟩ hK
      have hTL : (owL zs).length = T := by have := owL_length hF; have h2 := HT.out; omega
      obtain rfl : L = owL zs := (i4.trans (owF_prefix (fr_prefix _ k))).eq_of_length (by rw [i6]; exact hTL.symm)
      have i3' := i3.aside (grownBy_putObj' W D (.deferred none)) (B := 0) (fun r e => by cases e; exact ⟨Nat.zero_le _, _, hK, rfl⟩)
      have i5' := below_aside (B := w.heap.size) i5 (Nat.le_refl _) (Nat.le_refl _) (grownBy_putObj' W D (.deferred none)) (fun r e => by cases e; exact ⟨by have := hB0.size; omega, _, hK, rfl⟩)
      obtain ⟨A', c', rfl, hcc, hsl⟩ := i3'.form
      have HTL := Lib.hid hTL
      have cO := i2.cell 0
      have cT := i1.cell 0
      simp at cO cT
      rw [hTL] at cO hcc
      have hcT : (T : Int) ≤ (c' : Int) := by omega
      clear i4 i1 i2 i3 i3' hTL i6
      gi_wp2
      refine ⟨by simp, .inl ⟨_, _, rfl, run_takeDeferred hK, ?_⟩⟩
      refine ⟨.tuple #[.slice A' T T, .int .i64 0], by simp [results, Try.f18, go_sem], ?_⟩
      rw [HE.out]
      exact retL_sl HTL.out (Nat.le_refl _) hsl i5'
  · have C1 := check_any A c zs w h hl
    have hd : (ckE zs != 0) = true := by rw [bne_iff_ne]; exact he
    have HE := Lib.hid (show orL (ckE zs) (owL zs) = [] by simp [orL, he])
    clear he
    gi_wp2
    refine wpIn_scope ?_
    gi_wp2_with (refine ⟨trivial, ?_⟩; gi_at_call 12; refine (callsIn_wide.2 C1).mono ?_; rintro e w1 ⟨rfl, hB1⟩; have hs1 := hB1.size)
    refine ⟨.tuple #[.slice none 0 0, .int .i64 (ckE zs)], by simp [results, Try.f18, go_sem], ?_⟩
    rw [HE.out]
    exact retL_nil (hB1.alloc hs1 _)
end Go.Proofs.Ytcbkocjpkdcpfaa
