/- Nest (the program's side). -/
import Derived.Test.YtcbkocjpkdcpfaaSx
import Derived.WalkSpells
import Derived.Shelf.RegionOpen
namespace Go.Proofs.Ytcbkocjpkdcpfaa
set_option linter.unusedVariables false
open Go.RowKit Go.Shelf

attribute [local go_sem] Oper.semAt_some
set_option maxRecDepth 100000 in
set_option maxHeartbeats 2000000 in
theorem nest_any (A A' : Option Addr) (c c' : Nat) (zs ys : List Int) (w : World) (h : Sl w A zs) (h' : Sl w A' ys) (hl : zs.length ≤ 9223372036854775807) (hl' : ys.length ≤ 9223372036854775807) (hc' : ys.length ≤ c') (hc2 : c' ≤ 9223372036854775807) :
    Calls Try.prog 21 #[.slice A zs.length c, .slice A' ys.length c'] w (RetL w (orL (nsE zs ys) (nsL zs ys)) (nsE zs ys)) := by
  obtain ⟨i0, hi, hz0, hz1, hz2⟩ := info_parts int_info
  refine (callsIn_wide (n := 8)).1 ?_
  refine callsIn_of_wp_marks Try.func21 rfl trivial ?_ rfl
  simp only [Try.ntmps21, List.size_toArray, List.length_cons, List.length_nil, Nat.reduceAdd, Nat.reduceSub, Array.replicate_succ, Array.replicate_zero, List.push_toArray, List.append_toArray, List.nil_append, List.cons_append]
  have hb0 : Below w.heap.size w (w.alloc (.cells #[.slice A' ys.length c'] 22)) := (Below.refl _ _).alloc (Nat.le_refl _) _
  have C1 := check_any A c zs (w.alloc (.cells #[.slice A' ys.length c'] 22)) (h.step hb0) hl
  have bI := Blk.new w 22 #[.slice A' ys.length c']
  by_cases he : ckE zs = 0
  · have C2 := fun W (hB : Below w.heap.size w W) => check_any A' c' ys W (h'.step hB) hl'
    have hF := Fine.of_ck he
    have hlen := hF.len
    rw [he, (ck_ok he).2.2.2.2] at C1
    by_cases he' : ckE ys = 0
    · have hF' := Fine.of_ck he'
      have hlen' := hF'.len
      rw [he', (ck_ok he').2.2.2.2] at C2
      by_cases hT : zs.sum = (ys.length : Int)
      · have HE := Lib.hid (show nsE zs ys = 0 by simp [nsE, he, he', hT])
        have HT := Lib.hid hT
        have hd : (zs.sum != (ys.length : Int)) = false := by rw [bne_eq_false_iff_eq]; exact hT
        have hmk := fun W => run_make_row (P := Try.prog) 22 3 i0 (.int .i64 0) Try.underlying22 hi hz0 hz1 rfl .i64 .i64 zs.length (by rw [hz2]; omega) (by omega) W
        clear he he' hT
        gi_wp2_with fail
        refine ⟨trivial, ?_⟩
        refine (callsIn_wide.2 C1).mono ?_
        rintro e w1 ⟨rfl, hB1⟩
        have hB1' := hb0.trans (hB1.mono (by simp))
        have cI := (bI.below hB1 (by simp)).cell 0
        simp at cI
        gi_wp2_with fail
        refine ⟨trivial, ?_⟩
        refine (callsIn_wide.2 (C2 _ hB1')).mono ?_
        rintro e w2 ⟨rfl, hB2⟩
        have hB2' := hB1'.trans (hB2.mono hB1'.size)
        have bI2 := (bI.below hB1 (by simp)).below hB2 (by have := hB1.size; simp at this; omega)
        have cI2 := bI2.cell 0
        simp at cI2
        gi_wp2_with (refine ⟨trivial, ?_⟩; gi_at_call 48; refine (callsIn_wide.2 (segments_any _ ⟨_, _, _, rfl⟩ _)).mono ?_; rintro e w' ⟨rfl, rfl⟩)
        have hs2 := hB2'.size
        have hwl : w.heap.size < w2.heap.size := bI2.lt
        have fS := ((Full.made w2 zs.length (by unfold maxLen; omega)).alloc (.cells #[.slice (some ⟨w2.heap.size, 0, none⟩) zs.length zs.length] 22)).alloc (.cells #[.slice A zs.length c] 22)
        have bS := (Blk.new (w2.alloc (.cells (madeCells #[.int .i64 0] zs.length) 3)) 22 #[.slice (some ⟨w2.heap.size, 0, none⟩) zs.length zs.length]).alloc (.cells #[.slice A zs.length c] 22)
        have bA := Blk.new ((w2.alloc (.cells (madeCells #[.int .i64 0] zs.length) 3)).alloc (.cells #[.slice (some ⟨w2.heap.size, 0, none⟩) zs.length zs.length] 22)) 22 #[.slice A zs.length c]
        have bI3 := ((bI2.alloc (.cells (madeCells #[.int .i64 0] zs.length) 3)).alloc (.cells #[.slice (some ⟨w2.heap.size, 0, none⟩) zs.length zs.length] 22)).alloc (.cells #[.slice A zs.length c] 22)
        simp only [World.size_alloc] at bS bA
        have hB0 : Below w.heap.size w (((w2.alloc (.cells (madeCells #[.int .i64 0] zs.length) 3)).alloc (.cells #[.slice (some ⟨w2.heap.size, 0, none⟩) zs.length zs.length] 22)).alloc (.cells #[.slice A zs.length c] 22)) := ((hB2'.alloc hs2 _).alloc (by simp; omega) _).alloc (by simp; omega) _
        have hsz : w2.heap.size + 3 ≤ (((w2.alloc (.cells (madeCells #[.int .i64 0] zs.length) 3)).alloc (.cells #[.slice (some ⟨w2.heap.size, 0, none⟩) zs.length zs.length] 22)).alloc (.cells #[.slice A zs.length c] 22)).heap.size := by simp
        obtain ⟨W0, hW0⟩ : ∃ W0, ((w2.alloc (.cells (madeCells #[.int .i64 0] zs.length) 3)).alloc (.cells #[.slice (some ⟨w2.heap.size, 0, none⟩) zs.length zs.length] 22)).alloc (.cells #[.slice A zs.length c] 22) = W0 := ⟨_, rfl⟩
        rw [hW0] at fS bS bA bI3 hB0 hsz ⊢
        clear hW0 hmk C1 C2 bI2 cI cI2
        refine wpIn_rangeFunc_ownH rfl (by omega) (gf := 63) (lb := #[.pointer (some ⟨w2.heap.size + 1 + 1, 0, none⟩)]) rfl trivial (enters_of Try.func63 (by kernel_rfl) rfl)
          (segs_stops Fence.wide (8 - 1) trivial rfl (by omega) (w2.heap.size + 1 + 1) w.heap.size c A zs hF W0 w (by omega) rfl hB0 (by omega) (bA.cell 0) h) belowK_t (belowK_b (by omega)) (Below.refl _ _) (fun _ => rfl)
          (fun pre W => Blk W (w2.heap.size + 1) 22 #[.slice (some ⟨w2.heap.size, 0, none⟩) zs.length zs.length] ∧ Full W w2.heap.size (nsF zs ys pre) ∧ Blk W w.heap.size 22 #[.slice A' ys.length c'] ∧ Bd pre.length (nsF zs ys pre) ∧ Below w.heap.size w W)
          (fun _ _ _ => False)
          (fun _ X Y row hs hg hr => ⟨hs.1.aside hg hr, hs.2.1.aside hg hr, hs.2.2.1.aside hg hr, hs.2.2.2.1, below_aside hs.2.2.2.2 (Nat.le_refl _) (by omega) hg hr⟩)
          (fun _ _ _ _ _ hs _ _ => hs)
          ⟨bS, fS, bI3, bd_zero _, hB0⟩
          (fun x a' W => ∃ Bx, w2.heap.size + 1 < Bx ∧ Blk W Bx 52 #[.int .i64 (psum zs x.val), .int .i64 (nth zs x.val)] ∧ a' = ⟨#[Value.slice A zs.length c, Value.slice A' ys.length c', undef, Value.pointer (some { block := w.heap.size, off := 0 }), Value.slice none 0 0, Value.int IntKind.i64 0, Value.int IntKind.i64 zs.sum, Value.int IntKind.i64 0, Value.int IntKind.i64 ys.sum, Value.int IntKind.i64 0, Value.pointer (some { block := w2.heap.size + 1, off := 0 }), .int .i64 x.val, .pointer (some ⟨Bx, 0, none⟩), undef, undef, Value.tuple #[Value.int IntKind.i64 zs.sum, Value.int IntKind.i64 0], Value.slice A zs.length c, Value.tuple #[Value.int IntKind.i64 zs.sum, Value.int IntKind.i64 0], Value.int IntKind.i64 zs.sum, Value.int IntKind.i64 0, Value.int IntKind.i64 0, Value.bool false, undef, Value.tuple #[Value.int IntKind.i64 ys.sum, Value.int IntKind.i64 0], Value.slice A' ys.length c', Value.tuple #[Value.int IntKind.i64 ys.sum, Value.int IntKind.i64 0], Value.int IntKind.i64 ys.sum, Value.int IntKind.i64 0, Value.int IntKind.i64 0, Value.bool false, undef, Value.int IntKind.i64 zs.sum, Value.slice A' ys.length c', Value.int IntKind.i64 ↑ys.length, Value.bool false, Value.slice A zs.length c, Value.int IntKind.i64 ↑zs.length, Value.slice (some { block := w2.heap.size, off := 0 }) zs.length zs.length, Value.slice A zs.length c, Value.func (Fn.func 63) #[] #[Value.pointer (some { block := w2.heap.size + 1 + 1, off := 0 })], .int .i64 x.val, .agg #[.int .i64 (psum zs x.val), .int .i64 (nth zs x.val)], undef, undef, undef, undef, undef, undef, undef, undef, undef, undef, undef, undef, undef, undef, undef, undef, undef, undef, undef, undef], []⟩)
          (fun x a' _ X Y row hs hg hr => by obtain ⟨Bx, h1, h2, h3⟩ := hs; exact ⟨Bx, h1, h2.aside hg hr, h3⟩)
          ?assign ?body ?done ?stop
        case assign =>
          rintro l pre x W K ⟨i1, i2, i4, i5, i3⟩ hK
          have hlt := i1.lt
          simp only [segV]
          gi_wp2
          exact hK _ _ ((KeepsOthers.alloc _ _).from _) ((Below.refl _ W).alloc i3.size _) ⟨i1.alloc _, i2.alloc _, i4.alloc _, i5, i3.alloc i3.size _⟩ ⟨W.heap.size, hlt, Blk.new W 52 _, rfl⟩
        case body =>
          rintro l pre x a' W hl ⟨r, hr⟩ ⟨i1, i2, i4, i5, i3⟩ ⟨Bx, hBx, bX, rfl⟩ hlt
          have hx := x.isLt
          obtain ⟨lo, hlo⟩ : ∃ lo : Nat, psum zs x.val = (lo : Int) := ⟨(psum zs x.val).toNat, by have := hF.psum x.val (by omega); omega⟩
          obtain ⟨m, hm⟩ : ∃ m : Nat, nth zs x.val = (m : Int) := ⟨(nth zs x.val).toNat, by have := hF.nth x.val hx; omega⟩
          have hlm : lo + m ≤ ys.length := by
            have h1 := psum_mono zs zs.length (Nat.le_refl _) hF.pos (x.val + 1) zs.length (by omega) (Nat.le_refl _)
            rw [psum_succ zs x.val hx, psum_all, HT.out, hlo, hm] at h1
            omega
          have HK : Hid (nsK zs ys x.val = sg ys lo (lo + m)) := Lib.hid (by unfold nsK; rw [psum_succ zs x.val hx, hlo, hm]; rfl)
          rw [hlo, hm] at bX
          simp only [hlo, hm]
          clear hlo hm
          have c1 := i1.cell 0
          have c2 := bX.cell 0
          have c3 := bX.cell 1
          have c4 := i4.cell 0
          simp at c1 c2 c3 c4
          have hmix : Try.prog.follows .mixedOrders = true := by kernel_rfl
          have hw1 : IntKind.i64.wrap ((lo : Int) + (m : Int)) = (lo : Int) + (m : Int) := IntWalk.i64_in _ (by omega)
          have g1 : (0 : Int) ≤ (lo : Int) := by omega
          have g2 : (lo : Int) ≤ (lo : Int) + (m : Int) := by omega
          have g3 : (lo : Int) + (m : Int) ≤ (c' : Int) := by omega
          have h1' : 1 ≤ 8 - 1 - 1 := by omega
          have l1 := bX.lt
          have l2 := i4.lt
          have l3 := i1.lt
          obtain ⟨B, C, hsl, hSB, hmC⟩ := slice_eq A' c' lo m ys w h' hlm hc'
          gi_wp2
          refine wpIn_mono (Q := fun e a' w' => e = .normal ∧ a' = ⟨#[Value.slice A zs.length c, Value.slice A' ys.length c', undef, Value.pointer (some { block := w.heap.size, off := 0 }), Value.slice none 0 0, Value.int IntKind.i64 0, Value.int IntKind.i64 zs.sum, Value.int IntKind.i64 0, Value.int IntKind.i64 ys.sum, Value.int IntKind.i64 0, Value.pointer (some { block := w2.heap.size + 1, off := 0 }), Value.int IntKind.i64 x.val, Value.pointer (some { block := Bx, off := 0 }), undef, undef, Value.tuple #[Value.int IntKind.i64 zs.sum, Value.int IntKind.i64 0], Value.slice A zs.length c, Value.tuple #[Value.int IntKind.i64 zs.sum, Value.int IntKind.i64 0], Value.int IntKind.i64 zs.sum, Value.int IntKind.i64 0, Value.int IntKind.i64 0, Value.bool false, undef, Value.tuple #[Value.int IntKind.i64 ys.sum, Value.int IntKind.i64 0], Value.slice A' ys.length c', Value.tuple #[Value.int IntKind.i64 ys.sum, Value.int IntKind.i64 0], Value.int IntKind.i64 ys.sum, Value.int IntKind.i64 0, Value.int IntKind.i64 0, Value.bool false, undef, Value.int IntKind.i64 zs.sum, Value.slice A' ys.length c', Value.int IntKind.i64 ↑ys.length, Value.bool false, Value.slice A zs.length c, Value.int IntKind.i64 ↑zs.length, Value.slice (some { block := w2.heap.size, off := 0 }) zs.length zs.length, Value.slice A zs.length c, Value.func (Fn.func 63) #[] #[Value.pointer (some { block := w2.heap.size + 1 + 1, off := 0 })], Value.int IntKind.i64 x.val, Value.agg #[Value.int IntKind.i64 ↑lo, Value.int IntKind.i64 ↑m], Value.slice A' ys.length c', Value.pointer (some { block := Bx, off := 0 }), Value.int IntKind.i64 ↑lo, Value.agg #[Value.int IntKind.i64 ↑lo, Value.int IntKind.i64 ↑m], Value.int IntKind.i64 (↑lo + ↑m), Value.slice B m C, .int .i64 (m : Int), .int .i64 0, undef, undef, undef, undef, undef, undef, undef, undef, undef, undef, undef, undef], []⟩ ∧ w' = (W.alloc (.cells #[.int .i64 lo, .int .i64 m] 52)).drew) ?region ?rest
          case region =>
            clear hSB hmC HK bX i1 i2 i3 i4 i5 hl hr hlt bS bA bI3 fS HE HT hd hB0 hB1 hB2 hB1' hB2' h h' hb0 bI hF' hi hz0 hz1 hz2 hs2 hsz c1
            gi_region_with_o (refine ⟨trivial, ?_⟩; gi_at_call 50; refine (CallsIn.inRound l (callsIn_wide.2 (end_any lo m _ (by omega) (by omega) (by omega) (by omega)))).mono ?_; rintro e w' ⟨rfl, rfl⟩)
            all_goals exact ⟨rfl, rfl, rfl⟩
          case rest =>
            rintro e a' w' ⟨rfl, rfl, rfl⟩
            gi_wp2
            have hLl := nsF_length zs ys pre
            obtain ⟨L, HL⟩ : ∃ L, Hid (L = nsF zs ys pre) := ⟨_, Lib.hid rfl⟩
            rw [← HL.out] at i2 i5 hLl
            have hLb := i5 x.val
            have hbd := i5
            have hwW := i3.size
            have hpl : (pre.length : Int) ≤ 1048576 := by omega
            have H0 := Lib.hid (show L = L.set x.val (nth L x.val + sg ys lo (lo + 0)) by rw [show sg ys lo (lo + 0) = 0 by simp [sg], Int.add_zero, set_nth L x.val (by omega)])
            have hSG : ∀ j, j ≤ m → 0 ≤ sg ys lo (lo + j) ∧ sg ys lo (lo + j) ≤ 1048576 := fun j hj => by
              have h1 := psum_mono ys ys.length (Nat.le_refl _) hF'.pos lo (lo + j) (by omega) (by omega)
              have h2 := hF'.psum lo (by omega)
              have h3 := hF'.psum (lo + j) (by omega)
              unfold sg; omega
            gi_loopw [49] (fun i wr => ∃ j : Nat, j ≤ m ∧ i = .int .i64 j ∧ Blk wr (w2.heap.size + 1) 22 #[.slice (some ⟨w2.heap.size, 0, none⟩) zs.length zs.length] ∧ Full wr w2.heap.size (L.set x.val (nth L x.val + sg ys lo (lo + j))) ∧ Blk wr w.heap.size 22 #[.slice A' ys.length c'] ∧ KeepsFrom W0.heap.size W wr ∧ Below w.heap.size W wr) (fun i _ => m - (intOf i).toNat)
            case atStart => exact ⟨0, Nat.zero_le _, rfl, i1.alloc _, by rw [← H0.out]; exact i2.alloc _, i4.alloc _, ((KeepsOthers.alloc _ _).trans (KeepsOthers.drew _)).from _, ((Below.refl _ _).alloc i3.size _).drew⟩
            case round =>
              obtain ⟨j, hj, rfl, j1, j2, j4, j5, j6⟩ := hrel
              by_cases hjm : j < m
              · obtain ⟨bl, off, rfl, hbl, hcl⟩ := hSB.at_ (k := j) (by rw [sub_length ys lo m hlm]; exact hjm)
                have hclr := ((i3.trans j6).cell (p := ⟨bl, off + j, none⟩) hbl).trans hcl
                have hz := hF'.nth (lo + j) (by omega)
                rw [nth_sub ys lo m j hlm hjm] at hclr
                have hs1 := hSG j (by omega)
                have HS := Lib.hid (show sg ys lo (lo + (j + 1)) = sg ys lo (lo + j) + nth ys (lo + j) by unfold sg; rw [← Nat.add_assoc, psum_succ ys (lo + j) (by omega)]; omega)
                obtain ⟨v, HV⟩ : ∃ v, Hid (v = nth L x.val + sg ys lo (lo + j)) := ⟨_, Lib.hid rfl⟩
                have hvb : 0 ≤ v ∧ v ≤ 2000000000000 := by have := HV.out; omega
                rw [← HV.out] at j2
                have c5 := j2.cell x.val (by rw [List.length_set]; omega)
                rw [nth_set_self _ _ _ (by omega)] at c5
                have f5 := j2.frozen x.val
                have c6 := j1.cell 0
                simp at c6
                have hx1 : (0 : Int) ≤ (x.val : Int) := by omega
                have hx2 : (x.val : Int) < (zs.length : Int) := by omega
                clear hSG hcl hbd hLb
                gi_wp2
                go_roundw
                case rel =>
                  refine ⟨j + 1, by omega, by go_num, j1.far (p := ⟨w2.heap.size, x.val, none⟩) (by simp) _, ?_, j4.far (p := ⟨w2.heap.size, x.val, none⟩) (by simp; omega) _, j5.trans ((KeepsOthers.setCell _ _ _).from _), j6.setCell (p := ⟨w2.heap.size, x.val, none⟩) hs2 _⟩
                  have := j2.set_ x.val (v + nth ys (lo + j))
                  rw [List.set_set] at this
                  rw [HS.out, ← Int.add_assoc, ← HV.out]
                  exact this
                case measure => simp [intOf]; omega
              · obtain rfl : j = m := by omega
                have hs1 := hSG j (by omega)
                have HN := Lib.hid (show nsF zs ys (pre ++ [x]) = L.set x.val (nth L x.val + sg ys lo (lo + j)) by rw [nsF_snoc, HK.out, ← HL.out])
                have HB := Lib.hid (bd_set hbd x.val (by omega) (sg ys lo (lo + j)) hs1.1 hs1.2)
                clear hSG hbd hLb
                gi_wp2
                exact ⟨j5, j6, j1, by rw [HN.out]; exact j2, j4, by rw [HN.out, List.length_append]; exact HB.out, i3.trans j6⟩
        case done =>
          rintro D ys' W hD rfl ⟨i1, i2, i4, i5, i3⟩ hK
          have c1 := i1.cell 0
          simp at c1
          have HL := Lib.hid (show zs.length = (nsL zs ys).length by simp [nsL])
          gi_wp2
          refine ⟨by simp, .inl ⟨_, _, rfl, run_takeDeferred hK, ?_⟩⟩
          have i2' := i2.aside (grownBy_putObj' W D (.deferred none)) (B := 0) (fun r e => by cases e; exact ⟨Nat.zero_le _, _, hK, rfl⟩)
          have i3' := below_aside (B := w.heap.size) i3 (Nat.le_refl _) (Nat.le_refl _) (grownBy_putObj' W D (.deferred none)) (fun r e => by cases e; exact ⟨by have := hB0.size; omega, _, hK, rfl⟩)
          refine ⟨.tuple #[.slice (some ⟨w2.heap.size, 0, none⟩) zs.length zs.length, .int .i64 0], by simp [results, Try.f21, go_sem], ?_⟩
          rw [HE.out]
          rw [nsF_all] at i2'
          exact retL_full i2' i3' HL.out
        case stop =>
          rintro D c pre W _ _ h _
          exact h.elim
      · have HE := Lib.hid (show nsE zs ys = 1 by simp [nsE, he, he', hT])
        have hd : (zs.sum != (ys.length : Int)) = true := by rw [bne_iff_ne]; exact hT
        clear he he' hT
        gi_wp2_with fail
        refine ⟨trivial, ?_⟩
        refine (callsIn_wide.2 C1).mono ?_
        rintro e w1 ⟨rfl, hB1⟩
        have hB1' := hb0.trans (hB1.mono (by simp))
        have cI := (bI.below hB1 (by simp)).cell 0
        simp at cI
        gi_wp2_with fail
        refine ⟨trivial, ?_⟩
        refine (callsIn_wide.2 (C2 _ hB1')).mono ?_
        rintro e w2 ⟨rfl, hB2⟩
        have hB2' := hB1'.trans (hB2.mono hB1'.size)
        have bI2 := (bI.below hB1 (by simp)).below hB2 (by have := hB1.size; simp at this; omega)
        have cI2 := bI2.cell 0
        simp at cI2
        gi_wp2
        refine ⟨.tuple #[.slice none 0 0, .int .i64 1], by simp [results, Try.f21, go_sem], ?_⟩
        rw [HE.out]
        exact retL_nil hB2'
    · have hd : (ckE ys != 0) = true := by rw [bne_iff_ne]; exact he'
      have HE := Lib.hid (show nsE zs ys = ckE ys by simp [nsE, he, he'])
      have HO := Lib.hid (show orL (ckE ys) (nsL zs ys) = [] by simp [orL, he'])
      clear he he'
      gi_wp2_with fail
      refine ⟨trivial, ?_⟩
      refine (callsIn_wide.2 C1).mono ?_
      rintro e w1 ⟨rfl, hB1⟩
      have hB1' := hb0.trans (hB1.mono (by simp))
      have cI := (bI.below hB1 (by simp)).cell 0
      simp at cI
      gi_wp2_with fail
      refine ⟨trivial, ?_⟩
      refine (callsIn_wide.2 (C2 _ hB1')).mono ?_
      rintro e w2 ⟨rfl, hB2⟩
      have hB2' := hB1'.trans (hB2.mono hB1'.size)
      gi_wp2
      refine ⟨.tuple #[.slice none 0 0, .int .i64 (ckE ys)], by simp [results, Try.f21, go_sem], ?_⟩
      rw [HE.out, HO.out]
      exact retL_nil hB2'
  · have hd : (ckE zs != 0) = true := by rw [bne_iff_ne]; exact he
    have HE := Lib.hid (show nsE zs ys = ckE zs by simp [nsE, he])
    have HO := Lib.hid (show orL (ckE zs) (nsL zs ys) = [] by simp [orL, he])
    clear he
    gi_wp2_with fail
    refine ⟨trivial, ?_⟩
    refine (callsIn_wide.2 C1).mono ?_
    rintro e w1 ⟨rfl, hB1⟩
    have hB1' := hb0.trans (hB1.mono (by simp))
    gi_wp2
    refine ⟨.tuple #[.slice none 0 0, .int .i64 (ckE zs)], by simp [results, Try.f21, go_sem], ?_⟩
    rw [HE.out, HO.out]
    exact retL_nil hB1'
end Go.Proofs.Ytcbkocjpkdcpfaa
