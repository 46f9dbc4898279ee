/- Lengths (the program's side), at starts that are right. -/
import Derived.Test.YtcbkocjpkdcpfaaSg
namespace Go.Proofs.Ytcbkocjpkdcpfaa
set_option linter.unusedVariables false
open Go.RowKit Go.Shelf

attribute [local go_sem] Oper.semAt_some
set_option maxRecDepth 100000 in
set_option maxHeartbeats 2000000 in
theorem lengths_any (A : Option Addr) (c : Nat) (zs : List Int) (w : World) (h : Sl w A (stL zs)) (hF : Fine zs) :
    Calls Try.prog 39 #[.slice A (stL zs).length c, .int .i64 zs.sum] w (RetL w zs 0) := by
  obtain ⟨i0, hi, hz0, hz1, hz2⟩ := info_parts int_info
  have hlen := hF.len
  have hll := stL_length zs
  have hsum : 0 ≤ zs.sum ∧ zs.sum ≤ 1048576 := by have := hF.psum zs.length (Nat.le_refl _); rwa [psum_all] at this
  refine (callsIn_wide (n := 8)).1 ?_
  refine callsIn_of_wp_marks Try.func39 rfl trivial ?_ rfl
  simp only [Try.ntmps39, List.size_toArray, List.length_cons, List.length_nil, Nat.reduceAdd, Nat.reduceSub, Array.replicate_succ, Array.replicate_zero, List.push_toArray, List.append_toArray, List.nil_append, List.cons_append]
  have C1 := fit1_any w.heap.size A (stL zs).length c (w.alloc (.cells #[.slice A (stL zs).length c] 22)) (by omega) (cell1 _ _ _)
  rw [if_neg (by omega)] at C1
  have C2 := isSize_any zs.sum (w.alloc (.cells #[.slice A (stL zs).length c] 22))
  rw [decide_eq_true hsum] at C2
  have hB0 : Below w.heap.size w (w.alloc (.cells #[.slice A (stL zs).length c] 22)) := (Below.refl _ _).alloc (Nat.le_refl _) _
  have C3 := areStarts_any A c zs (w.alloc (.cells #[.slice A (stL zs).length c] 22)) (h.step hB0) hF
  rw [← hll] at C3
  obtain ⟨n, hn⟩ : ∃ n, (stL zs).length = n := ⟨_, rfl⟩
  have hnz : n = zs.length := by omega
  have hmk := fun W => run_make_row (P := Try.prog) 22 3 i0 (.int .i64 0) Try.underlying22 hi hz0 hz1 rfl .i64 .i64 n (by rw [hz2]; omega) (by omega) W
  have HN := Lib.hid hn
  have HL := Lib.hid hll
  have HNZ := Lib.hid hnz
  rw [hn] at C1 C2 C3 hB0 ⊢
  have hnl : n ≤ 1048576 := by omega
  clear hn hll hnz
  gi_wp2_with (first | (refine ⟨trivial, ?_⟩; gi_at_call 46; refine (callsIn_wide.2 C1).mono ?_; rintro e w' ⟨rfl, rfl⟩) | (refine ⟨trivial, ?_⟩; gi_at_call 51; refine (callsIn_wide.2 C2).mono ?_; rintro e w' ⟨rfl, rfl⟩) | (refine ⟨trivial, ?_⟩; gi_at_call 59; refine (callsIn_wide.2 C3).mono ?_; rintro e w' ⟨rfl, m, rfl⟩) | (refine ⟨trivial, ?_⟩; gi_at_call 60; refine (callsIn_wide.2 (backward_any _ _ _ _)).mono ?_; rintro e w' ⟨rfl, rfl⟩))
  have fS := ((((Full.made ((w.alloc (.cells #[.slice A n c] 22)).drewN m) n (by unfold maxLen; omega)).alloc (.cells #[.slice (some ⟨w.heap.size + 1, 0, none⟩) n n] 22)).alloc (.cells #[.int .i64 zs.sum] 3)).alloc (.cells #[.slice A n c] 22))
  have bS := ((Blk.new (((w.alloc (.cells #[.slice A n c] 22)).drewN m).alloc (.cells (madeCells #[.int .i64 0] n) 3)) 22 #[.slice (some ⟨w.heap.size + 1, 0, none⟩) n n]).alloc (.cells #[.int .i64 zs.sum] 3)).alloc (.cells #[.slice A n c] 22)
  have bE := (Blk.new ((((w.alloc (.cells #[.slice A n c] 22)).drewN m).alloc (.cells (madeCells #[.int .i64 0] n) 3)).alloc (.cells #[.slice (some ⟨w.heap.size + 1, 0, none⟩) n n] 22)) 3 #[.int .i64 zs.sum]).alloc (.cells #[.slice A n c] 22)
  have bA := Blk.new (((((w.alloc (.cells #[.slice A n c] 22)).drewN m).alloc (.cells (madeCells #[.int .i64 0] n) 3)).alloc (.cells #[.slice (some ⟨w.heap.size + 1, 0, none⟩) n n] 22)).alloc (.cells #[.int .i64 zs.sum] 3)) 22 #[.slice A n c]
  simp only [World.size_alloc, World.heap_drewN] at fS bS bE bA
  have hBD : Below w.heap.size w ((w.alloc (.cells #[.slice A n c] 22)).drewN m) := hB0.trans ⟨rfl, rfl, rfl, Nat.le_refl _, fun _ _ => rfl⟩
  have hBW : Below w.heap.size w ((((((w.alloc (.cells #[.slice A n c] 22)).drewN m).alloc (.cells (madeCells #[.int .i64 0] n) 3)).alloc (.cells #[.slice (some ⟨w.heap.size + 1, 0, none⟩) n n] 22)).alloc (.cells #[.int .i64 zs.sum] 3)).alloc (.cells #[.slice A n c] 22)) := (((hBD.alloc (by simp) _).alloc (by simp; omega) _).alloc (by simp; omega) _).alloc (by simp; omega) _
  have hsz : w.heap.size + 5 ≤ ((((((w.alloc (.cells #[.slice A n c] 22)).drewN m).alloc (.cells (madeCells #[.int .i64 0] n) 3)).alloc (.cells #[.slice (some ⟨w.heap.size + 1, 0, none⟩) n n] 22)).alloc (.cells #[.int .i64 zs.sum] 3)).alloc (.cells #[.slice A n c] 22)).heap.size := by simp
  obtain ⟨W0, hW0⟩ : ∃ W0, (((((w.alloc (.cells #[.slice A n c] 22)).drewN m).alloc (.cells (madeCells #[.int .i64 0] n) 3)).alloc (.cells #[.slice (some ⟨w.heap.size + 1, 0, none⟩) n n] 22)).alloc (.cells #[.int .i64 zs.sum] 3)).alloc (.cells #[.slice A n c] 22) = W0 := ⟨_, rfl⟩
  rw [hW0] at fS bS bE bA hBW hsz ⊢
  clear hW0 hmk C1 C2 C3 hBD hB0
  have hy : ∀ j, j < (stL zs).length → 0 ≤ nth (stL zs) j ∧ nth (stL zs) j ≤ 1048576 := fun j hj => by
    rw [HL.out] at hj
    rw [nth_stL zs j hj]
    exact hF.psum j (by omega)
  refine wpIn_rangeFunc_ownH rfl (by omega) (gf := 73) (lb := #[.pointer (some ⟨w.heap.size + 1 + 1 + 1 + 1, 0, none⟩)]) rfl trivial (enters_of Try.func73 (by kernel_rfl) rfl)
    (back_stops Fence.wide (8 - 1) trivial rfl (by omega) (w.heap.size + 1 + 1 + 1 + 1) w.heap.size c A (stL zs) (by rw [HN.out]; exact hnl) W0 w rfl hBW (by omega) (by rw [HN.out]; exact bA) h) kpB_t (kpB_b (by omega) (by omega)) (Below.refl _ _) (fun _ => rfl)
    (fun pre W => Blk W (w.heap.size + 1 + 1) 22 #[.slice (some ⟨w.heap.size + 1, 0, none⟩) n n] ∧ Full W (w.heap.size + 1) (lnS (stL zs) zs.sum pre).2 ∧ Blk W (w.heap.size + 1 + 1 + 1) 3 #[.int .i64 (lnS (stL zs) zs.sum pre).1] ∧ Below w.heap.size w W)
    (fun _ _ _ => False)
    (fun _ X Y row hs hg hr => ⟨hs.1.aside hg hr, hs.2.1.aside hg hr, hs.2.2.1.aside hg hr, below_aside hs.2.2.2 (Nat.le_refl _) (by omega) hg hr⟩)
    (fun _ _ _ _ _ hs _ _ => hs)
    ⟨bS, by rw [show (lnS (stL zs) zs.sum []).2 = List.replicate n 0 by simp only [lnS, List.foldl_nil, HN.out]]; exact fS, bE, hBW⟩
    (fun x a' W => a' = ⟨#[Value.slice A n c, Value.int IntKind.i64 zs.sum, undef, undef, Value.slice none 0 0, Value.int IntKind.i64 0, Value.int IntKind.i64 0, Value.pointer (some { block := w.heap.size + 1 + 1, off := 0 }), Value.pointer (some { block := w.heap.size + 1 + 1 + 1, off := 0 }), .int .i64 x.val, .int .i64 (nth (stL zs) x.val), Value.slice A n c, Value.slice (some { block := w.heap.size, off := 0 }) 1 1, Value.int IntKind.i64 0, Value.int IntKind.i64 0, Value.bool false, undef, Value.int IntKind.i64 zs.sum, Value.bool true, Value.bool false, Value.slice A n c, Value.int IntKind.i64 zs.sum, Value.bool true, Value.bool false, Value.slice A n c, Value.int IntKind.i64 ↑n, Value.slice (some { block := w.heap.size + 1, off := 0 }) n n, Value.int IntKind.i64 zs.sum, Value.slice A n c, Value.func (Fn.func 73) #[] #[Value.pointer (some { block := w.heap.size + 1 + 1 + 1 + 1, off := 0 })], .int .i64 x.val, .int .i64 (nth (stL zs) x.val), undef, undef, undef, undef, undef, undef, undef, undef], []⟩)
    (fun x a' _ X Y row hs hg hr => hs)
    ?assign ?body ?done ?stop
  case assign =>
    rintro l pre x W K hi hK
    simp only [backV]
    gi_wp2
    exact hK _ _ (KeepsFrom.refl _ _) (kpB_refl _ _ _) hi rfl
  case body =>
    rintro l pre x a' W hl ⟨r, hr⟩ ⟨i1, i2, i4, i3⟩ rfl hlt
    have c1 := i1.cell 0
    have c4 := i4.cell 0
    have f4 := i4.frozen 0
    have hx := x.isLt
    have hxn : x.val < n := by rw [← HN.out]; exact hx
    have hx1 : (0 : Int) ≤ (x.val : Int) := by omega
    have hx2 : (x.val : Int) < (n : Int) := by omega
    have hyx := hy x.val hx
    have hE := lnS_fst (stL zs) zs.sum hsum hy pre
    have HS := Lib.hid (lnS_snoc (stL zs) zs.sum pre x)
    have hLl := lnS_length (stL zs) zs.sum pre
    rw [HN.out] at hLl
    obtain ⟨y, HY⟩ : ∃ y, Hid (nth (stL zs) x.val = y) := ⟨_, Lib.hid rfl⟩
    obtain ⟨E, HE⟩ : ∃ E, Hid ((lnS (stL zs) zs.sum pre).1 = E) := ⟨_, Lib.hid rfl⟩
    obtain ⟨L, HLL⟩ : ∃ L, Hid ((lnS (stL zs) zs.sum pre).2 = L) := ⟨_, Lib.hid rfl⟩
    rw [HY.out] at hyx ⊢
    rw [HE.out] at c4 hE i4
    rw [HLL.out] at i2 hLl
    rw [HY.out, HE.out, HLL.out] at HS
    have c3 := i2.cell x.val (by omega)
    have f3 := i2.frozen x.val
    simp at c1 c4
    have cE := (i4.far (p := ⟨w.heap.size + 1, x.val, none⟩) (by simp; omega) (.int .i64 (E - y))).cell 0
    simp at cE
    clear hy
    gi_wp2
    have hsw := i3.size
    refine ⟨((KeepsOthers.setCell _ _ _).trans (KeepsOthers.setCell _ _ _)).from _, ⟨((Below.refl w.heap.size W).setCell (p := ⟨w.heap.size + 1, x.val, none⟩) (by simp) _).setCell (p := ⟨w.heap.size + 1 + 1 + 1, 0, none⟩) (by simp; omega) _, ?_⟩, (i1.far (p := ⟨w.heap.size + 1, x.val, none⟩) (by simp) _).far (p := ⟨w.heap.size + 1 + 1 + 1, 0, none⟩) (by simp) _, ?_, ?_, (i3.setCell (p := ⟨w.heap.size + 1, x.val, none⟩) (by simp) _).setCell (p := ⟨w.heap.size + 1 + 1 + 1, 0, none⟩) (by simp; omega) _⟩
    · exact (Below.heap_setCell _ _ _ _ (by show w.heap.size + 1 + 1 + 1 + 1 ≠ w.heap.size + 1 + 1 + 1; omega)).trans (Below.heap_setCell _ _ _ _ (by show w.heap.size + 1 + 1 + 1 + 1 ≠ w.heap.size + 1; omega))
    · rw [HS.out]; exact (i2.set_ x.val (E - y)).far (p := ⟨w.heap.size + 1 + 1 + 1, 0, none⟩) (by show w.heap.size + 1 ≠ w.heap.size + 1 + 1 + 1; omega) _
    · rw [HS.out]; exact (i4.far (p := ⟨w.heap.size + 1, x.val, none⟩) (by show w.heap.size + 1 + 1 + 1 ≠ w.heap.size + 1; omega) (.int .i64 (E - y))).set_ 0 (.int .i64 y)
  case done =>
    rintro D ys' W hD rfl ⟨i1, i2, i4, i3⟩ hK
    have c1 := i1.cell 0
    simp at c1
    rw [lnS_all hF] at i2
    gi_wp2
    refine ⟨by simp, .inl ⟨_, _, rfl, run_takeDeferred hK, ?_⟩⟩
    have i2' := i2.aside (grownBy_putObj' W D (.deferred none)) (B := 0) (fun r e => by cases e; exact ⟨Nat.zero_le _, _, hK, rfl⟩)
    have i3' := below_aside (B := w.heap.size) i3 (Nat.le_refl _) (Nat.le_refl _) (grownBy_putObj' W D (.deferred none)) (fun r e => by cases e; exact ⟨by omega, _, hK, rfl⟩)
    refine ⟨.tuple #[.slice (some ⟨w.heap.size + 1, 0, none⟩) n n, .int .i64 0], by simp [results, Try.f39, go_sem], ?_⟩
    exact retL_full i2' i3' HNZ.out
  case stop =>
    rintro D c pre W _ _ h _
    exact h.elim
end Go.Proofs.Ytcbkocjpkdcpfaa
