/- Starts: where each segment begins (the program's side). -/
import Derived.Test.YtcbkocjpkdcpfaaSa
namespace Go.Proofs.Ytcbkocjpkdcpfaa
set_option linter.unusedVariables false
open Go.RowKit Go.Shelf

attribute [local go_sem] Oper.semAt_some
/-- A check's error, or a list. -/
def orL (er : Int) (l : List Int) : List Int := if er = 0 then l else []

def stF (zs : List Int) (pre : List (Fin zs.length)) : List Int := pre.foldl (fun l x => l.set x.val (psum zs x.val)) (List.replicate zs.length 0)
theorem stF_length (zs : List Int) (pre : List (Fin zs.length)) : (stF zs pre).length = zs.length := by
  unfold stF; rw [foldl_set_length (fun _ (x : Fin zs.length) => psum zs x.val) (fun x => x.val), List.length_replicate]
theorem stF_snoc (zs : List Int) (pre : List (Fin zs.length)) (x : Fin zs.length) : stF zs (pre ++ [x]) = (stF zs pre).set x.val (psum zs x.val) := by unfold stF; rw [List.foldl_append]; rfl
theorem stF_all (zs : List Int) : stF zs (List.finRange zs.length) = stL zs := by
  unfold stF; rw [foldl_set_all zs.length (fun _ x => psum zs x.val) _ (by simp), finRange_map]; rfl
theorem retL_full {w W : World} {g : Nat} {zs : List Int} {n : Nat} {er : Int} (h : Full W g zs) (hB : Below w.heap.size w W) (hn : n = zs.length := by simp) : RetL w zs er (.returned (.tuple #[.slice (some ⟨g, 0, none⟩) n n, .int .i64 er])) W := by
  subst hn
  exact ⟨_, _, rfl, Nat.le_refl _, h.sl, hB⟩
theorem retL_nil {w W : World} {er : Int} (hB : Below w.heap.size w W) : RetL w [] er (.returned (.tuple #[.slice none 0 0, .int .i64 er])) W := ⟨_, _, rfl, Nat.le_refl _, Sl.nil _ _, hB⟩
set_option maxRecDepth 100000 in
set_option maxHeartbeats 2000000 in
theorem starts_any (A : Option Addr) (c : Nat) (zs : List Int) (w : World) (h : Sl w A zs) (hl : zs.length ≤ 9223372036854775807) :
    Calls Try.prog 14 #[.slice A zs.length c] w (RetL w (orL (ckE zs) (stL zs)) (ckE zs)) := by
  obtain ⟨i0, hi, hz0, hz1, hz2⟩ := info_parts int_info
  refine (callsIn_wide (n := 8)).1 ?_
  refine callsIn_of_wp_marks Try.func14 rfl trivial ?_ rfl
  simp only [Try.ntmps14, List.size_toArray, List.length_cons, List.length_nil, Nat.reduceAdd, Nat.reduceSub, Array.replicate_succ, Array.replicate_zero, List.push_toArray, List.append_toArray, List.nil_append, List.cons_append]
  by_cases he : ckE zs = 0
  · have hF := Fine.of_ck he
    have hlen := hF.len
    have hmk := fun W => run_make_row (P := Try.prog) 22 3 i0 (.int .i64 0) Try.underlying22 hi hz0 hz1 rfl .i64 .i64 zs.length (by rw [hz2]; omega) (by omega) W
    have C1 := check_any A c zs w h hl
    rw [he] at C1
    have HE := Lib.hid he; clear he
    gi_wp2_with (first | (refine ⟨trivial, ?_⟩; gi_at_call 12; refine (callsIn_wide.2 C1).mono ?_; rintro e w1 ⟨rfl, hB1⟩) | (refine ⟨trivial, ?_⟩; gi_at_call 48; refine (callsIn_wide.2 (segments_any _ ⟨_, _, _, rfl⟩ _)).mono ?_; rintro e w' ⟨rfl, rfl⟩))
    have hs1 := hB1.size
    have fS := ((Full.made w1 zs.length (by unfold maxLen; omega)).alloc (.cells #[.slice (some ⟨w1.heap.size, 0, none⟩) zs.length zs.length] 22)).alloc (.cells #[.slice A zs.length c] 22)
    have bS := (Blk.new (w1.alloc (.cells (madeCells #[.int .i64 0] zs.length) 3)) 22 #[.slice (some ⟨w1.heap.size, 0, none⟩) zs.length zs.length]).alloc (.cells #[.slice A zs.length c] 22)
    have bA := Blk.new ((w1.alloc (.cells (madeCells #[.int .i64 0] zs.length) 3)).alloc (.cells #[.slice (some ⟨w1.heap.size, 0, none⟩) zs.length zs.length] 22)) 22 #[.slice A zs.length c]
    simp only [World.size_alloc] at bS bA
    have hB0 : Below w.heap.size w (((w1.alloc (.cells (madeCells #[.int .i64 0] zs.length) 3)).alloc (.cells #[.slice (some ⟨w1.heap.size, 0, none⟩) zs.length zs.length] 22)).alloc (.cells #[.slice A zs.length c] 22)) := ((hB1.alloc hs1 _).alloc (by simp; omega) _).alloc (by simp; omega) _
    have hsz : (((w1.alloc (.cells (madeCells #[.int .i64 0] zs.length) 3)).alloc (.cells #[.slice (some ⟨w1.heap.size, 0, none⟩) zs.length zs.length] 22)).alloc (.cells #[.slice A zs.length c] 22)).heap.size = w1.heap.size + 3 := by simp
    obtain ⟨W0, hW0⟩ : ∃ W0, ((w1.alloc (.cells (madeCells #[.int .i64 0] zs.length) 3)).alloc (.cells #[.slice (some ⟨w1.heap.size, 0, none⟩) zs.length zs.length] 22)).alloc (.cells #[.slice A zs.length c] 22) = W0 := ⟨_, rfl⟩
    rw [hW0] at fS bS bA hB0 hsz ⊢
    clear hW0 hmk C1
    refine wpIn_rangeFunc_ownH rfl (by omega) (gf := 63) (lb := #[.pointer (some ⟨w1.heap.size + 1 + 1, 0, none⟩)]) rfl trivial (enters_of Try.func63 (by kernel_rfl) rfl)
      (segs_stops Fence.wide (8 - 1) trivial rfl (by omega) (w1.heap.size + 1 + 1) w.heap.size c A zs hF W0 w (by omega) rfl hB0 (by omega) (bA.cell 0) h) belowK_t (belowK_b (by omega)) (Below.refl _ _) (fun _ => rfl)
      (fun pre W => Blk W (w1.heap.size + 1) 22 #[.slice (some ⟨w1.heap.size, 0, none⟩) zs.length zs.length] ∧ Full W w1.heap.size (stF zs pre) ∧ Below w.heap.size w W)
      (fun _ _ _ => False)
      (fun _ X Y row hs hg hr => ⟨hs.1.aside hg hr, hs.2.1.aside hg hr, below_aside hs.2.2 (Nat.le_refl _) (by omega) hg hr⟩)
      (fun _ _ _ _ _ hs _ _ => hs)
      ⟨bS, fS, hB0⟩
      (fun x a' W => ∃ Bx, w1.heap.size + 1 < Bx ∧ Blk W Bx 52 #[.int .i64 (psum zs x.val), .int .i64 (nth zs x.val)] ∧ a' = ⟨#[Value.slice A zs.length c, undef, Value.slice none 0 0, Value.int IntKind.i64 0,
          Value.int IntKind.i64 (ckN zs), Value.int IntKind.i64 0,
          Value.pointer (some { block := w1.heap.size + 1, off := 0 }), .int .i64 x.val, .pointer (some ⟨Bx, 0, none⟩),
          Value.tuple #[Value.int IntKind.i64 (ckN zs), Value.int IntKind.i64 0], Value.slice A zs.length c,
          Value.tuple #[Value.int IntKind.i64 (ckN zs), Value.int IntKind.i64 0], Value.int IntKind.i64 (ckN zs),
          Value.int IntKind.i64 0, Value.int IntKind.i64 0, Value.bool false, undef, Value.slice A zs.length c,
          Value.int IntKind.i64 ↑zs.length, Value.slice (some { block := w1.heap.size, off := 0 }) zs.length zs.length,
          Value.slice A zs.length c,
          Value.func (Fn.func 63) #[] #[Value.pointer (some { block := w1.heap.size + 1 + 1, off := 0 })], .int .i64 x.val, .agg #[.int .i64 (psum zs x.val), .int .i64 (nth zs x.val)],
          undef, undef, undef, undef, undef, undef], []⟩)
      (fun x a' _ X Y row hs hg hr => by obtain ⟨Bx, h1, h2, h3⟩ := hs; exact ⟨Bx, h1, h2.aside hg hr, h3⟩)
      ?assign ?body ?done ?stop
    case assign =>
      rintro l pre x W K ⟨i1, i2, i3⟩ hK
      have hlt := i1.lt
      simp only [segV]
      gi_wp2
      exact hK _ _ ((KeepsOthers.alloc _ _).from _) ((Below.refl _ W).alloc i3.size _) ⟨i1.alloc _, i2.alloc _, i3.alloc i3.size _⟩ ⟨W.heap.size, hlt, Blk.new W 52 _, rfl⟩
    case body =>
      rintro l pre x a' W hl ⟨r, hr⟩ ⟨i1, i2, i3⟩ ⟨Bx, hBx, bX, rfl⟩ hlt
      have c1 := i1.cell 0
      have c2 := bX.cell 0
      have hx := x.isLt
      have hx1 : (0 : Int) ≤ (x.val : Int) := by omega
      have hx2 : (x.val : Int) < (zs.length : Int) := by omega
      have c3 := i2.cell x.val (by rw [stF_length]; exact hx)
      have f3 := i2.frozen x.val
      simp at c1 c2
      gi_wp2
      refine ⟨(KeepsOthers.setCell _ _ _).from _, (Below.refl _ W).setCell (p := ⟨w1.heap.size, x.val, none⟩) hs1 _, i1.far (p := ⟨w1.heap.size, x.val, none⟩) (by simp) _, ?_, i3.setCell (p := ⟨w1.heap.size, x.val, none⟩) hs1 _⟩
      rw [stF_snoc]
      exact i2.set_ x.val (psum zs x.val)
    case done =>
      rintro D ys W hD rfl ⟨i1, i2, i3⟩ hK
      have c1 := i1.cell 0
      simp at c1
      gi_wp2
      refine ⟨by simp, .inl ⟨_, _, rfl, run_takeDeferred hK, ?_⟩⟩
      have i2' := i2.aside (grownBy_putObj' W D (.deferred none)) (B := 0) (fun r e => by cases e; exact ⟨Nat.zero_le _, _, hK, rfl⟩)
      have i3' := below_aside (B := w.heap.size) i3 (Nat.le_refl _) (Nat.le_refl _) (grownBy_putObj' W D (.deferred none)) (fun r e => by cases e; exact ⟨by omega, _, hK, rfl⟩)
      refine ⟨.tuple #[.slice (some ⟨w1.heap.size, 0, none⟩) zs.length zs.length, .int .i64 0], by simp [results, Try.f14, go_sem], ?_⟩
      rw [HE.out]
      rw [show orL 0 (stL zs) = stL zs from rfl]
      rw [stF_all] at i2'
      exact retL_full i2' i3' (by rw [stL_length])
    case stop =>
      rintro D c pre W _ _ h _
      exact h.elim
  · have C1 := check_any A c zs w h hl
    have hd : (ckE zs != 0) = true := by rw [bne_iff_ne]; exact he
    have HE := Lib.hid (show orL (ckE zs) (stL zs) = [] by simp [orL, he])
    clear he
    gi_wp2_with (refine ⟨trivial, ?_⟩; gi_at_call 12; refine (callsIn_wide.2 C1).mono ?_; rintro e w1 ⟨rfl, hB1⟩)
    refine ⟨.tuple #[.slice none 0 0, .int .i64 (ckE zs)], by simp [results, Try.f14, go_sem], ?_⟩
    rw [HE.out]
    exact retL_nil hB1
end Go.Proofs.Ytcbkocjpkdcpfaa
