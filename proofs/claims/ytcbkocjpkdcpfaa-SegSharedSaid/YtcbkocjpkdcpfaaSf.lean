/- Split (the program's side). -/
import Derived.Test.YtcbkocjpkdcpfaaRb
import Derived.Shelf.RegionOpen
namespace Go.Proofs.Ytcbkocjpkdcpfaa
set_option linter.unusedVariables false
open Go.RowKit Go.Shelf

theorem finRange_flatMap {α : Type} (n : Nat) (f : Nat → List α) : ((List.finRange n).flatMap fun x => f x.val) = (List.range n).flatMap f := by
  have h : (List.finRange n).map (fun x => f x.val) = (List.range n).map f := by
    apply List.ext_getElem
    · simp
    · intro i h1 h2; simp
  simp only [List.flatMap_def, h]
theorem row_low {W : World} {base : Nat} {v : Value} {zs : List Int} (h : OwnI W base v zs) {g : Nat} (hg : g < base) : some g ≠ v.ownBlock := fun e => by
  have := (h.lt g e.symm).1
  omega
theorem OwnI.far {w : World} {base : Nat} {v : Value} {zs : List Int} (h : OwnI w base v zs) {g o : Nat} (hg : some g ≠ v.ownBlock) (x : Value) : OwnI (w.setCell ⟨g, o, none⟩ x) base v zs :=
  h.kept (row := some g) ⟨rfl, rfl, rfl, by simp, fun k _ hk => Below.heap_setCell w ⟨g, o, none⟩ x k (fun e => hk (by rw [e]))⟩ (.inr fun e => hg e.symm)
def spF (zs : List Int) (m : Nat) (pre : List (Fin zs.length)) : List Int := pre.flatMap fun x => chL (nth zs x.val).toNat m
theorem spF_snoc (zs : List Int) (m : Nat) (pre : List (Fin zs.length)) (x : Fin zs.length) : spF zs m (pre ++ [x]) = spF zs m pre ++ chL (nth zs x.val).toNat m := by simp [spF]
theorem spF_all (zs : List Int) (m : Nat) : spF zs m (List.finRange zs.length) = spP zs m := finRange_flatMap zs.length (fun k => chL (nth zs k).toNat m)
def soF (zs : List Int) (m : Nat) (pre : List (Fin zs.length)) : List Int := pre.foldl (fun l x => l.set x.val (nth l x.val + ((chN (nth zs x.val).toNat m : Nat) : Int))) (List.replicate zs.length 0)
theorem soF_length (zs : List Int) (m : Nat) (pre : List (Fin zs.length)) : (soF zs m pre).length = zs.length := by
  unfold soF; rw [foldl_set_length (fun l (x : Fin zs.length) => nth l x.val + ((chN (nth zs x.val).toNat m : Nat) : Int)) (fun x => x.val), List.length_replicate]
theorem soF_snoc (zs : List Int) (m : Nat) (pre : List (Fin zs.length)) (x : Fin zs.length) : soF zs m (pre ++ [x]) = (soF zs m pre).set x.val (nth (soF zs m pre) x.val + ((chN (nth zs x.val).toNat m : Nat) : Int)) := by unfold soF; rw [List.foldl_append]; rfl
theorem soF_all (zs : List Int) (m : Nat) : soF zs m (List.finRange zs.length) = spO zs m := by
  unfold soF
  rw [foldl_set_all zs.length (fun a x => a + ((chN (nth zs x.val).toNat m : Nat) : Int)) _ (by simp)]
  simp only [nth_replicate, Int.zero_add]
  rw [finRange_map zs.length (fun k => ((chN (nth zs k).toNat m : Nat) : Int))]; rfl

attribute [local go_sem] Oper.semAt_some
set_option maxRecDepth 100000 in
set_option maxHeartbeats 2000000 in
theorem split_any (A : Option Addr) (c : Nat) (zs : List Int) (most : Int) (w : World) (h : Sl w A zs) (hl : zs.length ≤ 9223372036854775807) :
    Calls Try.prog 23 #[.slice A zs.length c, .int .i64 most] w (RetLL w (orL (spE zs most) (spP zs most.toNat)) (orL (spE zs most) (spO zs most.toNat)) (spE zs most)) := by
  obtain ⟨i0, hi, hz0, hz1, hz2⟩ := info_parts int_info
  refine (callsIn_wide (n := 8)).1 ?_
  refine callsIn_of_wp_marks Try.func23 rfl trivial ?_ rfl
  simp only [Try.ntmps23, List.size_toArray, List.length_cons, List.length_nil, Nat.reduceAdd, Nat.reduceSub, Array.replicate_succ, Array.replicate_zero, List.push_toArray, List.append_toArray, List.nil_append, List.cons_append]
  obtain ⟨w0, hw0⟩ : ∃ w0, ((w.alloc (.cells #[.int .i64 most] 3)).alloc (.cells #[.slice none 0 0] 22)).alloc (.cells #[.slice none 0 0] 22) = w0 := ⟨_, rfl⟩
  have b1 := ((Blk.new w 3 #[.int .i64 most]).alloc (.cells #[.slice none 0 0] 22)).alloc (.cells #[.slice none 0 0] 22)
  have b2 := (Blk.new (w.alloc (.cells #[.int .i64 most] 3)) 22 #[.slice none 0 0]).alloc (.cells #[.slice none 0 0] 22)
  have b3 := Blk.new ((w.alloc (.cells #[.int .i64 most] 3)).alloc (.cells #[.slice none 0 0] 22)) 22 #[.slice none 0 0]
  simp only [World.size_alloc] at b2 b3
  have hb0 : Below w.heap.size w (((w.alloc (.cells #[.int .i64 most] 3)).alloc (.cells #[.slice none 0 0] 22)).alloc (.cells #[.slice none 0 0] 22)) := (((Below.refl _ _).alloc (Nat.le_refl _) _).alloc (by simp) _).alloc (by simp; omega) _
  have hsz0 : w.heap.size + 3 ≤ (((w.alloc (.cells #[.int .i64 most] 3)).alloc (.cells #[.slice none 0 0] 22)).alloc (.cells #[.slice none 0 0] 22)).heap.size := by simp
  rw [hw0] at b1 b2 b3 hb0 hsz0
  have C1 := check_any A c zs w0 (h.step hb0) hl
  by_cases he : ckE zs = 0
  · have hF := Fine.of_ck he
    have hlen := hF.len
    rw [he] at C1
    by_cases hb : 1 ≤ most ∧ most ≤ 1048576
    · have HE := Lib.hid (show spE zs most = 0 by simp [spE, he, hb])
      obtain ⟨m, rfl⟩ : ∃ m : Nat, most = (m : Int) := ⟨most.toNat, by omega⟩
      have hm1 : 1 ≤ m := by omega
      have hm2 : m ≤ 1048576 := by omega
      have hmk := fun W => run_make_row (P := Try.prog) 22 3 i0 (.int .i64 0) Try.underlying22 hi hz0 hz1 rfl .i64 .i64 zs.length (by rw [hz2]; omega) (by omega) W
      have hd1 : decide ((m : Int) < 1) = false := by simp; omega
      have hd2 : decide (1048576 < (m : Int)) = false := by simp; omega
      clear he
      gi_wp2_with fail
      clear hw0
      refine ⟨trivial, ?_⟩
      refine (callsIn_wide.2 C1).mono ?_
      rintro e w1 ⟨rfl, hB1⟩
      have hs1 := hB1.size
      have hB1' := hb0.trans (hB1.mono (by omega))
      have d1 := b1.below hB1 b1.lt
      have d2 := b2.below hB1 b2.lt
      have d3 := b3.below hB1 b3.lt
      have c1 := d1.cell 0
      have c3 := d3.cell 0
      have f3 := d3.frozen 0
      have l3 := d3.lt
      simp at c1 c3
      gi_wp2_with (refine ⟨trivial, ?_⟩; gi_at_call 48; refine (callsIn_wide.2 (segments_any _ ⟨_, _, _, rfl⟩ _)).mono ?_; rintro e w' ⟨rfl, rfl⟩)
      have hsS : (w1.setCell ⟨w.heap.size + 1 + 1, 0, none⟩ (.slice (some ⟨w1.heap.size, 0, none⟩) zs.length zs.length)).heap.size = w1.heap.size := by simp
      have e1 := ((d1.far (p := ⟨w.heap.size + 1 + 1, 0, none⟩) (by simp; omega) (.slice (some ⟨w1.heap.size, 0, none⟩) zs.length zs.length)).alloc (.cells (madeCells #[.int .i64 0] zs.length) 3)).alloc (.cells #[.slice A zs.length c] 22)
      have e2 := ((d2.far (p := ⟨w.heap.size + 1 + 1, 0, none⟩) (by simp) (.slice (some ⟨w1.heap.size, 0, none⟩) zs.length zs.length)).alloc (.cells (madeCells #[.int .i64 0] zs.length) 3)).alloc (.cells #[.slice A zs.length c] 22)
      have e3 := ((d3.set_ 0 (.slice (some ⟨w1.heap.size, 0, none⟩) zs.length zs.length)).alloc (.cells (madeCells #[.int .i64 0] zs.length) 3)).alloc (.cells #[.slice A zs.length c] 22)
      have fS := (Full.made (w1.setCell ⟨w.heap.size + 1 + 1, 0, none⟩ (.slice (some ⟨w1.heap.size, 0, none⟩) zs.length zs.length)) zs.length (by unfold maxLen; omega)).alloc (.cells #[.slice A zs.length c] 22)
      have bA := Blk.new ((w1.setCell ⟨w.heap.size + 1 + 1, 0, none⟩ (.slice (some ⟨w1.heap.size, 0, none⟩) zs.length zs.length)).alloc (.cells (madeCells #[.int .i64 0] zs.length) 3)) 22 #[.slice A zs.length c]
      simp only [World.size_alloc, hsS] at fS bA
      have hB0 : Below w.heap.size w (((w1.setCell ⟨w.heap.size + 1 + 1, 0, none⟩ (.slice (some ⟨w1.heap.size, 0, none⟩) zs.length zs.length)).alloc (.cells (madeCells #[.int .i64 0] zs.length) 3)).alloc (.cells #[.slice A zs.length c] 22)) := ((hB1'.setCell (p := ⟨w.heap.size + 1 + 1, 0, none⟩) (by simp; omega) _).alloc (by simp; omega) _).alloc (by simp; omega) _
      have hsz : w1.heap.size + 2 ≤ (((w1.setCell ⟨w.heap.size + 1 + 1, 0, none⟩ (.slice (some ⟨w1.heap.size, 0, none⟩) zs.length zs.length)).alloc (.cells (madeCells #[.int .i64 0] zs.length) 3)).alloc (.cells #[.slice A zs.length c] 22)).heap.size := by simp
      obtain ⟨W0, hW0⟩ : ∃ W0, ((w1.setCell ⟨w.heap.size + 1 + 1, 0, none⟩ (.slice (some ⟨w1.heap.size, 0, none⟩) zs.length zs.length)).alloc (.cells (madeCells #[.int .i64 0] zs.length) 3)).alloc (.cells #[.slice A zs.length c] 22) = W0 := ⟨_, rfl⟩
      rw [hW0] at e1 e2 e3 fS bA hB0 hsz ⊢
      clear hW0 hmk C1 hsS d1 d2 d3 c1 c3 f3
      have hgs : w.heap.size + 3 ≤ w1.heap.size := by omega
      refine wpIn_rangeFunc_ownH rfl (by omega) (gf := 63) (lb := #[.pointer (some ⟨w1.heap.size + 1, 0, none⟩)]) rfl trivial (enters_of Try.func63 (by kernel_rfl) rfl)
        (segs_stops Fence.wide (8 - 1) trivial rfl (by omega) (w1.heap.size + 1) w.heap.size c A zs hF W0 w (by omega) rfl hB0 (by omega) (bA.cell 0) h) belowK_t (belowK_b (by omega)) (Below.refl _ _) (fun _ => rfl)
        (fun pre W => Blk W w.heap.size 3 #[.int .i64 (m : Int)] ∧ (∃ v, Blk W (w.heap.size + 1) 22 #[v] ∧ OwnI W (w1.heap.size + 1) v (spF zs m pre)) ∧ Blk W (w.heap.size + 1 + 1) 22 #[.slice (some ⟨w1.heap.size, 0, none⟩) zs.length zs.length] ∧ Full W w1.heap.size (soF zs m pre) ∧ (Bd pre.length (soF zs m pre) ∧ (spF zs m pre).length ≤ pre.length * 1048576) ∧ Below w.heap.size w W)
        (fun _ _ _ => False)
        (fun _ X Y row hs hg hr => by
          obtain ⟨k1, ⟨v, k2, k3⟩, k4, k5, k6, k7⟩ := hs
          exact ⟨k1.aside hg hr, ⟨v, k2.aside hg hr, k3.aside hg hr⟩, k4.aside hg hr, k5.aside hg hr, k6, below_aside k7 (Nat.le_refl _) (by omega) hg hr⟩)
        (fun _ _ _ _ _ hs _ _ => hs)
        ⟨e1, ⟨_, e2, OwnI.nil _ _⟩, e3, fS, ⟨bd_zero _, by simp [spF]⟩, hB0⟩
        (fun x a' W => ∃ Bx, w1.heap.size < Bx ∧ Blk W Bx 52 #[.int .i64 (psum zs x.val), .int .i64 (nth zs x.val)] ∧ a' = ⟨#[Value.slice A zs.length c, Value.int IntKind.i64 (m : Int), undef, Value.pointer (some { block := w.heap.size, off := 0 }), Value.pointer (some { block := w.heap.size + 1, off := 0 }), Value.pointer (some { block := w.heap.size + 1 + 1, off := 0 }), Value.int IntKind.i64 0, Value.int IntKind.i64 (ckN zs), Value.int IntKind.i64 0, .int .i64 x.val, .pointer (some ⟨Bx, 0, none⟩), undef, Value.tuple #[Value.int IntKind.i64 (ckN zs), Value.int IntKind.i64 0], Value.slice A zs.length c, Value.tuple #[Value.int IntKind.i64 (ckN zs), Value.int IntKind.i64 0], Value.int IntKind.i64 (ckN zs), Value.int IntKind.i64 0, Value.int IntKind.i64 0, Value.bool false, undef, Value.int IntKind.i64 (m : Int), Value.bool false, Value.bool false, Value.int IntKind.i64 (m : Int), Value.bool false, Value.bool false, Value.slice A zs.length c, Value.int IntKind.i64 ↑zs.length, Value.slice (some { block := w1.heap.size, off := 0 }) zs.length zs.length, Value.slice A zs.length c, Value.func (Fn.func 63) #[] #[Value.pointer (some { block := w1.heap.size + 1, off := 0 })], .int .i64 x.val, .agg #[.int .i64 (psum zs x.val), .int .i64 (nth zs x.val)], undef, undef, undef, undef, undef, undef, undef, undef, undef, undef, undef, undef, undef, undef, undef, undef, undef, undef, undef, undef, undef, undef, undef, undef, undef, undef], []⟩)
        (fun x a' _ X Y row hs hg hr => by obtain ⟨Bx, h1, h2, h3⟩ := hs; exact ⟨Bx, h1, h2.aside hg hr, h3⟩)
        ?assign ?body ?done ?stop
      case assign =>
        rintro l pre x W K ⟨i1, ⟨v, i2, i3⟩, i4, i5, i6, i7⟩ hK
        have hlt := i5.lt
        have hl7 := i7.size
        simp only [segV]
        gi_wp2
        exact hK _ _ ((KeepsOthers.alloc _ _).from _) ((Below.refl _ W).alloc i7.size _) ⟨i1.alloc _, ⟨v, i2.alloc _, i3.alloc _⟩, i4.alloc _, i5.alloc _, i6, i7.alloc i7.size _⟩ ⟨W.heap.size, hlt, Blk.new W 52 _, rfl⟩
      case body =>
        rintro l pre x a' W hl ⟨r, hr⟩ ⟨i1, ⟨v, i2, i3⟩, i4, i5, ⟨i6, i8⟩, i7⟩ ⟨Bx, hBx, bX, rfl⟩ hlt
        have hx := x.isLt
        obtain ⟨n, hn⟩ : ∃ n : Nat, nth zs x.val = (n : Int) := ⟨(nth zs x.val).toNat, by have := hF.nth x.val hx; omega⟩
        have hn2 : n ≤ 1048576 := by have := (hF.nth x.val hx).2; omega
        have HP := Lib.hid (show spF zs m (pre ++ [x]) = spF zs m pre ++ chL n m by rw [spF_snoc, hn]; rfl)
        have HO := Lib.hid (show soF zs m (pre ++ [x]) = (soF zs m pre).set x.val (nth (soF zs m pre) x.val + ((chN n m : Nat) : Int)) by rw [soF_snoc, hn]; rfl)
        rw [hn] at bX
        simp only [hn]
        clear hn
        have hPL : (spF zs m pre).length ≤ 1099511627776 := by omega
        have hLl := soF_length zs m pre
        obtain ⟨P0, HP0⟩ : ∃ P0, Hid (P0 = spF zs m pre) := ⟨_, Lib.hid rfl⟩
        obtain ⟨L0, HL0⟩ : ∃ L0, Hid (L0 = soF zs m pre) := ⟨_, Lib.hid rfl⟩
        rw [← HP0.out] at i3 hPL i8 HP
        rw [← HL0.out] at i5 i6 hLl HO
        have hyb := i6 x.val
        have c2 := bX.cell 1
        simp at c2
        gi_wp2
        gi_loopw [11] (fun y wr => ∃ (j : Nat) (L : Int) (Z : List Int) (v : Value), y = .int .i64 L ∧ Hid (L = (n : Int) - (j : Int) * (m : Int)) ∧ -1048576 ≤ L ∧ L ≤ (n : Int) ∧ (j : Int) + L ≤ (n : Int) ∧ Hid (j = 0 ∨ (j - 1) * m < n) ∧ j ≤ n ∧ Hid (Z = P0 ++ chK n m j) ∧ Z.length ≤ P0.length + j ∧ Blk wr w.heap.size 3 #[.int .i64 (m : Int)] ∧ Blk wr (w.heap.size + 1) 22 #[v] ∧ OwnI wr (w1.heap.size + 1) v Z ∧ Blk wr (w.heap.size + 1 + 1) 22 #[.slice (some ⟨w1.heap.size, 0, none⟩) zs.length zs.length] ∧ Full wr w1.heap.size (L0.set x.val (nth L0 x.val + (j : Int))) ∧ KeepsFrom W0.heap.size W wr ∧ Below w.heap.size W wr) (fun y _ => (intOf y).toNat)
        case atStart => exact ⟨0, n, P0, v, rfl, Lib.hid (by simp), by omega, by omega, by omega, Lib.hid (.inl rfl), by omega, Lib.hid (by simp [chK_zero]), by omega, i1, i2, i3, i4, by rw [show nth L0 x.val + ((0 : Nat) : Int) = nth L0 x.val by simp, set_nth L0 x.val (by omega)]; exact i5, KeepsFrom.refl _ _, Below.refl _ _⟩
        case round =>
          obtain ⟨j, L, Z, v, rfl, HL, hL1, hL2, hL3, HJ, hjn, HZ, hZ, j1, j2, j3, j4, j5, j6, j7⟩ := hrel
          by_cases hpos : 0 < L
          · have HJ' : Hid (j + 1 = 0 ∨ (j + 1 - 1) * m < n) := Lib.hid (.inr (by
              have h1 := HL.out
              rw [Nat.add_sub_cancel]
              have h2 : ((j * m : Nat) : Int) = (j : Int) * (m : Int) := by simp
              omega))
            have HZ' : Hid (Z ++ [min L (m : Int)] = P0 ++ chK n m (j + 1)) := Lib.hid (by rw [HZ.out, chK_succ, ← HL.out, List.append_assoc])
            have HL' : Hid (L - (m : Int) = (n : Int) - ((j + 1 : Nat) : Int) * (m : Int)) := Lib.hid (by
              rw [HL.out, Int.natCast_add, Int.add_mul]; simp; omega)
            have hl5 := j5.lt
            have cO := j2.cell 0
            have cM0 := j1.cell 0
            simp at cO cM0
            obtain ⟨y, HY⟩ : ∃ y, Hid (y = nth L0 x.val + (j : Int)) := ⟨_, Lib.hid rfl⟩
            have hyb2 : 0 ≤ y ∧ y ≤ 2000000000000 := by have := HY.out; omega
            rw [← HY.out] at j5
            have hx1 : (0 : Int) ≤ (x.val : Int) := by omega
            have hx2 : (x.val : Int) < (zs.length : Int) := by omega
            have hr1 := row_low j3 (g := w.heap.size) (by omega)
            have hr2 := row_low j3 (g := w.heap.size + 1 + 1) (by omega)
            have hr3 := row_low j3 (g := w1.heap.size) (by omega)
            by_cases hmin : L ≤ (m : Int)
            · rw [Int.min_eq_left hmin] at HZ'
              gi_wp2_with (gi_at_builtin; refine wpListIn_append_own _ rfl _ _ 22 rfl (w1.heap.size + 1) 3 i0 (.int .i64 0) 1 8 Try.underlying22 hi hz0 hz1 hz2 rfl (by decide) _ _ _ rfl (j3.alloc _) ⟨wr.heap.size, 0, none⟩ 1 1 [.int .i64 L] rfl rfl (cell_one_new _ _ _) (by simp [Value.oneCell']) (by unfold maxLen; omega) (by omega) (by simp; omega) ?_; intro v' w3 hown' hgrow _; obtain ⟨g', cap', rfl⟩ := ownsRow_succ hown'; have hst := app_step2 j2 j3 (by omega) hown' hgrow; have cB1 := hst.box.cell 0; have fB1 := hst.box.frozen 0; have hF5 := (hst.full _ _ j5 hr3 (by omega)); have cV := (hst.keep _ _ _ j4 (by omega) hr2).2.cell 0; have cX := hF5.cell x.val (by rw [List.length_set]; omega); have fX := hF5.frozen x.val; have hF6 := hF5.set_ x.val (y + 1); have cM := ((hst.keep _ _ _ j1 (by omega) hr1).2.far (p := ⟨w1.heap.size, x.val, none⟩) (by simp; omega) (.int .i64 (y + 1))).cell 0; simp at cB1 cV cM; rw [nth_set_self _ _ _ (by omega)] at cX; rw [List.set_set] at hF6)
              go_roundw
              case rel =>
                exact ⟨j + 1, L - (m : Int), Z ++ [L], _, rfl, HL', by omega, by omega, by omega, HJ', by omega, HZ', by rw [List.length_append]; simp only [List.length_cons, List.length_nil]; omega,
                  (hst.keep _ _ _ j1 (by omega) hr1).2.far (p := ⟨w1.heap.size, x.val, none⟩) (by simp; omega) _, hst.box'.far (p := ⟨w1.heap.size, x.val, none⟩) (by simp; omega) _, hst.own.far (row_low hst.own (by omega)) _, (hst.keep _ _ _ j4 (by omega) hr2).2.far (p := ⟨w1.heap.size, x.val, none⟩) (by simp; omega) _,
                  by rw [show nth L0 x.val + ((j + 1 : Nat) : Int) = y + 1 by have := HY.out; omega]; exact hF6, j6.trans ((hst.others.trans (KeepsOthers.setCell _ _ _)).from _), j7.trans ((hst.below _ (by omega) (by omega) (by omega)).setCell (p := ⟨w1.heap.size, x.val, none⟩) (by simp; omega) _)⟩
              case measure => simp [intOf]; omega
            · have hmin' : (m : Int) ≤ L := by omega
              rw [Int.min_eq_right hmin'] at HZ'
              gi_wp2_with (gi_at_builtin; refine wpListIn_append_own _ rfl _ _ 22 rfl (w1.heap.size + 1) 3 i0 (.int .i64 0) 1 8 Try.underlying22 hi hz0 hz1 hz2 rfl (by decide) _ _ _ rfl (j3.alloc _) ⟨wr.heap.size, 0, none⟩ 1 1 [.int .i64 (m : Int)] rfl rfl (cell_one_new _ _ _) (by simp [Value.oneCell']) (by unfold maxLen; omega) (by omega) (by simp; omega) ?_; intro v' w3 hown' hgrow _; obtain ⟨g', cap', rfl⟩ := ownsRow_succ hown'; have hst := app_step2 j2 j3 (by omega) hown' hgrow; have cB1 := hst.box.cell 0; have fB1 := hst.box.frozen 0; have hF5 := (hst.full _ _ j5 hr3 (by omega)); have cV := (hst.keep _ _ _ j4 (by omega) hr2).2.cell 0; have cX := hF5.cell x.val (by rw [List.length_set]; omega); have fX := hF5.frozen x.val; have hF6 := hF5.set_ x.val (y + 1); have cM := ((hst.keep _ _ _ j1 (by omega) hr1).2.far (p := ⟨w1.heap.size, x.val, none⟩) (by simp; omega) (.int .i64 (y + 1))).cell 0; simp at cB1 cV cM; rw [nth_set_self _ _ _ (by omega)] at cX; rw [List.set_set] at hF6)
              go_roundw
              case rel =>
                exact ⟨j + 1, L - (m : Int), Z ++ [(m : Int)], _, rfl, HL', by omega, by omega, by omega, HJ', by omega, HZ', by rw [List.length_append]; simp only [List.length_cons, List.length_nil]; omega,
                  (hst.keep _ _ _ j1 (by omega) hr1).2.far (p := ⟨w1.heap.size, x.val, none⟩) (by simp; omega) _, hst.box'.far (p := ⟨w1.heap.size, x.val, none⟩) (by simp; omega) _, hst.own.far (row_low hst.own (by omega)) _, (hst.keep _ _ _ j4 (by omega) hr2).2.far (p := ⟨w1.heap.size, x.val, none⟩) (by simp; omega) _,
                  by rw [show nth L0 x.val + ((j + 1 : Nat) : Int) = y + 1 by have := HY.out; omega]; exact hF6, j6.trans ((hst.others.trans (KeepsOthers.setCell _ _ _)).from _), j7.trans ((hst.below _ (by omega) (by omega) (by omega)).setCell (p := ⟨w1.heap.size, x.val, none⟩) (by simp; omega) _)⟩
              case measure => simp [intOf]; omega
          · have HJN : Hid (j = chN n m) := Lib.hid (chN_eq hm1 (by
              have h1 := HL.out
              have h2 : ((j * m : Nat) : Int) = (j : Int) * (m : Int) := by simp
              omega) HJ.out)
            have HZ' : Hid (spF zs m (pre ++ [x]) = Z) := Lib.hid (by rw [HP.out, HZ.out, HJN.out]; rfl)
            have HO' : Hid (soF zs m (pre ++ [x]) = L0.set x.val (nth L0 x.val + (j : Int))) := Lib.hid (by rw [HO.out, ← HJN.out])
            have HB := Lib.hid (bd_set i6 x.val (by omega) (j : Int) (by omega) (by omega))
            gi_wp2
            exact ⟨j6, j7, j1, ⟨v, j2, by rw [HZ'.out]; exact j3⟩, j4, by rw [HO'.out]; exact j5, ⟨by rw [HO'.out, List.length_append]; exact HB.out, by rw [HZ'.out, List.length_append]; simp only [List.length_cons, List.length_nil]; omega⟩, i7.trans j7⟩
      case done =>
        rintro D ys' W hD rfl ⟨i1, ⟨v, i2, i3⟩, i4, i5, ⟨i6, i8⟩, i7⟩ hK
        obtain ⟨A', c', rfl, hcc, hsl⟩ := i3.form
        have cP := i2.cell 0
        have cO := i4.cell 0
        have fP := i2.frozen 0
        have fO := i4.frozen 0
        simp at cP cO
        have hmix : Try.prog.follows .mixedOrders = true := by kernel_rfl
        obtain ⟨Z, HZ⟩ : ∃ Z, Hid (Z = spF zs m (List.finRange zs.length)) := ⟨_, Lib.hid rfl⟩
        rw [← HZ.out] at cP hcc hsl
        have hcT : (Z.length : Int) ≤ (c' : Int) := by omega
        have hsW : w1.heap.size < W.heap.size := i5.lt
        have p1 := (i2.set_ 0 (.slice A' Z.length Z.length)).far (p := ⟨w.heap.size + 1 + 1, 0, none⟩) (by simp) (.slice (some ⟨w1.heap.size, 0, none⟩) zs.length zs.length)
        have p2 := (i4.far (p := ⟨w.heap.size + 1, 0, none⟩) (by simp) (.slice A' Z.length Z.length)).set_ 0 (.slice (some ⟨w1.heap.size, 0, none⟩) zs.length zs.length)
        have p3 := (i3.far (o := 0) (i2.not_row (by decide) i3) (.slice A' Z.length Z.length)).far (o := 0) (i4.not_row (by decide) i3) (.slice (some ⟨w1.heap.size, 0, none⟩) zs.length zs.length)
        have p5 := (i5.far (p := ⟨w.heap.size + 1, 0, none⟩) (by show w1.heap.size ≠ w.heap.size + 1; omega) (.slice A' Z.length Z.length)).far (p := ⟨w.heap.size + 1 + 1, 0, none⟩) (by show w1.heap.size ≠ w.heap.size + 1 + 1; omega) (.slice (some ⟨w1.heap.size, 0, none⟩) zs.length zs.length)
        have p7 := (i7.setCell (p := ⟨w.heap.size + 1, 0, none⟩) (by simp) (.slice A' Z.length Z.length)).setCell (p := ⟨w.heap.size + 1 + 1, 0, none⟩) (by simp; omega) (.slice (some ⟨w1.heap.size, 0, none⟩) zs.length zs.length)
        have pK := ((KeepsOthers.setCell W ⟨w.heap.size + 1, 0, none⟩ (.slice A' Z.length Z.length)).trans (KeepsOthers.setCell _ ⟨w.heap.size + 1 + 1, 0, none⟩ (.slice (some ⟨w1.heap.size, 0, none⟩) zs.length zs.length))).same D _ hK rfl
        clear hcT
        have hcT : (Z.length : Int) ≤ (c' : Int) := by omega
        gi_wp2
        gi_region_o
        obtain ⟨W2, hW2⟩ : ∃ W2, ((W.setCell ⟨w.heap.size + 1, 0, none⟩ (.slice A' Z.length Z.length)).setCell ⟨w.heap.size + 1 + 1, 0, none⟩ (.slice (some ⟨w1.heap.size, 0, none⟩) zs.length zs.length)).drew = W2 := ⟨_, rfl⟩
        have q1 : Blk W2 (w.heap.size + 1) 22 #[.slice A' Z.length Z.length] := by rw [← hW2]; exact p1
        have q2 : Blk W2 (w.heap.size + 1 + 1) 22 #[.slice (some ⟨w1.heap.size, 0, none⟩) zs.length zs.length] := by rw [← hW2]; exact p2
        have q3 : OwnI W2 (w1.heap.size + 1) (.slice A' (spF zs m (List.finRange zs.length)).length c') (spF zs m (List.finRange zs.length)) := by rw [← hW2]; exact p3
        have q5 : Full W2 w1.heap.size (soF zs m (List.finRange zs.length)) := by rw [← hW2]; exact p5
        have q7 : Below w.heap.size w W2 := by rw [← hW2]; exact p7.drew
        have qK : W2.heap[D]? = some (.deferred (some [])) := by rw [← hW2]; exact pK
        rw [hW2]
        clear hW2 p1 p2 p3 p5 p7 pK hsl cP cO fP fO
        gi_wp2
        refine ⟨by simp, .inl ⟨_, _, rfl, run_takeDeferred qK, ?_⟩⟩
        have r1 := (q1.aside (grownBy_putObj' W2 D (.deferred none)) (B := 0) (fun r e => by cases e; exact ⟨Nat.zero_le _, _, qK, rfl⟩)).cell 0
        have r2 := (q2.aside (grownBy_putObj' W2 D (.deferred none)) (B := 0) (fun r e => by cases e; exact ⟨Nat.zero_le _, _, qK, rfl⟩)).cell 0
        have r3 := q3.aside (grownBy_putObj' W2 D (.deferred none)) (B := 0) (fun r e => by cases e; exact ⟨Nat.zero_le _, _, qK, rfl⟩)
        have r5 := q5.aside (grownBy_putObj' W2 D (.deferred none)) (B := 0) (fun r e => by cases e; exact ⟨Nat.zero_le _, _, qK, rfl⟩)
        have r7 := below_aside (B := w.heap.size) q7 (Nat.le_refl _) (Nat.le_refl _) (grownBy_putObj' W2 D (.deferred none)) (fun r e => by cases e; exact ⟨by have := hB0.size; omega, _, qK, rfl⟩)
        simp at r1 r2
        refine ⟨.tuple #[.slice A' Z.length Z.length, .slice (some ⟨w1.heap.size, 0, none⟩) zs.length zs.length, .int .i64 0], by simp [results, Try.f23, go_sem, r1, r2], ?_⟩
        rw [HE.out, Int.toNat_natCast]
        have r3' := Sl.of_own r3
        rw [spF_all] at HZ r3'
        rw [soF_all] at r5
        have hol : (spO zs m).length = zs.length := by simp [spO]
        rw [HZ.out]
        exact ⟨_, _, _, _, by rw [← hol]; rfl, Nat.le_refl _, Nat.le_refl _, r3', r5.sl, r7⟩
      case stop =>
        rintro D c pre W _ _ h _
        exact h.elim
    · have HE := Lib.hid (show spE zs most = 2 by simp only [spE, he, if_neg hb]; simp)
      have C2 : most < 1 ∨ 1048576 < most := by omega
      clear he hb
      rcases C2 with C2 | C2
      all_goals
        gi_wp2_with fail
        clear hw0
        refine ⟨trivial, ?_⟩
        refine (callsIn_wide.2 C1).mono ?_
        rintro e w1 ⟨rfl, hB1⟩
        have hs1 := hB1.size
        have hB1' := hb0.trans (hB1.mono (by omega))
        have d1 := b1.below hB1 b1.lt
        have d2 := b2.below hB1 b2.lt
        have d3 := b3.below hB1 b3.lt
        have c1 := d1.cell 0
        have c2 := d2.cell 0
        have c3 := d3.cell 0
        have f2 := d2.frozen 0
        have f3 := d3.frozen 0
        have p1 := ((d2.set_ 0 (.slice none 0 0)).far (p := ⟨w.heap.size + 1 + 1, 0, none⟩) (by simp) (.slice none 0 0)).cell 0
        have p2 := ((d3.far (p := ⟨w.heap.size + 1, 0, none⟩) (by simp) (.slice none 0 0)).set_ 0 (.slice none 0 0)).cell 0
        have p7 := (hB1'.setCell (p := ⟨w.heap.size + 1, 0, none⟩) (by simp) (.slice none 0 0)).setCell (p := ⟨w.heap.size + 1 + 1, 0, none⟩) (by simp; omega) (.slice none 0 0)
        simp at c1 c2 c3 p1 p2
        gi_wp2
        refine ⟨.tuple #[.slice none 0 0, .slice none 0 0, .int .i64 2], by simp [results, Try.f23, go_sem, p1, p2], ?_⟩
        rw [HE.out]
        exact retLL_nil p7
  · have hd : (ckE zs != 0) = true := by rw [bne_iff_ne]; exact he
    have HE := Lib.hid (show spE zs most = ckE zs by simp [spE, he])
    have HO := Lib.hid (show ∀ l, orL (ckE zs) l = [] by simp [orL, he])
    clear he
    gi_wp2_with fail
    clear hw0
    refine ⟨trivial, ?_⟩
    refine (callsIn_wide.2 C1).mono ?_
    rintro e w1 ⟨rfl, hB1⟩
    have hs1 := hB1.size
    have hB1' := hb0.trans (hB1.mono (by omega))
    have d2 := b2.below hB1 b2.lt
    have d3 := b3.below hB1 b3.lt
    have c2 := d2.cell 0
    have c3 := d3.cell 0
    have f2 := d2.frozen 0
    have f3 := d3.frozen 0
    have p1 := ((d2.set_ 0 (.slice none 0 0)).far (p := ⟨w.heap.size + 1 + 1, 0, none⟩) (by simp) (.slice none 0 0)).cell 0
    have p2 := ((d3.far (p := ⟨w.heap.size + 1, 0, none⟩) (by simp) (.slice none 0 0)).set_ 0 (.slice none 0 0)).cell 0
    have p7 := (hB1'.setCell (p := ⟨w.heap.size + 1, 0, none⟩) (by simp) (.slice none 0 0)).setCell (p := ⟨w.heap.size + 1 + 1, 0, none⟩) (by simp; omega) (.slice none 0 0)
    simp at c2 c3 p1 p2
    gi_wp2
    refine ⟨.tuple #[.slice none 0 0, .slice none 0 0, .int .i64 (ckE zs)], by simp [results, Try.f23, go_sem, p1, p2], ?_⟩
    rw [HE.out, HO.out, HO.out]
    exact retLL_nil p7
end Go.Proofs.Ytcbkocjpkdcpfaa
