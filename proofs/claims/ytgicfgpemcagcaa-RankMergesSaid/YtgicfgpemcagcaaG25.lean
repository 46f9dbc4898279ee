/- Walks and mathematics of rank, part 25. -/
import Derived.Test.YtgicfgpemcagcaaG24
import Derived.Test.YtgicfgpemcagcaaG23
import Derived.Test.YtgicfgpemcagcaaG13
/- Walks of rank: the walk of ranks. -/
namespace Go.Proofs.Ytgicfgpemcagcaa
set_option linter.unusedVariables false
set_option maxRecDepth 100000
open Go.RowKit Go.Shelf
attribute [local go_sem] Oper.semAt_some
theorem difL_len (l : List Int) : (difL l).length ≤ l.length := by
  have : ∀ (l a : List Int), (l.foldl (fun a n => insL n a) a).length ≤ a.length + l.length := fun l => by
    induction l with
    | nil => intro a; simp
    | cons x xs ih =>
      intro a
      rw [List.foldl_cons, List.length_cons]
      have h1 := ih (insL x a)
      have h2 := insL_len x a
      omega
  have := this l []
  unfold difL
  simpa using this
theorem rkV_le (l : List Int) (lo hi i : Nat) : 0 ≤ rkV l lo hi i ∧ rkV l lo hi i ≤ l.length := by
  unfold rkV rkN
  have h1 : (difL ((l.drop lo).take (hi - lo))).countP (fun y => decide (y < nth l i)) ≤ (difL ((l.drop lo).take (hi - lo))).length := List.countP_le_length
  have h2 := difL_len ((l.drop lo).take (hi - lo))
  rw [List.length_take, List.length_drop] at h2
  omega
theorem rkL_le {l lens : List Int} (hz : Segs l lens) (i : Nat) (hi : i < l.length) : 0 ≤ nth (rkL l lens lens.length) i ∧ nth (rkL l lens lens.length) i ≤ 1048576 := by
  obtain ⟨s, h1, h2, h3⟩ := seg_of hz lens.length (Nat.le_refl _) i (by rw [hz.ofs_all]; exact hi)
  rw [rkL_nth hz s i h1 h2 h3]
  have := rkV_le l (ofs lens s) (ofs lens (s + 1)) i
  have := hz.short
  omega
theorem set_keep {R RK : List Int} {y : Nat} {v z : Int} (hy : y < R.length) (hv : v = nth RK y) (h : nth R z.toNat = nth RK z.toNat) : nth (R.set y v) z.toNat = nth RK z.toNat := by
  by_cases e : z.toNat = y
  · rw [e, nth_eq _ _ (by rw [List.length_set]; exact hy), List.getElem_set_self, hv]
  · rcases Nat.lt_or_ge z.toNat R.length with h1 | h1
    · rw [nth_eq _ _ (by rw [List.length_set]; exact h1), List.getElem_set_ne (fun e2 => e e2.symm), ← nth_eq _ _ h1, h]
    · rw [← h]
      unfold nth
      rw [List.getD_eq_getElem?_getD, List.getD_eq_getElem?_getD, List.getElem?_eq_none (by rw [List.length_set]; exact h1), List.getElem?_eq_none h1]
theorem set_at {R : List Int} {y : Nat} {v : Int} (hy : y < R.length) : nth (R.set y v) y = v := by rw [nth_eq _ _ (by rw [List.length_set]; exact hy), List.getElem_set_self]
set_option maxHeartbeats 8000000 in
theorem ranks_any (A' : Option Addr) (c base g : Nat) (eV sV : Value) (l T lens : List Int) (w : World) (hR : RowAt w base g eV sV (.slice A' lens.length c) (elL l lens) T) (hgb : base ≤ g) (hbb : base ≤ w.heap.size) (h' : Sl w A' lens) (hz : Segs l lens) (hT : SInv (pkey (elL l lens)) lens T) (hTl : T.length = l.length) :
    Calls Try.prog 63 #[.pointer (some ⟨g, 0, none⟩)] w (RetS w (rkL l lens lens.length)) := by
  have hzT := hT.segs
  have hlen := hz.few
  have hll := hzT.short
  have HSW := Lib.hid (sinv_words hz hT hTl)
  have HZ := Lib.hid hz
  have HTL := Lib.hid hTl
  have HRL := Lib.hid (rkL_len hz)
  have HRB := Lib.hid (fun i hi => rkL_le hz i hi)
  obtain ⟨RK, hRK⟩ : ∃ RK, rkL l lens lens.length = RK := ⟨_, rfl⟩
  have HST := Lib.hid (fun s j x hs hj hx => rk_step hz hTl (sinv_words hz hT hTl) s j x hs hj hx)
  rw [hRK] at HRL HST HRB ⊢
  have hpsl := elL_len hz
  have HEL := Lib.hid (fun s i hs h1 h2 => el_at hz s i hs h1 h2)
  obtain ⟨ps, hps⟩ : ∃ ps, elL l lens = ps := ⟨_, rfl⟩
  rw [hps] at hR hT hpsl HEL
  have HPS := Lib.hid hpsl
  clear hRK hps hTl hz hpsl
  obtain ⟨A3, c3, rfl, hc3, hs3⟩ := hR.std.form
  obtain ⟨i0, hi, hz0, hz1, hz2⟩ := info_parts int_info
  have hmk := fun W => run_make_row (P := Try.prog) 22 3 i0 (.int .i64 0) Try.underlying22 hi hz0 hz1 rfl .i64 .i64 T.length (by rw [hz2]; omega) (by omega) W
  refine (callsIn_wide (n := 8)).1 ?_
  refine callsIn_of_wp_marks Try.func63 rfl trivial ?_ rfl
  simp only [Try.ntmps63, List.size_toArray, List.length_cons, List.length_nil, Nat.reduceAdd, Nat.reduceSub, Array.replicate_succ, Array.replicate_zero, List.push_toArray, List.append_toArray, List.nil_append, List.cons_append]
  have cg1 := hR.row.cell 1
  simp at cg1
  have hgl := hR.row.lt
  gi_wp2
  have b1 : Blk (((w.alloc (.cells #[.pointer (some ⟨g, 0, none⟩)] 48)).alloc (.cells (madeCells #[.int .i64 0] T.length) 3)).alloc (.cells #[.slice (some ⟨w.heap.size + 1, 0, none⟩) T.length T.length] 22)) w.heap.size 48 #[.pointer (some ⟨g, 0, none⟩)] := (by repeat' (first | exact Blk.new' (by simp) | refine Blk.alloc ?_ _))
  have f1 : Full (((w.alloc (.cells #[.pointer (some ⟨g, 0, none⟩)] 48)).alloc (.cells (madeCells #[.int .i64 0] T.length) 3)).alloc (.cells #[.slice (some ⟨w.heap.size + 1, 0, none⟩) T.length T.length] 22)) (w.heap.size + 1) (List.replicate T.length 0) := by
    have := (Full.made (w.alloc (.cells #[.pointer (some ⟨g, 0, none⟩)] 48)) T.length (by unfold maxLen; omega)).alloc (.cells #[.slice (some ⟨w.heap.size + 1, 0, none⟩) T.length T.length] 22)
    rwa [World.size_alloc] at this
  have b3 : Blk (((w.alloc (.cells #[.pointer (some ⟨g, 0, none⟩)] 48)).alloc (.cells (madeCells #[.int .i64 0] T.length) 3)).alloc (.cells #[.slice (some ⟨w.heap.size + 1, 0, none⟩) T.length T.length] 22)) (w.heap.size + 1 + 1) 22 #[.slice (some ⟨w.heap.size + 1, 0, none⟩) T.length T.length] := Blk.new' (by simp)
  have hB1 : Below w.heap.size w (((w.alloc (.cells #[.pointer (some ⟨g, 0, none⟩)] 48)).alloc (.cells (madeCells #[.int .i64 0] T.length) 3)).alloc (.cells #[.slice (some ⟨w.heap.size + 1, 0, none⟩) T.length T.length] 22)) := (by repeat' (first | exact Below.refl _ _ | refine Below.alloc ?_ (by (try simp); try omega) _))
  have hz3 : (((w.alloc (.cells #[.pointer (some ⟨g, 0, none⟩)] 48)).alloc (.cells (madeCells #[.int .i64 0] T.length) 3)).alloc (.cells #[.slice (some ⟨w.heap.size + 1, 0, none⟩) T.length T.length] 22)).heap.size = w.heap.size + 3 := by simp
  obtain ⟨W1, hW1⟩ : ∃ W1, (((w.alloc (.cells #[.pointer (some ⟨g, 0, none⟩)] 48)).alloc (.cells (madeCells #[.int .i64 0] T.length) 3)).alloc (.cells #[.slice (some ⟨w.heap.size + 1, 0, none⟩) T.length T.length] 22)) = W1 := ⟨_, rfl⟩
  rw [hW1] at b1 f1 b3 hB1 hz3 ⊢
  clear hW1 hmk
  have bg : Blk W1 g 67 #[eV, .slice A3 T.length c3, .slice A' lens.length c] := hR.row.below hB1 hgl
  refine wpIn_region_mix' (fun W' => Blk W' w.heap.size 48 #[.pointer (some ⟨g, 0, none⟩)] ∧ Blk W' g 67 #[eV, .slice A3 T.length c3, .slice A' lens.length c]) [false, false, false, false, false, false, false, false] (fun _ => trivial) rfl (by kernel_rfl) (by kernel_rfl) ⟨b1.drew, bg.drew⟩ ?_
  simp only [mixT, mixH, mixD]
  have LT : ∀ W', (Blk W' w.heap.size 48 #[.pointer (some ⟨g, 0, none⟩)] ∧ Blk W' g 67 #[eV, .slice A3 T.length c3, .slice A' lens.length c]) → W'.cell? ⟨w.heap.size, 0, none⟩ = some (.pointer (some ⟨g, 0, none⟩)) ∧ W'.cell? ⟨g, 1, none⟩ = some (.slice A3 T.length c3) ∧ W'.cell? ⟨g, 2, none⟩ = some (.slice A' lens.length c) := fun W' hW => ⟨hW.1.cell 0, hW.2.cell 1, hW.2.cell 2⟩
  iterate 8 (refine wpLts_light ?_ (fun W' hW => ?_) ?_; rotate_left; (obtain ⟨q0, q1, q2⟩ := LT W' hW; go_simp; try with_reducible rfl); simp only [Act.put, List.setIfInBounds_toArray, List.set_cons_zero, List.set_cons_succ])
  refine wpLts_nil ?_
  refine wpHvs_nil ?_
  clear LT
  gi_wp2_with (refine ⟨trivial, ?_⟩; gi_at_call 69; refine (callsIn_wide.2 (segments_any _ _ ⟨_, _, _, rfl⟩ ⟨_, _, _, rfl⟩ _)).mono ?_; rintro e w' ⟨rfl, rfl⟩)
  have bb : Blk ((W1.alloc (.cells #[.slice A3 T.length c3] 22)).alloc (.cells #[.slice A' lens.length c] 22)).drew w.heap.size 48 #[.pointer (some ⟨g, 0, none⟩)] := (b1.alloc _).alloc _
  have ff : Full ((W1.alloc (.cells #[.slice A3 T.length c3] 22)).alloc (.cells #[.slice A' lens.length c] 22)).drew (w.heap.size + 1) (List.replicate T.length 0) := (f1.alloc _).alloc _
  have b4 : Blk ((W1.alloc (.cells #[.slice A3 T.length c3] 22)).alloc (.cells #[.slice A' lens.length c] 22)).drew (w.heap.size + 1 + 1) 22 #[.slice (some ⟨w.heap.size + 1, 0, none⟩) T.length T.length] := (b3.alloc _).alloc _
  have bs1 : Blk ((W1.alloc (.cells #[.slice A3 T.length c3] 22)).alloc (.cells #[.slice A' lens.length c] 22)).drew (w.heap.size + 3) 22 #[.slice A3 T.length c3] := by rw [← hz3]; exact (Blk.new W1 _ _).alloc _
  have bs2 : Blk ((W1.alloc (.cells #[.slice A3 T.length c3] 22)).alloc (.cells #[.slice A' lens.length c] 22)).drew (w.heap.size + 3 + 1) 22 #[.slice A' lens.length c] := Blk.new' (by simp [hz3])
  have hB0 : Below w.heap.size w ((W1.alloc (.cells #[.slice A3 T.length c3] 22)).alloc (.cells #[.slice A' lens.length c] 22)).drew := ((hB1.alloc hB1.size _).alloc (by simp; omega) _).drew
  have hsz : ((W1.alloc (.cells #[.slice A3 T.length c3] 22)).alloc (.cells #[.slice A' lens.length c] 22)).drew.heap.size = w.heap.size + 5 := by simp [hz3]
  obtain ⟨W0, hW0⟩ : ∃ W0, ((W1.alloc (.cells #[.slice A3 T.length c3] 22)).alloc (.cells #[.slice A' lens.length c] 22)).drew = W0 := ⟨_, rfl⟩
  rw [hW0] at bb ff b4 bs1 bs2 hB0 hsz ⊢
  clear hW0 b1 f1 b3 bg hB1 hz3
  refine wpIn_rangeFunc_ownH rfl (by omega) (gf := 82) (lb := #[.pointer (some ⟨w.heap.size + 3 + 1, 0, none⟩), .pointer (some ⟨w.heap.size + 3, 0, none⟩)]) rfl trivial (enters_of Try.func82 (by kernel_rfl) rfl)
    (segs_stops Fence.wide (8 - 1) trivial rfl (by omega) (w.heap.size + 3) (w.heap.size + 3 + 1) w.heap.size c c3 A3 A' T lens hzT hc3 W0 (by omega) (by omega) (bs2.cell 0) bs1 (fun h0 => by
      obtain ⟨b, off, e, hb, hcs⟩ := h' h0
      exact ⟨b, off, e, hb, fun j hj => (hB0.cell (p := ⟨b, off + j, none⟩) hb).trans (hcs j hj)⟩)) kpB_t (kpB_b (by omega) (by omega)) (Below.refl _ _) (fun _ => rfl)
    (fun pre Y => ∃ R : List Int, R.length = T.length ∧ Full Y (w.heap.size + 1) R ∧ Blk Y w.heap.size 48 #[.pointer (some ⟨g, 0, none⟩)] ∧ Blk Y (w.heap.size + 1 + 1) 22 #[.slice (some ⟨w.heap.size + 1, 0, none⟩) T.length T.length] ∧ Blk Y (w.heap.size + 3) 22 #[.slice A3 T.length c3] ∧ Hid (∀ s : Fin lens.length, s ∈ pre → ∀ j, j < ofs lens (s.val + 1) - ofs lens s.val → nth R (nth T (ofs lens s.val + j)).toNat = nth RK (nth T (ofs lens s.val + j)).toNat) ∧ Below w.heap.size w Y)
    (fun _ _ _ => False)
    (fun _ X Y row hs hg hr => by
      obtain ⟨R, h0, h1, h2, h3, h4, h5, h6⟩ := hs
      exact ⟨R, h0, Blk.aside h1 hg hr, h2.aside hg hr, h3.aside hg hr, h4.aside hg hr, h5, below_aside h6 (Nat.le_refl _) (by omega) hg hr⟩)
    (fun _ _ _ _ _ hs _ _ => hs)
    ⟨_, by simp, ff, bb, b4, bs1, Lib.hid (by simp), hB0⟩
    (fun x' a' Y => a' = ⟨#[.pointer (some ⟨g, 0, none⟩), .pointer (some ⟨w.heap.size, 0, none⟩), .slice none 0 0, .pointer (some ⟨w.heap.size + 1 + 1, 0, none⟩), undef, (.slice (sgA A3 (ofs lens x'.val) (ofs lens (x'.val + 1))) (ofs lens (x'.val + 1) - ofs lens x'.val) (ofs lens (x'.val + 1) - ofs lens x'.val)), undef, undef, undef, .pointer (some ⟨g, 0, none⟩), .pointer (some ⟨g, 0, none⟩), .pointer (some ⟨g, 1, none⟩), .slice A3 T.length c3, .int .i64 (T.length : Int), .slice (some ⟨w.heap.size + 1, 0, none⟩) T.length T.length, .pointer (some ⟨g, 0, none⟩), .pointer (some ⟨g, 0, none⟩), .pointer (some ⟨g, 1, none⟩), .slice A3 T.length c3, .pointer (some ⟨g, 0, none⟩), .pointer (some ⟨g, 0, none⟩), .pointer (some ⟨g, 2, none⟩), .slice A' lens.length c, .func (.func 82) #[] #[.pointer (some ⟨w.heap.size + 3 + 1, 0, none⟩), .pointer (some ⟨w.heap.size + 3, 0, none⟩)], .int .i64 ((x'.val : Nat) : Int), (.slice (sgA A3 (ofs lens x'.val) (ofs lens (x'.val + 1))) (ofs lens (x'.val + 1) - ofs lens x'.val) (ofs lens (x'.val + 1) - ofs lens x'.val)), undef, undef, undef, undef, undef, undef, undef, undef, undef, undef, undef, undef, undef, undef, undef, undef, undef, undef, undef, undef, undef, undef, undef, undef, undef, undef, undef, undef, undef, undef, undef, undef, undef, undef, undef, undef, undef, undef], []⟩)
    (fun x a' _ X Y row hs hg hr => hs)
    ?assign ?body ?done ?stop
  case assign =>
    rintro i pre x' Y Q hI hK
    simp only [segV]
    gi_wp2
    exact hK _ _ (KeepsFrom.refl _ _) (kpB_refl _ _ _) hI rfl
  case body =>
    rintro i pre x' a' Y hl' ⟨r, hr⟩ ⟨R0, h0, h1, h2, h3, h4, h5, h6⟩ rfl hlt
    have hx := x'.isLt
    obtain ⟨e1, e2, e3, e4, e5⟩ := hzT.step x'.val hx
    have hsgl := sg_len hzT x'.val hx
    have hsl : Sl w (sgA A3 (ofs lens x'.val) (ofs lens (x'.val + 1))) (sgL T lens x'.val) := sl_sg hs3 e2 e3
    have HSEG : Hid (∀ j, j < (sgL T lens x'.val).length → nth (sgL T lens x'.val) j = nth T (ofs lens x'.val + j)) := Lib.hid (fun j hj => seg_nth _ _ _ _ hj)
    have HNUM : Hid (∀ j, j < (sgL T lens x'.val).length → ∃ y : Nat, nth (sgL T lens x'.val) j = (y : Int) ∧ y < T.length ∧ pth ps y = (((x'.val : Nat) : Int), nth l y)) := Lib.hid (fun j hj => by
      obtain ⟨y, hy, y1, y2⟩ := hT.mem x'.val j hx (by omega)
      exact ⟨y, by rw [seg_nth _ _ _ _ hj]; exact hy, by omega, HEL.out x'.val y hx y1 y2⟩)
    have HST2 : Hid (∀ (j x : Nat), j < (sgL T lens x'.val).length → nth (sgL T lens x'.val) j = (x : Int) → nth RK x = (if j = 0 then 0 else nth RK (nth (sgL T lens x'.val) (j - 1)).toNat + (if nth l x = nth l (nth (sgL T lens x'.val) (j - 1)).toNat then 0 else 1))) := Lib.hid (fun j x hj hjx => by
      rw [seg_nth _ _ _ _ hj] at hjx
      have := HST.out x'.val j x hx (by omega) hjx
      by_cases e : j = 0
      · rw [if_pos e] at this ⊢; exact this
      · rw [if_neg e] at this ⊢
        rw [seg_nth _ _ _ _ (by omega)]
        exact this)
    have HLEN : Hid ((sgL T lens x'.val).length = ofs lens (x'.val + 1) - ofs lens x'.val) := Lib.hid hsgl
    obtain ⟨sA, hsA⟩ : ∃ sA, sgA A3 (ofs lens x'.val) (ofs lens (x'.val + 1)) = sA := ⟨_, rfl⟩
    obtain ⟨s, hs⟩ : ∃ s, sgL T lens x'.val = s := ⟨_, rfl⟩
    rw [hs] at hsgl hsl HNUM HST2 HSEG HLEN
    rw [← hsgl, hsA]
    rw [hsA] at hsl
    have hsn : s.length ≤ T.length := by omega
    have HS := Lib.hid hs
    clear e1 e2 e3 e4 e5 hsgl hs hsA
    gi_wp2
    gi_loopw [6, 28] (fun rk i wr => ∃ (j : Nat) (q : Int) (R : List Int), j ≤ s.length ∧ i = .int .i64 (j : Int) ∧ rk = .int .i64 q ∧ Hid (q = (if j = 0 then 0 else nth RK (nth s (j - 1)).toNat)) ∧ R.length = T.length ∧ Full wr (w.heap.size + 1) R ∧ Blk wr w.heap.size 48 #[.pointer (some ⟨g, 0, none⟩)] ∧ Blk wr (w.heap.size + 1 + 1) 22 #[.slice (some ⟨w.heap.size + 1, 0, none⟩) T.length T.length] ∧ Blk wr (w.heap.size + 3) 22 #[.slice A3 T.length c3] ∧ Hid (∀ s : Fin lens.length, s ∈ pre → ∀ j, j < ofs lens (s.val + 1) - ofs lens s.val → nth R (nth T (ofs lens s.val + j)).toNat = nth RK (nth T (ofs lens s.val + j)).toNat) ∧ Hid (∀ j', j' < j → nth R (nth s j').toNat = nth RK (nth s j').toNat) ∧ KeepsFrom (w.heap.size + 5) Y wr ∧ Below w.heap.size Y wr)
      (fun _ i _ => s.length - (intOf i).toNat)
    case atStart => exact ⟨0, 0, R0, Nat.zero_le _, rfl, rfl, Lib.hid (by simp), h0, h1, h2, h3, h4, h5, Lib.hid (fun j' hj' => absurd hj' (by omega)), KeepsFrom.refl _ _, Below.refl _ _⟩
    case round =>
      obtain ⟨j, q, R, hj, rfl, rfl, HQ, hRl, j1, j2, j3, j4, HP1, HP2, j5, j7⟩ := hrel
      by_cases hjl : j < s.length
      · obtain ⟨bs, os, rfl, hbs, hcs⟩ := (hsl.step (h6.trans j7)).at_ hjl
        obtain ⟨y, hy, hyl, hpy⟩ := HNUM.out j hjl
        have HY := Lib.hid hy
        have HRK := Lib.hid (HST2.out j y hjl hy)
        rw [hy] at hcs
        clear hy
        have hBw := h6.trans j7
        have bg := hR.row.below hBw hgl
        have oe := hR.els.below hBw (Nat.le_refl _)
        have hypl : y < ps.length := by have := HPS.out; have := HTL.out; omega
        have g0 : (0 : Int) ≤ (j : Int) := by omega
        have g1 : (j : Int) < (s.length : Int) := by omega
        have g2 : (0 : Int) ≤ (y : Int) := by omega
        have g3 : (y : Int) < (T.length : Int) := by omega
        have g5 : (y : Int) < (ps.length : Int) := by omega
        rcases oe.form with ⟨c7, hps, _⟩ | ⟨ge, c7, hev, h71, h72, h73, h74, h75⟩
        · rw [hps] at hypl; simp at hypl
        subst hev
        obtain ⟨cy0, cy1⟩ := h74 y hypl
        rw [hpy] at cy0 cy1
        obtain ⟨u, hu⟩ : ∃ u, nth l y = u := ⟨_, rfl⟩
        simp only [hu] at cy0 cy1
        rw [hu] at HRK
        have q1 := j2.cell 0
        have q2 := j3.cell 0
        have q3 := bg.cell 0
        simp at q1 q2 q3
        have hyR : y < R.length := by omega
        have q4 := j1.cell y hyR
        have q5 := j1.frozen y
        have hbq := HRB.out y (by have := HTL.out; omega)
        clear hpy hu
        by_cases hj0 : j = 0
        · have hd0 : ¬ 0 < j := by omega
          have HQ0 : Hid (q = nth RK y) := Lib.hid (by rw [HRK.out, HQ.out, if_pos hj0, if_pos hj0])
          clear h74 hj0
          gi_wp2
          refine region_quiet_round (F := Fence.wide) rfl (by kernel_rfl) (by kernel_rfl) (by kernel_rfl) ?_
          repeat (gi_big_quiet_step (fail))
          refine wpQuietIn_nil ?_
          intro _ hw'
          obtain ⟨nq, hw''⟩ := hw'
          subst hw''
          gi_wp2
          have HF : Hid (q = nth RK y) := HQ0
          refine ⟨⟨j + 1, q, R.set y q, by omega, by push_cast; rfl, rfl, Lib.hid (by rw [if_neg (by omega), Nat.add_sub_cancel, HY.out, Int.toNat_natCast, ← HF.out]), by rw [List.length_set]; exact hRl, Full.set_ (w := wr.drewN nq) j1 y q, Blk.far (w := wr.drewN nq) j2 (by simp) _, Blk.far (w := wr.drewN nq) j3 (by simp) _, Blk.far (w := wr.drewN nq) j4 (by simp) _, Lib.hid (fun s hs j hj => set_keep hyR HF.out (HP1.out s hs j hj)), Lib.hid (fun j' hj' => ?_), j5.trans (KeepsFrom.trans (Y := wr.drewN nq) ⟨Nat.le_refl _, fun _ _ _ h _ => h⟩ ((KeepsOthers.setCell _ _ _).from _)), (show Below w.heap.size Y (wr.drewN nq) from ⟨j7.os, j7.tape, j7.output, j7.size, j7.block⟩).setCell (p := ⟨w.heap.size + 1, y, none⟩) (Nat.le_succ _) _⟩, ?_⟩
          · rcases Nat.lt_or_ge j' j with e | e
            · exact set_keep hyR HF.out (HP2.out j' e)
            · obtain rfl : j' = j := by omega
              rw [HY.out, Int.toNat_natCast, set_at hyR, HF.out]
          · simp only [intOf]; omega
        · have hd0 : decide (0 < j) = true := by rw [decide_eq_true_iff]; omega
          obtain ⟨z, hz, hzl, hpz⟩ := HNUM.out (j - 1) (by omega)
          have HZJ := Lib.hid hz
          obtain ⟨bs', os', hbe, hbs', hcs'⟩ := (hsl.step hBw).at_ (show j - 1 < s.length by omega)
          cases hbe
          rw [hz] at hcs'
          clear hz
          have hzpl : z < ps.length := by have := HPS.out; have := HTL.out; omega
          obtain ⟨cz0, cz1⟩ := h74 z hzpl
          rw [hpz] at cz0 cz1
          obtain ⟨v, hv⟩ : ∃ v, nth l z = v := ⟨_, rfl⟩
          simp only [hv] at cz0 cz1
          have HV := Lib.hid hv
          clear hv
          have k1 : (0 : Int) ≤ (j : Int) - 1 := by omega
          have k2 : (j : Int) - 1 < (s.length : Int) := by omega
          have k3 : (0 : Int) ≤ (z : Int) := by omega
          have k4 : (z : Int) < (ps.length : Int) := by omega
          have k5 : ((j : Int) - 1).toNat = j - 1 := by omega
          have hjm := Lib.hid hj0
          clear h74 hpz hj0
          have HQZ : Hid (q = nth RK z) := Lib.hid (by rw [HQ.out, if_neg hjm.out, HZJ.out]; rfl)
          have hbz := HRB.out z (by have := HTL.out; omega)
          have hq0 : 0 ≤ q := by rw [HQZ.out]; exact hbz.1
          have hq1 : q ≤ 1048576 := by rw [HQZ.out]; exact hbz.2
          clear hbz
          by_cases huv : u = v
          · gi_wp2
            refine region_quiet_round (F := Fence.wide) rfl (by kernel_rfl) (by kernel_rfl) (by kernel_rfl) ?_
            repeat (gi_big_quiet_step (fail))
            refine wpQuietIn_nil ?_
            intro _ hw'
            obtain ⟨nq, hw''⟩ := hw'
            subst hw''
            gi_wp2
            have HF : Hid (q = nth RK y) := Lib.hid (by rw [HRK.out, if_neg hjm.out, HZJ.out, Int.toNat_natCast, HV.out, if_pos huv, Int.add_zero, HQZ.out])
            refine ⟨⟨j + 1, q, R.set y q, by omega, by push_cast; rfl, rfl, Lib.hid (by rw [if_neg (by omega), Nat.add_sub_cancel, HY.out, Int.toNat_natCast, ← HF.out]), by rw [List.length_set]; exact hRl, Full.set_ (w := wr.drewN nq) j1 y q, Blk.far (w := wr.drewN nq) j2 (by simp) _, Blk.far (w := wr.drewN nq) j3 (by simp) _, Blk.far (w := wr.drewN nq) j4 (by simp) _, Lib.hid (fun s hs j hj => set_keep hyR HF.out (HP1.out s hs j hj)), Lib.hid (fun j' hj' => ?_), j5.trans (KeepsFrom.trans (Y := wr.drewN nq) ⟨Nat.le_refl _, fun _ _ _ h _ => h⟩ ((KeepsOthers.setCell _ _ _).from _)), (show Below w.heap.size Y (wr.drewN nq) from ⟨j7.os, j7.tape, j7.output, j7.size, j7.block⟩).setCell (p := ⟨w.heap.size + 1, y, none⟩) (Nat.le_succ _) _⟩, ?_⟩
            · rcases Nat.lt_or_ge j' j with e | e
              · exact set_keep hyR HF.out (HP2.out j' e)
              · obtain rfl : j' = j := by omega
                rw [HY.out, Int.toNat_natCast, set_at hyR, HF.out]
            · simp only [intOf]; omega
          · gi_wp2
            refine region_quiet_round (F := Fence.wide) rfl (by kernel_rfl) (by kernel_rfl) (by kernel_rfl) ?_
            repeat (gi_big_quiet_step (fail))
            refine wpQuietIn_nil ?_
            intro _ hw'
            obtain ⟨nq, hw''⟩ := hw'
            subst hw''
            gi_wp2
            have HF : Hid (q + 1 = nth RK y) := Lib.hid (by rw [HRK.out, if_neg hjm.out, HZJ.out, Int.toNat_natCast, HV.out, if_neg huv, HQZ.out])
            refine ⟨⟨j + 1, (q + 1), R.set y (q + 1), by omega, by push_cast; rfl, rfl, Lib.hid (by rw [if_neg (by omega), Nat.add_sub_cancel, HY.out, Int.toNat_natCast, ← HF.out]), by rw [List.length_set]; exact hRl, Full.set_ (w := wr.drewN nq) j1 y (q + 1), Blk.far (w := wr.drewN nq) j2 (by simp) _, Blk.far (w := wr.drewN nq) j3 (by simp) _, Blk.far (w := wr.drewN nq) j4 (by simp) _, Lib.hid (fun s hs j hj => set_keep hyR HF.out (HP1.out s hs j hj)), Lib.hid (fun j' hj' => ?_), j5.trans (KeepsFrom.trans (Y := wr.drewN nq) ⟨Nat.le_refl _, fun _ _ _ h _ => h⟩ ((KeepsOthers.setCell _ _ _).from _)), (show Below w.heap.size Y (wr.drewN nq) from ⟨j7.os, j7.tape, j7.output, j7.size, j7.block⟩).setCell (p := ⟨w.heap.size + 1, y, none⟩) (Nat.le_succ _) _⟩, ?_⟩
            · rcases Nat.lt_or_ge j' j with e | e
              · exact set_keep hyR HF.out (HP2.out j' e)
              · obtain rfl : j' = j := by omega
                rw [HY.out, Int.toNat_natCast, set_at hyR, HF.out]
            · simp only [intOf]; omega
      · obtain rfl : j = s.length := by omega
        have g1 : ¬ ((s.length : Int) < (s.length : Int)) := by omega
        gi_wp2
        refine ⟨j5, ⟨j7, j4.trans h4.symm⟩, R, hRl, j1, j2, j3, j4, Lib.hid (fun s' hs' j hj => ?_), h6.trans j7⟩
        rcases List.mem_append.1 hs' with e | e
        · exact HP1.out s' e j hj
        · obtain rfl := List.mem_singleton.1 e
          have hj2 : j < s.length := by have := HLEN.out; omega
          have := HP2.out j hj2
          rwa [HSEG.out j hj2] at this
  case done =>
    rintro D ys Z hD rfl ⟨R, h0, h1, h2, h3, h4, h5, h6⟩ hK
    have q1 := h3.cell 0
    simp at q1
    gi_wp2
    have hRR : R = RK := by
      have e1 := HRL.out
      have e2 := HTL.out
      refine List.ext_getElem (by omega) (fun i hi hi2 => ?_)
      rw [← nth_eq R i hi, ← nth_eq RK i hi2]
      obtain ⟨s, j, hs, hj, e⟩ := sinv_find HSW.out i (by omega)
      have := h5.out ⟨s, hs⟩ (List.mem_finRange _) j hj
      rw [show (⟨s, hs⟩ : Fin lens.length).val = s from rfl, e, Int.toNat_natCast] at this
      exact this
    subst hRR
    refine ⟨by simp, .inl ⟨_, _, rfl, run_takeDeferred hK, ?_⟩⟩
    have ha : Aside w.heap.size Z (some D) := fun r e => by cases e; exact ⟨by have := h6.size; omega, _, hK, rfl⟩
    have h1' := Blk.aside h1 (grownBy_putObj' Z D (.deferred none)) ha
    refine ⟨.slice (some ⟨w.heap.size + 1, 0, none⟩) T.length T.length, by simp [results, Try.f63, go_sem], ?_⟩
    refine ⟨some ⟨w.heap.size + 1, 0, none⟩, T.length, by rw [h0], by omega, Full.sl h1', below_aside (B := w.heap.size) h6 (Nat.le_refl _) (Nat.le_refl _) (grownBy_putObj' Z D (.deferred none)) ha⟩
  case stop =>
    rintro D cd pre Z _ _ hh _
    exact hh.elim
end Go.Proofs.Ytgicfgpemcagcaa
/- Walks of rank: Ranks. -/
namespace Go.Proofs.Ytgicfgpemcagcaa
set_option linter.unusedVariables false
set_option maxRecDepth 100000
open Go.RowKit Go.Shelf
set_option maxHeartbeats 2000000 in
theorem Ranks_any (A A' : Option Addr) (c cl : Nat) (l lens : List Int) (w : World) (h : Sl w A l) (hcl : l.length ≤ cl) (k : Ok l) (h' : Sl w A' lens) (hc' : lens.length ≤ c) (k' : Ok lens) :
    Calls Try.prog 29 #[.slice A l.length cl, .slice A' lens.length c] w (RetL w (orL (sgE l lens) (rkL l lens lens.length)) (sgE l lens)) := by
  by_cases he : sgE l lens = 0
  · obtain ⟨h0, hz⟩ := sgE_ok he
    have C1 := Lib.hid (rowOf_ok A A' c cl l lens w h hcl k h' hc' k' h0 hz)
    have hll := hz.short
    have hzu : Segs (upL l.length) lens := sg_of_len hz (up_length _)
    have C2 := Lib.hid (fun (W : World) (g : Nat) (eV sV : Value) (hR : RowAt W w.heap.size g eV sV (.slice A' lens.length c) (elL l lens) (upL l.length)) (hg : w.heap.size ≤ g) (hB : Below w.heap.size w W) =>
      sort_any A' A' c w.heap.size g eV sV (elL l lens) (upL l.length) lens W hR hg hB.size (sl_low h' hB) (sinv_up hzu _) (by rw [up_length, elL_len hz]))
    have C3 := Lib.hid (fun (W : World) (g : Nat) (eV sV : Value) (T : List Int) (hR : RowAt W w.heap.size g eV sV (.slice A' lens.length c) (elL l lens) T) (hg : w.heap.size ≤ g) (hB : Below w.heap.size w W) (hT : SInv (pkey (elL l lens)) lens T) =>
      ranks_any A' c w.heap.size g eV sV l T lens W hR hg hB.size (h'.step hB) hz hT (by rw [← hT.segs.ofs_all, hz.ofs_all]))
    rw [he, orL_ok]
    have HE := Lib.hid he
    clear he h0
    go_enter Try.func29, Try.ntmps29
    go_wp2_with fail
    refine C1.out.mono ?_
    rintro e w1 ⟨g, eV, sV, rfl, hg, b1, o1, o2, hB⟩
    go_wp2_with fail
    refine (C2.out w1 g eV sV ⟨b1, o1, o2⟩ hg hB).mono ?_
    rintro e w2 ⟨rfl, T, hT, hR2, hB2⟩
    go_wp2_with fail
    refine (C3.out w2 g _ _ T hR2 hg (hB.trans hB2) hT).mono ?_
    rintro e w3 ⟨A3, c3, rfl, hc3, hs3, hB3⟩
    go_wp2
    go_ret2
    exact ⟨A3, c3, rfl, hc3, hs3, (hB.trans hB2).trans (hB3.mono (hB.trans hB2).size)⟩
  · have C1 := Lib.hid (rowOf_err A A' c cl l lens w h hcl k h' hc' k' he)
    have hd : (sgE l lens != 0) = true := by rw [bne_iff_ne]; exact he
    have HE := Lib.hid he
    clear he
    go_enter Try.func29, Try.ntmps29
    go_wp2_with fail
    refine C1.out.mono ?_
    rintro e w1 ⟨rfl, hB⟩
    go_wp2
    go_ret2
    exact retL_none HE.out hB
end Go.Proofs.Ytgicfgpemcagcaa
/- Walks of rank: firsts: the list's order and the segments'; a map whose keys are elements. -/
namespace Go.Proofs.Ytgicfgpemcagcaa
set_option linter.unusedVariables false
set_option maxRecDepth 100000
open Go.RowKit Go.Shelf
def nwB (ps : List (Int × Int)) (i : Nat) : Bool := (List.range i).all fun j => decide (pth ps j ≠ pth ps i)
theorem nwB_iff (ps : List (Int × Int)) (i : Nat) : nwB ps i = true ↔ ∀ j, j < i → pth ps j ≠ pth ps i := by
  unfold nwB
  rw [List.all_eq_true]
  exact ⟨fun h j hj => by simpa using h j (List.mem_range.2 hj), fun h j hj => by simpa using h j (List.mem_range.1 hj)⟩
def fN (ps : List (Int × Int)) : Nat → List Int
  | 0 => []
  | k + 1 => if nwB ps k = true then fN ps k ++ [(k : Int)] else fN ps k
def fC (ps : List (Int × Int)) (m : Nat) : Nat → List Int
  | 0 => List.replicate m 0
  | k + 1 => if nwB ps k = true then (fC ps m k).set (pth ps k).1.toNat (nth (fC ps m k) (pth ps k).1.toNat + 1) else fC ps m k
theorem fN_len (ps : List (Int × Int)) : ∀ k, (fN ps k).length ≤ k
  | 0 => by simp [fN]
  | k + 1 => by
    have := fN_len ps k
    unfold fN
    split
    · simp; omega
    · omega
theorem fC_len (ps : List (Int × Int)) (m : Nat) : ∀ k, (fC ps m k).length = m
  | 0 => by simp [fC]
  | k + 1 => by
    have := fC_len ps m k
    unfold fC
    split
    · simpa using this
    · exact this
def hadE (ps : List (Int × Int)) (k : Nat) (s x : Int) : Bool := (ps.take k).contains (s, x)
theorem mem_take_pth (ps : List (Int × Int)) (k : Nat) (hk : k ≤ ps.length) (y : Int × Int) : y ∈ ps.take k ↔ ∃ j, j < k ∧ pth ps j = y := by
  rw [List.mem_take_iff_getElem]
  constructor
  · rintro ⟨j, hj, e⟩
    exact ⟨j, by omega, by rw [pth_eq ps j (by omega)]; exact e⟩
  · rintro ⟨j, hj, e⟩
    exact ⟨j, by omega, by rw [← pth_eq ps j (by omega)]; exact e⟩
theorem hadE_nw (ps : List (Int × Int)) (k : Nat) (hk : k < ps.length) : hadE ps k (pth ps k).1 (pth ps k).2 = !nwB ps k := by
  rw [Bool.eq_iff_iff]
  unfold hadE
  rw [List.contains_iff_mem, mem_take_pth ps k (by omega)]
  constructor
  · rintro ⟨j, hj, e⟩
    rw [Bool.not_eq_true', Bool.eq_false_iff]
    intro h
    exact (nwB_iff ps k).1 h j hj e
  · intro h
    rw [Bool.not_eq_true', Bool.eq_false_iff] at h
    refine Classical.byContradiction fun hn => h ((nwB_iff ps k).2 fun j hj e => hn ⟨j, hj, e⟩)
theorem hadE_succ (ps : List (Int × Int)) (k : Nat) (hk : k < ps.length) : (fun s x => if s = (pth ps k).1 ∧ x = (pth ps k).2 then true else hadE ps k s x) = hadE ps (k + 1) := by
  funext s x
  have h1 : hadE ps (k + 1) s x = true ↔ hadE ps k s x = true ∨ pth ps k = (s, x) := by
    unfold hadE
    rw [List.contains_iff_mem, List.contains_iff_mem, mem_take_pth ps k (by omega), mem_take_pth ps (k + 1) (by omega)]
    constructor
    · rintro ⟨j, hj, e⟩
      by_cases ej : j = k
      · subst ej; exact .inr e
      · exact .inl ⟨j, by omega, e⟩
    · rintro (⟨j, hj, e⟩ | e)
      · exact ⟨j, by omega, e⟩
      · exact ⟨k, by omega, e⟩
  rw [Bool.eq_iff_iff, h1]
  by_cases e : s = (pth ps k).1 ∧ x = (pth ps k).2
  · rw [if_pos e]
    exact ⟨fun _ => .inr (by rw [e.1, e.2]), fun _ => rfl⟩
  · rw [if_neg e]
    exact ⟨.inl, fun h => h.elim id fun h => absurd (by rw [h]; exact ⟨rfl, rfl⟩) e⟩
theorem hadE_same (ps : List (Int × Int)) (k : Nat) (hk : k < ps.length) (hn : nwB ps k = false) : hadE ps (k + 1) = hadE ps k := by
  rw [← hadE_succ ps k hk]
  funext s x
  by_cases e : s = (pth ps k).1 ∧ x = (pth ps k).2
  · rw [if_pos e, e.1, e.2, hadE_nw ps k hk, hn]; rfl
  · rw [if_neg e]
theorem nw_fs {l lens : List Int} (hz : Segs l lens) (s i : Nat) (hs : s < lens.length) (h1 : ofs lens s ≤ i) (h2 : i < ofs lens (s + 1)) : nwB (elL l lens) i = fsB l (ofs lens s) i := by
  rw [Bool.eq_iff_iff, nwB_iff, fsB_iff]
  have hlen : i < l.length := by
    have := (hz.step s hs).2.2.1
    omega
  constructor
  · intro h k hk hki e
    exact h k hki (by rw [el_at hz s k hs hk (by omega), el_at hz s i hs h1 h2, e])
  · intro h j hj e
    rw [el_at hz s i hs h1 h2] at e
    by_cases hl : ofs lens s ≤ j
    · rw [el_at hz s j hs hl (by omega)] at e
      exact h j hl hj (by injection e)
    · obtain ⟨s', q1, q2, q3⟩ := seg_of hz lens.length (Nat.le_refl _) j (by rw [hz.ofs_all]; omega)
      rw [el_at hz s' j q1 q2 q3] at e
      have : (s' : Int) = (s : Int) := by injection e
      have : s' = s := by omega
      subst this
      exact hl q2
theorem fN_part {l lens : List Int} (hz : Segs l lens) (s : Nat) (hs : s < lens.length) (X : List Int) (hX : fN (elL l lens) (ofs lens s) = X) : ∀ j, j ≤ ofs lens (s + 1) - ofs lens s → fN (elL l lens) (ofs lens s + j) = X ++ fsN l (ofs lens s) j
  | 0, _ => by simp [fsN, hX]
  | j + 1, hj => by
    have ih := fN_part hz s hs X hX j (by omega)
    show (if nwB (elL l lens) (ofs lens s + j) = true then fN (elL l lens) (ofs lens s + j) ++ [((ofs lens s + j : Nat) : Int)] else fN (elL l lens) (ofs lens s + j)) = X ++ (if fsB l (ofs lens s) (ofs lens s + j) = true then fsN l (ofs lens s) j ++ [((ofs lens s + j : Nat) : Int)] else fsN l (ofs lens s) j)
    rw [nw_fs hz s (ofs lens s + j) hs (by omega) (by omega), ih]
    split
    · rw [List.append_assoc]
    · rfl
theorem fN_at {l lens : List Int} (hz : Segs l lens) : ∀ s, s ≤ lens.length → fN (elL l lens) (ofs lens s) = fsP l lens s
  | 0, _ => by rw [ofs_zero]; rfl
  | s + 1, hs => by
    have ih := fN_at hz s (by omega)
    have st := hz.step s (by omega)
    have := fN_part hz s (by omega) _ ih (ofs lens (s + 1) - ofs lens s) (Nat.le_refl _)
    rw [show ofs lens s + (ofs lens (s + 1) - ofs lens s) = ofs lens (s + 1) by omega] at this
    exact this
theorem fN_all {l lens : List Int} (hz : Segs l lens) : fN (elL l lens) l.length = fsP l lens lens.length := by
  rw [← hz.ofs_all]
  exact fN_at hz _ (Nat.le_refl _)
theorem fC_count (ps : List (Int × Int)) (m : Nat) : ∀ k, (∀ i, i < k → 0 ≤ (pth ps i).1 ∧ (pth ps i).1 < m) → ∀ t : Nat, t < m → nth (fC ps m k) t = (((fN ps k).filter fun i => decide ((pth ps i.toNat).1 = (t : Int))).length : Int)
  | 0, _, t, ht => by
    show nth (List.replicate m 0) t = _
    rw [nth_eq _ _ (by simpa using ht)]; simp [fN]
  | k + 1, hk, t, ht => by
    have ih := fC_count ps m k (fun i hi => hk i (by omega))
    obtain ⟨b1, b2⟩ := hk k (by omega)
    show nth (if nwB ps k = true then (fC ps m k).set (pth ps k).1.toNat (nth (fC ps m k) (pth ps k).1.toNat + 1) else fC ps m k) t = (((if nwB ps k = true then fN ps k ++ [(k : Int)] else fN ps k).filter fun i => decide ((pth ps i.toNat).1 = (t : Int))).length : Int)
    split
    · rw [List.filter_append, List.length_append, Int.natCast_add, ← ih t ht]
      by_cases e : (pth ps k).1 = (t : Int)
      · have e2 : (pth ps k).1.toNat = t := by omega
        rw [e2, nth_eq _ _ (by rw [List.length_set, fC_len]; exact ht), List.getElem_set_self]
        simp [e]
      · have e2 : (pth ps k).1.toNat ≠ t := by omega
        rw [nth_eq _ _ (by rw [List.length_set, fC_len]; exact ht), List.getElem_set_ne e2, ← nth_eq]
        simp [e]
    · exact ih t ht
theorem fsN_mem (l : List Int) (lo : Nat) : ∀ (j : Nat) (x : Int), x ∈ fsN l lo j → ∃ i : Nat, x = (i : Int) ∧ lo ≤ i ∧ i < lo + j
  | 0, x, h => by simp [fsN] at h
  | j + 1, x, h => by
    unfold fsN at h
    split at h
    · rcases List.mem_append.1 h with h | h
      · obtain ⟨i, e, h1, h2⟩ := fsN_mem l lo j x h
        exact ⟨i, e, h1, by omega⟩
      · exact ⟨lo + j, List.mem_singleton.1 h, by omega, by omega⟩
    · obtain ⟨i, e, h1, h2⟩ := fsN_mem l lo j x h
      exact ⟨i, e, h1, by omega⟩
theorem fsP_filter {l lens : List Int} (hz : Segs l lens) (t : Nat) : ∀ m, m ≤ lens.length → ((fsP l lens m).filter fun i => decide ((pth (elL l lens) i.toNat).1 = (t : Int))).length = if t < m then (fsN l (ofs lens t) (ofs lens (t + 1) - ofs lens t)).length else 0
  | 0, _ => by simp [fsP, glu]
  | m + 1, hm => by
    have ih := fsP_filter hz t m (by omega)
    show ((fsP l lens m ++ fsN l (ofs lens m) (ofs lens (m + 1) - ofs lens m)).filter fun i => decide ((pth (elL l lens) i.toNat).1 = (t : Int))).length = _
    rw [List.filter_append, List.length_append, ih]
    have hseg : ∀ x ∈ fsN l (ofs lens m) (ofs lens (m + 1) - ofs lens m), (pth (elL l lens) x.toNat).1 = (m : Int) := fun x hx => by
      obtain ⟨i, rfl, h1, h2⟩ := fsN_mem _ _ _ _ hx
      rw [Int.toNat_natCast, el_at hz m i (by omega) h1 (by omega)]
    by_cases e : t = m
    · subst e
      rw [List.filter_eq_self.2 (fun x hx => by rw [hseg x hx]; simp), if_neg (by omega), if_pos (by omega), Nat.zero_add]
    · rw [List.filter_eq_nil_iff.2 (fun x hx => by rw [hseg x hx]; simp; omega), List.length_nil, Nat.add_zero]
      by_cases e2 : t < m
      · rw [if_pos e2, if_pos (by omega)]
      · rw [if_neg e2, if_neg (by omega)]
theorem fC_all {l lens : List Int} (hz : Segs l lens) : fC (elL l lens) lens.length l.length = fsM l lens lens.length := by
  refine eq_of_nth (by rw [fC_len]; unfold fsM; rw [mk_length]) (fun t ht => ?_)
  rw [fC_len] at ht
  rw [fC_count _ _ _ (fun i hi => ?_) t ht, fN_all hz, fsP_filter hz t _ (Nat.le_refl _), if_pos ht]
  · unfold fsM
    rw [nth_mk _ _ _ ht]
  · obtain ⟨s, h1, h2, h3⟩ := seg_of hz lens.length (Nat.le_refl _) i (by rw [hz.ofs_all]; exact hi)
    rw [el_at hz s i h1 h2 h3]
    exact ⟨Int.natCast_nonneg _, by show (s : Int) < _; omega⟩
end Go.Proofs.Ytgicfgpemcagcaa
