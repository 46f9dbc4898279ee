/- Walks of scan: place. -/
import Derived.Test.YtecpanppnljkhaaGreatDoorJa
import Derived.Test.YtecpanppnljkhaaGreatDoorEv
import Derived.Test.YtecpanppnljkhaaGreatDoorQh
namespace Go.Proofs.YtecpanppnljkhaaGreatDoor
set_option linter.unusedVariables false
set_option maxRecDepth 100000
open Go.RowKit Go.Shelf
attribute [local go_sem] Oper.semAt_some
/-- One level down: what is still to be counted, and the place. -/
def plS (LV : Nat → List Int) (s : Int × Nat) (j : Nat) : Int × Nat := if nth (LV j) (2 * s.2) ≤ s.1 then (s.1 - nth (LV j) (2 * s.2), 2 * s.2 + 1) else (s.1, 2 * s.2)
def plF {n : Nat} (LV : Nat → List Int) (k : Int) (pre : List (Fin n)) : Int × Nat := pre.foldl (fun s j => plS LV s j.val) (k, 0)
theorem plF_snoc {n : Nat} (LV : Nat → List Int) (k : Int) (pre : List (Fin n)) (j : Fin n) : plF LV k (pre ++ [j]) = plS LV (plF LV k pre) j.val := by unfold plF; rw [List.foldl_append]; rfl
theorem plF_lt {n : Nat} (LV : Nat → List Int) (k : Int) (pre : List (Fin n)) : (plF LV k pre).2 < 2 ^ pre.length := by
  unfold plF
  suffices h : ∀ (pre : List (Fin n)) (s : Int × Nat) (m : Nat), s.2 < 2 ^ m → (pre.foldl (fun s j => plS LV s j.val) s).2 < 2 ^ (m + pre.length) by
    have := h pre (k, 0) 0 (by simp); simpa using this
  intro pre
  induction pre with
  | nil => intro s m h; simpa using h
  | cons j pre ih =>
    intro s m h
    have := ih (plS LV s j.val) (m + 1) (by
      unfold plS
      rw [Nat.pow_succ]
      split
      · simp only; omega
      · simp only; omega)
    rw [List.foldl_cons, List.length_cons, show m + (pre.length + 1) = m + 1 + pre.length by omega]
    exact this
/-- The place of the k-th one. -/
def plL (LV : Nat → List Int) (d : Nat) (k : Int) : Nat := (plF LV k (List.finRange d).reverse).2
theorem plF_range {n : Nat} (LV : Nat → List Int) (k : Int) (hk : 0 ≤ k) (hv : ∀ j i, 0 ≤ nth (LV j) i) (pre : List (Fin n)) : 0 ≤ (plF LV k pre).1 ∧ (plF LV k pre).1 ≤ k := by
  unfold plF
  suffices h : ∀ (pre : List (Fin n)) (s : Int × Nat), 0 ≤ s.1 ∧ s.1 ≤ k → 0 ≤ (pre.foldl (fun s j => plS LV s j.val) s).1 ∧ (pre.foldl (fun s j => plS LV s j.val) s).1 ≤ k by
    exact h pre (k, 0) ⟨hk, Int.le_refl _⟩
  intro pre
  induction pre with
  | nil => intro s h; exact h
  | cons j pre ih =>
    intro s h
    rw [List.foldl_cons]
    refine ih _ ?_
    unfold plS
    have := hv j.val (2 * s.2)
    split
    · simp only; omega
    · exact h
set_option maxHeartbeats 4000000 in
theorem place_any (g d base k : Nat) (vs : Nat → Value) (f : Int → Int → Int) (a : List Int) (w : World) (hd : d ≤ 20) (ha : a.length = 2 ^ d) (hT : TreeAt w base g vs (lvK f a)) (hk : k ≤ 1048576) (hv : ∀ j i, 0 ≤ nth (lvK f a j) i ∧ nth (lvK f a j) i ≤ 1048576) :
    Calls Tryz.prog 43 #[.pointer (some ⟨g, 0, none⟩), .int .i64 (k : Int)] w fun e w' => e = .returned (.int .i64 ((plL (lvK f a) d k : Nat) : Int)) ∧ Below w.heap.size w w' := by
  have C1 := Lib.hid (treeLists_any g d base vs f a ((w.alloc (.cells #[.int .i64 (k : Int)] 3)).alloc (.cells #[.int .i64 0] 3)) hd ha ((hT.alloc _).alloc _))
  have b0 := ((Blk.new w 3 #[.int .i64 (k : Int)]).alloc (.cells #[.int .i64 0] 3)).alloc (.cells #[.slice (some ⟨g, 0, none⟩) d (d + 1)] 33)
  have b1 := (Blk.new (w.alloc (.cells #[.int .i64 (k : Int)] 3)) 3 #[.int .i64 0]).alloc (.cells #[.slice (some ⟨g, 0, none⟩) d (d + 1)] 33)
  have b2 := Blk.new ((w.alloc (.cells #[.int .i64 (k : Int)] 3)).alloc (.cells #[.int .i64 0] 3)) 33 #[.slice (some ⟨g, 0, none⟩) d (d + 1)]
  simp only [World.size_alloc] at b1 b2
  have hs := fun W => slices_to (some ⟨g, 0, none⟩) (d + 1) (d + 1) d (by omega) (Nat.le_refl _) (by omega) W
  have k1 : ((d + 1 : Nat) : Int) - 1 = (d : Int) := by omega
  obtain ⟨d1, hd1⟩ : ∃ d1, d + 1 = d1 := ⟨_, rfl⟩
  rw [hd1] at hs k1 C1 b0 b1 b2
  refine (callsIn_wide (n := 8)).1 ?_
  refine callsIn_of_wp_marks Tryz.func43 rfl trivial ?_ rfl
  simp only [Tryz.ntmps43, List.size_toArray, List.length_cons, List.length_nil, Nat.reduceAdd, Nat.reduceSub, Array.replicate_succ, Array.replicate_zero, List.push_toArray, List.append_toArray, List.nil_append, List.cons_append]
  gi_wp2_with (first | (refine ⟨trivial, ?_⟩; gi_at_call 55; refine (callsIn_wide.2 C1.out).mono ?_; rintro e wx ⟨rfl, e1⟩; have e1 := e1.symm; subst e1) | (refine ⟨trivial, ?_⟩; gi_at_call 79; refine (callsIn_wide.2 (backward_any _ _ _ _)).mono ?_; rintro e w' ⟨rfl, rfl⟩))
  have hB0 : Below w.heap.size w (((w.alloc (.cells #[.int .i64 (k : Int)] 3)).alloc (.cells #[.int .i64 0] 3)).alloc (.cells #[.slice (some ⟨g, 0, none⟩) d d1] 33)) := ((((Below.refl _ _).alloc (Nat.le_refl _) _).alloc (by simp) _).alloc (by simp; omega) _)
  have hsz : w.heap.size + 3 ≤ ((((w.alloc (.cells #[.int .i64 (k : Int)] 3)).alloc (.cells #[.int .i64 0] 3)).alloc (.cells #[.slice (some ⟨g, 0, none⟩) d d1] 33))).heap.size := by simp
  obtain ⟨W0, hW0⟩ : ∃ W0, (((w.alloc (.cells #[.int .i64 (k : Int)] 3)).alloc (.cells #[.int .i64 0] 3)).alloc (.cells #[.slice (some ⟨g, 0, none⟩) d d1] 33)) = W0 := ⟨_, rfl⟩
  rw [hW0] at b0 b1 b2 hB0 hsz ⊢
  clear hW0 C1 e1
  have hVc : ∀ j, j < d → W0.cell? ⟨g, 0 + j, none⟩ = some (vs j) := fun j hj => by rw [Nat.zero_add]; exact (hB0.cell (p := ⟨g, j, none⟩) hT.blk.lt).trans (hT.cell (by omega))
  refine wpIn_rangeFunc_in rfl (by omega) (gf := 99) (lb := #[.pointer (some ⟨w.heap.size + 1 + 1, 0, none⟩)]) rfl trivial (enters_of Tryz.func99 (by kernel_rfl) rfl)
    (back_seq (8 - 1) (by omega) (w.heap.size + 1 + 1) w.heap.size d1 d (some ⟨g, 0, none⟩) vs (by omega) W0 (by omega) b2 (fun _ => ⟨g, 0, rfl, hT.blk.lt, hVc⟩)) kpB_t (kpB_b (by omega) (by omega)) (fun _ => rfl)
    (fun pre X => Blk X w.heap.size 3 #[.int .i64 (plF (lvK f a) k pre).1] ∧ Blk X (w.heap.size + 1) 3 #[.int .i64 (((plF (lvK f a) k pre).2 : Nat) : Int)] ∧ Below w.heap.size w X ∧ w.heap.size + 3 ≤ X.heap.size)
    (fun _ X Y row hs hg hr => by
      obtain ⟨g1, g2, g4, g5⟩ := hs
      exact ⟨g1.aside hg hr, g2.aside hg hr, below_aside g4 (Nat.le_refl _) (by omega) hg hr, Nat.le_trans g5 hg.size⟩)
    ⟨b0, b1, hB0, hsz⟩
    (fun x' => ⟨#[.pointer (some ⟨g, 0, none⟩), .int .i64 (k : Int), undef, .pointer (some ⟨w.heap.size, 0, none⟩), .int .i64 0, .pointer (some ⟨w.heap.size + 1, 0, none⟩), .slice (some ⟨g, 0, none⟩) d1 d1, undef, vs x'.val, .pointer (some ⟨g, 0, none⟩), .slice (some ⟨g, 0, none⟩) d1 d1, .slice (some ⟨g, 0, none⟩) d1 d1, .slice (some ⟨g, 0, none⟩) d1 d1, .int .i64 (d1 : Int), .int .i64 (d : Int), .slice (some ⟨g, 0, none⟩) d d1, .func (.func 99) #[] #[.pointer (some ⟨w.heap.size + 1 + 1, 0, none⟩)], .int .i64 ((x'.val : Nat) : Int), vs x'.val, undef, undef, undef, undef, undef, undef, undef, undef, undef, undef, undef, undef, undef, undef, undef, undef, undef], []⟩)
    ?assign ?body ?done
  case assign =>
    rintro i x' X K hK
    simp only [bkV]
    gi_wp2
    exact hK
  case body =>
    rintro i pre x' post X hx' hl' ⟨r, hr⟩ ⟨g1, g2, g4, g5⟩
    have hat := back_at hx'
    have hTX := hT.below g4 (Nat.le_refl _)
    obtain ⟨Al, cl, hVe, hcl, hsl⟩ := (hTX.own (show x'.val < 21 by omega)).form
    have hll := lv_length f ha x'.val (by omega)
    rw [show d - x'.val = pre.length + 1 by omega, Nat.pow_succ] at hll
    have hlt := plF_lt (lvK f a) k pre
    have hrg := plF_range (lvK f a) (k : Int) (by omega) (fun j i => (hv j i).1) pre
    have HSN := Lib.hid (plF_snoc (lvK f a) k pre x')
    have hvx := hv x'.val (2 * (plF (lvK f a) k pre).2)
    obtain ⟨bl, ol, rfl, hbl, hcL⟩ := hsl (by omega)
    have cq := hcL (2 * (plF (lvK f a) k pre).2) (by omega)
    have hp16 : (plF (lvK f a) k pre).2 ≤ 1048576 := by
      have : 2 ^ pre.length ≤ 2 ^ 20 := Nat.pow_le_pow_right (by omega) (by omega)
      omega
    unfold plS at HSN
    rw [hVe]
    obtain ⟨lev, hlev⟩ : ∃ lev, lvK f a x'.val = lev := ⟨_, rfl⟩
    rw [hlev] at hcl hll hvx cq HSN ⊢
    obtain ⟨s, hs'⟩ : ∃ s, plF (lvK f a) k pre = s := ⟨_, rfl⟩
    rw [hs'] at g1 g2 hlt hrg hvx cq hp16 HSN
    obtain ⟨kk, pl⟩ := s
    simp only at g1 g2 hlt hrg hvx cq hp16 HSN
    obtain ⟨p2, hp2⟩ : ∃ p2, 2 * pl = p2 := ⟨_, rfl⟩
    obtain ⟨v, hvv⟩ : ∃ v, nth lev (2 * pl) = v := ⟨_, rfl⟩
    rw [hvv] at hvx cq HSN
    rw [hp2] at cq HSN
    obtain ⟨M, hM⟩ : ∃ M, lev.length = M := ⟨_, rfl⟩
    rw [hM] at hll hcl ⊢
    have m1 : (pl : Int) * 2 = (p2 : Int) := by omega
    have m2 : (0 : Int) ≤ (p2 : Int) := by omega
    have m3 : (p2 : Int) < (M : Int) := by omega
    have m4 : IntKind.i64.wrap (p2 : Int) = (p2 : Int) := by unfold IntKind.wrap; simp [IntKind.signed, IntKind.bits]; omega
    have hp2b : p2 ≤ 2097152 := by omega
    have c1 := g1.cell 0
    have c2 := g2.cell 0
    have f2 := g2.frozen 0
    have f1 := g1.frozen 0
    simp at c1 c2
    have G1 := g1.far (p := ⟨w.heap.size + 1, 0, none⟩) (by show w.heap.size ≠ w.heap.size + 1; omega) (.int .i64 (p2 : Int))
    have G2 := g2.set_ 0 (.int .i64 (p2 : Int))
    simp at G2
    have hbl1 : bl ≠ w.heap.size + 1 := by
      have h9 := hTX
      intro e9
      have h8 := (hT.own (show x'.val < 21 by omega)).lt bl (by rw [hVe]; rfl)
      omega
    have CQ : (X.setCell ⟨w.heap.size + 1, 0, none⟩ (.int .i64 (p2 : Int))).cell? ⟨bl, ol + p2, none⟩ = some (.int .i64 v) := by
      rw [← cq]
      exact World.cell?_of_block (a := ⟨bl, ol + p2, none⟩) (Below.heap_setCell X ⟨w.heap.size + 1, 0, none⟩ _ bl hbl1)
    have C9 := G1.cell 0
    have C10 := G2.cell 0
    have F9 := G1.frozen 0
    simp at C9 C10
    have o1 : KeepsOthers X (X.setCell ⟨w.heap.size + 1, 0, none⟩ (.int .i64 (p2 : Int))) := KeepsOthers.setCell X _ _
    have o2 : Below w.heap.size X (X.setCell ⟨w.heap.size + 1, 0, none⟩ (.int .i64 (p2 : Int))) := (Below.refl _ X).setCell (p := ⟨w.heap.size + 1, 0, none⟩) (by show w.heap.size ≤ w.heap.size + 1; omega) _
    have o3 : (X.setCell ⟨w.heap.size + 1, 0, none⟩ (.int .i64 (p2 : Int))).heap[w.heap.size + 1 + 1]? = X.heap[w.heap.size + 1 + 1]? := Below.heap_setCell X ⟨w.heap.size + 1, 0, none⟩ _ _ (by show w.heap.size + 1 + 1 ≠ w.heap.size + 1; omega)
    have o4 : w.heap.size + 3 ≤ (X.setCell ⟨w.heap.size + 1, 0, none⟩ (.int .i64 (p2 : Int))).heap.size := by simp; omega
    clear hVe hsl hcL hs' hvv hp2 hM hlev hx' hlt hTX hll
    gi_wp2
    obtain ⟨Y, hY⟩ : ∃ Y, X.setCell ⟨w.heap.size + 1, 0, none⟩ (.int .i64 (p2 : Int)) = Y := ⟨_, rfl⟩
    rw [hY] at G1 G2 CQ C9 C10 F9 o1 o2 o3 o4 ⊢
    clear hY g1 g2 c1 c2 f1 f2 cq
    refine wpIn_region_mix' (fun W' => W'.cell? ⟨w.heap.size, 0, none⟩ = some (.int .i64 kk) ∧ W'.cell? ⟨w.heap.size + 1, 0, none⟩ = some (.int .i64 (p2 : Int)) ∧ W'.cell? ⟨bl, ol + p2, none⟩ = some (.int .i64 v)) [false, false, false, false, false] (fun _ => trivial) rfl (by kernel_rfl) (by kernel_rfl) ⟨C9, C10, CQ⟩ ?_
    simp only [mixT, mixH, mixD]
    iterate 5 (refine wpLts_light ?_ (fun W' hW => ?_) ?_; rotate_left; (obtain ⟨q0, q1, q2⟩ := hW; go_simp; try with_reducible rfl); simp only [Act.put, List.setIfInBounds_toArray, List.set_cons_zero, List.set_cons_succ])
    refine wpLts_nil (wpHvs_nil ?_)
    by_cases hvk : v ≤ kk
    · rw [if_pos hvk] at HSN
      have hdv : decide (v ≤ kk) = true := decide_eq_true hvk
      have m5 : IntKind.i64.wrap (kk - v) = kk - v := by unfold IntKind.wrap; simp [IntKind.signed, IntKind.bits]; omega
      obtain ⟨p3, hp3⟩ : ∃ p3, p2 + 1 = p3 := ⟨_, rfl⟩
      rw [hp3] at HSN
      have m6 : (p2 : Int) + 1 = (p3 : Int) := by omega
      have m7 : IntKind.i64.wrap (p3 : Int) = (p3 : Int) := by unfold IntKind.wrap; simp [IntKind.signed, IntKind.bits]; omega
      clear hp3
      gi_wp2
      refine wpIn_region_mix' (fun W' => W'.cell? ⟨w.heap.size, 0, none⟩ = some (.int .i64 kk) ∧ W'.cell? ⟨w.heap.size + 1, 0, none⟩ = some (.int .i64 (p2 : Int)) ∧ W'.cell? ⟨bl, ol + p2, none⟩ = some (.int .i64 v)) [false, false, false, false, false, false] (fun _ => trivial) rfl (by kernel_rfl) (by kernel_rfl) ⟨C9, C10, CQ⟩ ?_
      simp only [mixT, mixH, mixD]
      iterate 6 (refine wpLts_light ?_ (fun W' hW => ?_) ?_; rotate_left; (obtain ⟨q0, q1, q2⟩ := hW; go_simp; try with_reducible rfl); simp only [Act.put, List.setIfInBounds_toArray, List.set_cons_zero, List.set_cons_succ])
      refine wpLts_nil (wpHvs_nil ?_)
      have D1 := G1.set_ 0 (.int .i64 (kk - v))
      have D2 := G2.far (p := ⟨w.heap.size, 0, none⟩) (by show w.heap.size + 1 ≠ w.heap.size; omega) (.int .i64 (kk - v))
      have E1 := D1.far (p := ⟨w.heap.size + 1, 0, none⟩) (by show w.heap.size ≠ w.heap.size + 1; omega) (.int .i64 (p3 : Int))
      have E2 := D2.set_ 0 (.int .i64 (p3 : Int))
      have f3 := D2.cell 0
      have F10 := G2.frozen 0
      simp at D1 f3 E1 E2
      have o5 := (o2.setCell (p := ⟨w.heap.size, 0, none⟩) (Nat.le_refl _) (.int .i64 (kk - v))).setCell (p := ⟨w.heap.size + 1, 0, none⟩) (by show w.heap.size ≤ w.heap.size + 1; omega) (.int .i64 (p3 : Int))
      have o6 : ((Y.setCell ⟨w.heap.size, 0, none⟩ (.int .i64 (kk - v))).setCell ⟨w.heap.size + 1, 0, none⟩ (.int .i64 (p3 : Int))).heap[w.heap.size + 1 + 1]? = X.heap[w.heap.size + 1 + 1]? := (Below.heap_setCell _ ⟨w.heap.size + 1, 0, none⟩ _ _ (by show w.heap.size + 1 + 1 ≠ w.heap.size + 1; omega)).trans ((Below.heap_setCell Y ⟨w.heap.size, 0, none⟩ _ _ (by show w.heap.size + 1 + 1 ≠ w.heap.size; omega)).trans o3)
      gi_wp2
      exact ⟨KeepsOthers.from ((((o1.trans (KeepsOthers.setCell _ _ _)).trans (KeepsOthers.setCell _ _ _)).trans (KeepsOthers.drew _)).trans (KeepsOthers.drew _)) _, ⟨o5.drew.drew, o6⟩, by rw [HSN.out]; exact E1, by rw [HSN.out]; exact E2, g4.trans o5.drew.drew, by simpa using o4⟩
    · rw [if_neg hvk] at HSN
      have hdv : decide (v ≤ kk) = false := decide_eq_false hvk
      gi_wp2
      exact ⟨(o1.trans (KeepsOthers.drew _)).from _, ⟨o2.drew, o3⟩, by rw [HSN.out]; exact G1.drew, by rw [HSN.out]; exact G2.drew, g4.trans o2.drew, o4⟩
  case done =>
    rintro D X hD ⟨g1, g2, g4, g5⟩ hK
    have q1 := g2.cell 0
    simp at q1
    have HR : Hid (plL (lvK f a) d k = (plF (lvK f a) k (List.finRange d).reverse).2) := Lib.hid rfl
    obtain ⟨R, hR⟩ : ∃ R, (plF (lvK f a) k (List.finRange d).reverse).2 = R := ⟨_, rfl⟩
    rw [hR] at HR q1
    have g4' := below_aside (B := w.heap.size) g4 (Nat.le_refl _) (Nat.le_refl _) (grownBy_putObj' X D (.deferred none)) (fun r e => by cases e; exact ⟨by omega, _, hK, rfl⟩)
    clear hR g1 g2
    gi_wp2
    refine ⟨by simp, .inl ⟨_, _, rfl, run_takeDeferred hK, ?_⟩⟩
    refine ⟨.int .i64 (R : Int), by simp [results, Tryz.f43, go_sem], ?_⟩
    rw [HR.out]
    exact ⟨rfl, g4'⟩
end Go.Proofs.YtecpanppnljkhaaGreatDoor
