/- Walks of the specification of scan: joined, Join, Flagged. -/
import Derived.Test.YtecpanppnljkhaaGreatDoorZa
namespace Go.Proofs.YtecpanppnljkhaaGreatDoor
set_option linter.unusedVariables false
set_option maxRecDepth 100000
open Go.RowKit Go.Shelf
theorem flc_snoc (ps : List (Bool × Int)) (x : Bool × Int) : flc (ps ++ [x]) = flc ps ++ [.bool x.1, .int .i64 x.2] := by simp [flc, encF]
/-- A row of flagged words of the call's own. -/
def OwnF (w : World) (base : Nat) (v : Value) (ps : List (Bool × Int)) : Prop := w.ownsRow base 41 2 v ps.length (flc ps)
theorem OwnF.alloc {w : World} {base : Nat} {v : Value} {ps : List (Bool × Int)} (h : OwnF w base v ps) (o : Obj) : OwnF (w.alloc o) base v ps := World.ownsRow.alloc h o
theorem OwnF.drew {w : World} {base : Nat} {v : Value} {ps : List (Bool × Int)} (h : OwnF w base v ps) : OwnF w.drew base v ps := h
theorem OwnF.lt {w : World} {base : Nat} {v : Value} {ps : List (Bool × Int)} (h : OwnF w base v ps) : ∀ k, v.ownBlock = some k → base ≤ k ∧ k < w.heap.size := World.ownsRow.lt h
theorem OwnF.kept {w w' : World} {base : Nat} {v : Value} {ps : List (Bool × Int)} {row : Option Nat} (h : OwnF w base v ps) (hg : w.grownBy w' row) (hne : v.ownBlock = none ∨ v.ownBlock ≠ row) : OwnF w' base v ps := World.ownsRow.kept h hg hne
theorem OwnF.snoc {w : World} {base : Nat} {v : Value} {ps : List (Bool × Int)} {a : Bool} {b : Int} (h : w.ownsRow base 41 2 v (ps.length + 1) (flc ps ++ [.bool a, .int .i64 b])) : OwnF w base v (ps ++ [(a, b)]) := by
  unfold OwnF
  rw [flc_snoc, List.length_append]
  exact h
theorem OwnF.empty (w : World) (base : Nat) (hb : base ≤ w.heap.size) : OwnF (w.alloc (.cells #[] 41)) base (.slice (some ⟨w.heap.size, 0, none⟩) 0 0) [] :=
  World.ownsRow_lit w #[] 0 hb (by simp [maxLen]) rfl
theorem OwnF.sl {w : World} {base : Nat} {v : Value} {ps : List (Bool × Int)} (h : OwnF w base v ps) : ∃ A c, v = .slice A ps.length c ∧ ps.length ≤ c ∧ SlF w A ps := by
  have hr := h
  rcases h.2 with ⟨rfl, h0⟩ | ⟨g, cap, cur, rfl, hb, hh, hnc, _⟩
  · obtain rfl := List.eq_nil_of_length_eq_zero h0
    exact ⟨none, 0, rfl, Nat.zero_le _, SlF.nil _ _⟩
  · refine ⟨_, cap, rfl, hnc, fun hl => ⟨g, 0, rfl, (hr.lt g rfl).2, fun j hj => ?_⟩⟩
    have hf := flc_at ps j hj
    have h1 := World.ownsRow.cellAt hr (j * 2) (by omega)
    have h2 := World.ownsRow.cellAt hr (j * 2 + 1) (by omega)
    rw [hf.1] at h1
    rw [hf.2] at h2
    rw [Nat.zero_add]
    exact ⟨h1, h2⟩
theorem below_appF {w wr w1 : World} {base : Nat} {v : Value} {ps : List (Bool × Int)} (hB : Below base w wr) (hb : base ≤ wr.heap.size) (h : OwnF wr base v ps) (hg : wr.grownBy w1 v.ownBlock) : Below base w w1 :=
  hB.grown hg hb (fun k e => (h.lt k e).1)

/-! ### joining -/
theorem both_jo {f : Int → Int → Int} {x : Int} (M : Mon f x) (a b : Bool × Int) (hb : isW b.2) : bothN f x a b = joF f a b := by
  obtain ⟨p, m⟩ := a
  obtain ⟨q, n⟩ := b
  unfold bothN joF
  cases q with
  | true => simp
  | false =>
    by_cases h : (p, m) = (false, x)
    · obtain ⟨rfl, rfl⟩ := Prod.mk.inj h
      simp [M.left n hb]
    · simp [h]
theorem jo_word {f : Int → Int → Int} {x : Int} (M : Mon f x) {a b : Bool × Int} (ha : isW a.2) (hb : isW b.2) : isW (joF f a b).2 := by
  unfold joF
  split
  · exact hb
  · exact M.word _ _ ha hb
theorem jE_ok {op m n : Int} (h : aB op = true) (hm : isW m) (hn : isW n) : jE op m n = 0 := by
  unfold jE
  rw [if_pos (aB_neE h), if_pos ⟨isWb_of m hm, isWb_of n hn⟩]
theorem jV_ok {op : Int} {a b : Bool × Int} (h : aB op = true) (ha : isW a.2) (hb : isW b.2) : jV op a b = joF (doN op) a b := by
  unfold jV
  rw [if_pos (jE_ok h ha hb), both_jo (mon_op h) a b hb]

theorem cell_two_new (w : World) (x y : Value) (t : TypeId) : ∀ j u, [x, y][j]? = some u → (w.alloc (.cells #[x, y] t)).cell? ((⟨w.heap.size, 0, none⟩ : Addr).add j) = some u := by
  intro j u h
  have hb : Blk (w.alloc (.cells #[x, y] t)) w.heap.size t #[x, y] := Blk.new w t _
  have := hb.cell j
  have e : ((⟨w.heap.size, 0, none⟩ : Addr).add j) = ⟨w.heap.size, j, none⟩ := by
    unfold Addr.add
    split
    · rename_i hj; subst hj; rfl
    · simp
  rw [e, this]
  simpa using h
theorem below_appendF {w wr w1 : World} {base : Nat} {v : Value} {ps : List (Bool × Int)} {o : Obj} (hB : Below base w wr) (hb : base ≤ wr.heap.size) (h : OwnF wr base v ps) (hg : (wr.alloc o).grownBy w1 v.ownBlock) : Below base w w1 :=
  (hB.alloc hb o).grown hg (by simp; omega) (fun k e => by
    have := (h.lt k e).1
    omega)
theorem ownF_empty' (w : World) (base n : Nat) (hn : n = w.heap.size) (hb : base ≤ w.heap.size) : OwnF (w.alloc (.cells #[] 41)) base (.slice (some ⟨n, 0, none⟩) 0 0) [] := by subst hn; exact OwnF.empty w base hb

set_option maxHeartbeats 4000000 in
theorem rjF_any {op : Int} (h : aB op = true) (p q : Bool) (m n : Int) (hm : isW m) (hn : isW n) (w : World) :
    Calls Tryz.prog 66 #[.int .i64 op, .agg #[.bool p, .int .i64 m], .agg #[.bool q, .int .i64 n]] w (Ret (flV (joF (doN op) (p, m) (q, n))) w) := by
  have b1 := ((Blk.new w 41 #[.bool p, .int .i64 m]).alloc (.cells #[.bool q, .int .i64 n] 41)).alloc (.cells #[.bool false, .int .i64 0] 41)
  have b2 := (Blk.new (w.alloc (.cells #[.bool p, .int .i64 m] 41)) 41 #[.bool q, .int .i64 n]).alloc (.cells #[.bool false, .int .i64 0] 41)
  have b3 := Blk.new ((w.alloc (.cells #[.bool p, .int .i64 m] 41)).alloc (.cells #[.bool q, .int .i64 n] 41)) 41 #[.bool false, .int .i64 0]
  simp only [World.size_alloc] at b2 b3
  have hB0 : Below w.heap.size w (((w.alloc (.cells #[.bool p, .int .i64 m] 41)).alloc (.cells #[.bool q, .int .i64 n] 41)).alloc (.cells #[.bool false, .int .i64 0] 41)) := (((Below.refl _ _).alloc (Nat.le_refl _) _).alloc (by simp) _).alloc (by simp; omega) _
  have hsz : w.heap.size + 3 ≤ (((w.alloc (.cells #[.bool p, .int .i64 m] 41)).alloc (.cells #[.bool q, .int .i64 n] 41)).alloc (.cells #[.bool false, .int .i64 0] 41)).heap.size := by simp
  obtain ⟨W0, hW0⟩ : ∃ W0, (((w.alloc (.cells #[.bool p, .int .i64 m] 41)).alloc (.cells #[.bool q, .int .i64 n] 41)).alloc (.cells #[.bool false, .int .i64 0] 41)) = W0 := ⟨_, rfl⟩
  rw [hW0] at b1 b2 b3 hB0 hsz
  have e10 := b1.cell 0
  have e11 := b1.cell 1
  have e20 := b2.cell 0
  have e21 := b2.cell 1
  have e30 := b3.cell 0
  have e31 := b3.cell 1
  simp at e10 e11 e20 e21 e30 e31
  have ef0 := b3.frozen 0
  have ef1 := b3.frozen 1
  cases q with
  | true =>
    have HE : Hid (joF (doN op) (p, m) (true, n) = (true, n)) := Lib.hid (by unfold joF; rw [if_pos rfl])
    go_enter Tryz.func66, Tryz.ntmps66
    go_wp2
    refine bodyPost_ret (v := .agg #[.bool true, .int .i64 n]) ?_ rfl ⟨by rw [HE.out]; rfl, ?_⟩
    · simp [results, Tryz.f66, go_sem, b3.cell]
    · exact (hB0.setCell (p := ⟨w.heap.size + 1 + 1, 0, none⟩) (by simp; omega) _).setCell (p := ⟨w.heap.size + 1 + 1, 1, none⟩) (by simp; omega) _
  | false =>
    have HE : joF (doN op) (p, m) (false, n) = (p, doN op m n) := by unfold joF; rw [if_neg (by simp)]
    have C2 := rval_as h hm hn
    obtain ⟨x, hx⟩ : ∃ x, doN op m n = x := ⟨_, rfl⟩
    rw [hx] at HE
    simp only [hx] at C2
    have HE := Lib.hid HE
    have C2 := Lib.hid C2
    clear hx
    obtain ⟨W1, hW1⟩ : ∃ W1, W0.drew = W1 := ⟨_, rfl⟩
    have d1 := b1.drew
    have d2 := b2.drew
    have d3 := b3.drew
    have hB1 := hB0.drew
    rw [hW1] at d1 d2 d3 hB1
    have k10 := d1.cell 0
    have k11 := d1.cell 1
    have k20 := d2.cell 0
    have k21 := d2.cell 1
    have k30 := d3.cell 0
    have k31 := d3.cell 1
    simp at k10 k11 k20 k21 k30 k31
    have kf0 := d3.frozen 0
    have kf1 := d3.frozen 1
    go_enter Tryz.func66, Tryz.ntmps66
    go_wp2
    refine wp_region_tab (fun W' => W' = W1) 9 (by kernel_rfl) (by kernel_rfl) hW1 ?_
    simp only [List.take_succ_cons, List.take_zero, List.drop_succ_cons, List.drop_zero]
    refine wpTab_value (v := .pointer (some ⟨w.heap.size, 0, none⟩)) (fun W hW => ?_) ?_
    · (subst hW; go_simp; try with_reducible rfl)
    simp only [Act.put, List.setIfInBounds_toArray, List.set_cons_zero, List.set_cons_succ]
    refine wpTab_value (v := .bool p) (fun W hW => ?_) ?_
    · (subst hW; go_simp; try with_reducible rfl)
    simp only [Act.put, List.setIfInBounds_toArray, List.set_cons_zero, List.set_cons_succ]
    refine wpTab_value (v := .int .i64 op) (fun W hW => ?_) ?_
    · (subst hW; go_simp; try with_reducible rfl)
    simp only [Act.put, List.setIfInBounds_toArray, List.set_cons_zero, List.set_cons_succ]
    refine wpTab_value (v := .pointer (some ⟨w.heap.size, 1, none⟩)) (fun W hW => ?_) ?_
    · (subst hW; go_simp; try with_reducible rfl)
    simp only [Act.put, List.setIfInBounds_toArray, List.set_cons_zero, List.set_cons_succ]
    refine wpTab_value (v := .int .i64 m) (fun W hW => ?_) ?_
    · (subst hW; go_simp; try with_reducible rfl)
    simp only [Act.put, List.setIfInBounds_toArray, List.set_cons_zero, List.set_cons_succ]
    refine wpTab_value (v := .pointer (some ⟨w.heap.size + 1, 1, none⟩)) (fun W hW => ?_) ?_
    · (subst hW; go_simp; try with_reducible rfl)
    simp only [Act.put, List.setIfInBounds_toArray, List.set_cons_zero, List.set_cons_succ]
    refine wpTab_value (v := .int .i64 n) (fun W hW => ?_) ?_
    · (subst hW; go_simp; try with_reducible rfl)
    simp only [Act.put, List.setIfInBounds_toArray, List.set_cons_zero, List.set_cons_succ]
    refine wpTab_call (f := 35) (args := #[.int .i64 op, .int .i64 m, .int .i64 n]) (v := .int .i64 x) (fun W => ?_) (fun W hW => ?_) ?_
    · (go_simp; try with_reducible rfl)
    · exact (C2.out W).mono (fun e w' ⟨he, hb⟩ => ⟨he, hb ▸ hW⟩)
    simp only [Act.put, List.setIfInBounds_toArray, List.set_cons_zero, List.set_cons_succ]
    refine wpTab_value (v := .agg #[.bool p, .int .i64 x]) (fun W hW => ?_) ?_
    · (subst hW; go_simp; try with_reducible rfl)
    simp only [Act.put, List.setIfInBounds_toArray, List.set_cons_zero, List.set_cons_succ]
    refine wpTab_nil (fun wz hz => ?_)
    subst hz
    go_wp2
    refine bodyPost_ret (v := .agg #[.bool p, .int .i64 x]) ?_ rfl ⟨by rw [HE.out]; rfl, ?_⟩
    · simp [results, Tryz.f66, go_sem, d3.cell]
    · exact (hB1.setCell (p := ⟨w.heap.size + 1 + 1, 0, none⟩) (by simp; omega) _).setCell (p := ⟨w.heap.size + 1 + 1, 1, none⟩) (by simp; omega) _
set_option maxHeartbeats 4000000 in
theorem rjoin_any (op : Int) (p q : Bool) (m n : Int) (w : World) :
    Calls Tryz.prog 25 #[.int .i64 op, .agg #[.bool p, .int .i64 m], .agg #[.bool q, .int .i64 n]] w (RetJ (jV op (p, m) (q, n)) (jE op m n) w) := by
  have b1 := ((Blk.new w 41 #[.bool p, .int .i64 m]).alloc (.cells #[.bool q, .int .i64 n] 41)).alloc (.cells #[.bool false, .int .i64 0] 41)
  have b2 := (Blk.new (w.alloc (.cells #[.bool p, .int .i64 m] 41)) 41 #[.bool q, .int .i64 n]).alloc (.cells #[.bool false, .int .i64 0] 41)
  have b3 := Blk.new ((w.alloc (.cells #[.bool p, .int .i64 m] 41)).alloc (.cells #[.bool q, .int .i64 n] 41)) 41 #[.bool false, .int .i64 0]
  simp only [World.size_alloc] at b2 b3
  have hB0 : Below w.heap.size w (((w.alloc (.cells #[.bool p, .int .i64 m] 41)).alloc (.cells #[.bool q, .int .i64 n] 41)).alloc (.cells #[.bool false, .int .i64 0] 41)) := (((Below.refl _ _).alloc (Nat.le_refl _) _).alloc (by simp) _).alloc (by simp; omega) _
  have hsz : w.heap.size + 3 ≤ (((w.alloc (.cells #[.bool p, .int .i64 m] 41)).alloc (.cells #[.bool q, .int .i64 n] 41)).alloc (.cells #[.bool false, .int .i64 0] 41)).heap.size := by simp
  obtain ⟨W0, hW0⟩ : ∃ W0, (((w.alloc (.cells #[.bool p, .int .i64 m] 41)).alloc (.cells #[.bool q, .int .i64 n] 41)).alloc (.cells #[.bool false, .int .i64 0] 41)) = W0 := ⟨_, rfl⟩
  rw [hW0] at b1 b2 b3 hB0 hsz
  have C1 := rneutral_any op W0
  by_cases hne : neE op = 0
  case neg =>
    have hd : (neE op != 0) = true := by rw [bne_iff_ne]; exact hne
    have HE : Hid (jE op m n = neE op) := Lib.hid (by unfold jE; rw [if_neg hne])
    have HV : Hid (jV op (p, m) (q, n) = (false, 0)) := Lib.hid (by unfold jV; rw [if_neg (by rw [HE.out]; exact hne)])
    obtain ⟨y, hy⟩ : ∃ y, neE op = y := ⟨_, rfl⟩
    rw [hy] at C1 hd HE
    have C1 := Lib.hid C1
    clear hne hy
    go_enter Tryz.func25, Tryz.ntmps25
    go_wp2_with fail
    refine C1.out.mono ?_
    rintro e w1 ⟨rfl, hB⟩
    have hB1 := hB0.trans (hB.mono hB0.size)
    have d1 := b1.below hB b1.lt
    have d2 := b2.below hB b2.lt
    have d3 := b3.below hB b3.lt
    have k10 := d1.cell 0
    have k11 := d1.cell 1
    have k20 := d2.cell 0
    have k21 := d2.cell 1
    have k30 := d3.cell 0
    have k31 := d3.cell 1
    simp at k10 k11 k20 k21 k30 k31
    have kf0 := d3.frozen 0
    have kf1 := d3.frozen 1
    go_wp2
    refine bodyPost_ret (v := .tuple #[.agg #[.bool false, .int .i64 0], .int .i64 y]) ?_ rfl ⟨by rw [HE.out, HV.out]; rfl, ?_⟩
    · simp [results, Tryz.f25, go_sem, d3.cell]
    · exact (hB1.setCell (p := ⟨w.heap.size + 1 + 1, 0, none⟩) (by simp; omega) _).setCell (p := ⟨w.heap.size + 1 + 1, 1, none⟩) (by simp; omega) _
  rw [hne] at C1
  have C1 := Lib.hid C1
  have Cm := fun W b hb => isword_b m W b hb
  have Cn := fun W b hb => isword_b n W b hb
  by_cases hm : isWb m = true
  case neg =>
    have HE : Hid (jE op m n = 2) := Lib.hid (by unfold jE; rw [if_pos hne, if_neg (fun h => hm h.1)])
    have HV : Hid (jV op (p, m) (q, n) = (false, 0)) := Lib.hid (by unfold jV; rw [if_neg (by rw [HE.out]; decide)])
    have Cm := Lib.hid (fun W => Cm W false (bf hm))
    clear hne hm Cn
    go_enter Tryz.func25, Tryz.ntmps25
    go_wp2_with fail
    refine C1.out.mono ?_
    rintro e w1 ⟨rfl, hB⟩
    have hB1 := hB0.trans (hB.mono hB0.size)
    have d1 := b1.below hB b1.lt
    have d2 := b2.below hB b2.lt
    have d3 := b3.below hB b3.lt
    have k10 := d1.cell 0
    have k11 := d1.cell 1
    have k20 := d2.cell 0
    have k21 := d2.cell 1
    have k30 := d3.cell 0
    have k31 := d3.cell 1
    simp at k10 k11 k20 k21 k30 k31
    have kf0 := d3.frozen 0
    have kf1 := d3.frozen 1
    go_wp2_with fail
    refine (Cm.out _).mono ?_
    rintro e w' ⟨rfl, rfl⟩
    go_wp2
    refine bodyPost_ret (v := .tuple #[.agg #[.bool false, .int .i64 0], .int .i64 2]) ?_ rfl ⟨by rw [HE.out, HV.out]; rfl, ?_⟩
    · simp [results, Tryz.f25, go_sem, d3.cell]
    · exact (hB1.setCell (p := ⟨w.heap.size + 1 + 1, 0, none⟩) (by simp; omega) _).setCell (p := ⟨w.heap.size + 1 + 1, 1, none⟩) (by simp; omega) _
  by_cases hn : isWb n = true
  case neg =>
    have HE : Hid (jE op m n = 2) := Lib.hid (by unfold jE; rw [if_pos hne, if_neg (fun h => hn h.2)])
    have HV : Hid (jV op (p, m) (q, n) = (false, 0)) := Lib.hid (by unfold jV; rw [if_neg (by rw [HE.out]; decide)])
    have Cm := Lib.hid (fun W => Cm W true hm)
    have Cn := Lib.hid (fun W => Cn W false (bf hn))
    clear hne hm hn
    go_enter Tryz.func25, Tryz.ntmps25
    go_wp2_with fail
    refine C1.out.mono ?_
    rintro e w1 ⟨rfl, hB⟩
    have hB1 := hB0.trans (hB.mono hB0.size)
    have d1 := b1.below hB b1.lt
    have d2 := b2.below hB b2.lt
    have d3 := b3.below hB b3.lt
    have k10 := d1.cell 0
    have k11 := d1.cell 1
    have k20 := d2.cell 0
    have k21 := d2.cell 1
    have k30 := d3.cell 0
    have k31 := d3.cell 1
    simp at k10 k11 k20 k21 k30 k31
    have kf0 := d3.frozen 0
    have kf1 := d3.frozen 1
    go_wp2_with fail
    refine (Cm.out _).mono ?_
    rintro e w' ⟨rfl, rfl⟩
    go_wp2_with fail
    refine (Cn.out _).mono ?_
    rintro e w' ⟨rfl, rfl⟩
    go_wp2
    refine bodyPost_ret (v := .tuple #[.agg #[.bool false, .int .i64 0], .int .i64 2]) ?_ rfl ⟨by rw [HE.out, HV.out]; rfl, ?_⟩
    · simp [results, Tryz.f25, go_sem, d3.cell]
    · exact (hB1.setCell (p := ⟨w.heap.size + 1 + 1, 0, none⟩) (by simp; omega) _).setCell (p := ⟨w.heap.size + 1 + 1, 1, none⟩) (by simp; omega) _
  have haB := neE_aB hne
  have wm : isW m := (isWb_iff m).1 hm
  have wn : isW n := (isWb_iff n).1 hn
  have HE : Hid (jE op m n = 0) := Lib.hid (jE_ok haB wm wn)
  have HV : Hid (jV op (p, m) (q, n) = joF (doN op) (p, m) (q, n)) := Lib.hid (jV_ok (a := (p, m)) (b := (q, n)) haB wm wn)
  have C3 := fun W => rjF_any haB p q m n wm wn W
  obtain ⟨r, hr⟩ : ∃ r, joF (doN op) (p, m) (q, n) = r := ⟨_, rfl⟩
  rw [hr] at HV
  simp only [hr] at C3
  have C3 := Lib.hid C3
  have Cm := Lib.hid (fun W => Cm W true hm)
  have Cn := Lib.hid (fun W => Cn W true hn)
  clear hne hm hn wm wn haB hr
  go_enter Tryz.func25, Tryz.ntmps25
  go_wp2_with fail
  refine C1.out.mono ?_
  rintro e w1 ⟨rfl, hB⟩
  have hB1 := hB0.trans (hB.mono hB0.size)
  have d1 := b1.below hB b1.lt
  have d2 := b2.below hB b2.lt
  have d3 := b3.below hB b3.lt
  have k10 := d1.cell 0
  have k11 := d1.cell 1
  have k20 := d2.cell 0
  have k21 := d2.cell 1
  have k30 := d3.cell 0
  have k31 := d3.cell 1
  simp at k10 k11 k20 k21 k30 k31
  have kf0 := d3.frozen 0
  have kf1 := d3.frozen 1
  go_wp2_with fail
  refine (Cm.out _).mono ?_
  rintro e w' ⟨rfl, rfl⟩
  go_wp2_with fail
  refine (Cn.out _).mono ?_
  rintro e w' ⟨rfl, rfl⟩
  go_wp2_with fail
  refine (C3.out _).mono ?_
  rintro e w4 ⟨rfl, hBe⟩
  clear k10 k11 k20 k21 k30 k31 kf0 kf1
  have s3 := d3.below hBe d3.lt
  have s30 := s3.cell 0
  have s31 := s3.cell 1
  simp at s30 s31
  have sf0 := s3.frozen 0
  have sf1 := s3.frozen 1
  have hB5 := hB1.trans (hBe.mono hB1.size)
  unfold flV
  go_wp2
  refine bodyPost_ret (v := .tuple #[.agg #[.bool r.1, .int .i64 r.2], .int .i64 0]) ?_ rfl ⟨by rw [HE.out, HV.out]; rfl, ?_⟩
  · simp [results, Tryz.f25, go_sem, s3.cell]
  · exact (hB5.setCell (p := ⟨w.heap.size + 1 + 1, 0, none⟩) (by simp; omega) _).setCell (p := ⟨w.heap.size + 1 + 1, 1, none⟩) (by simp; omega) _
theorem flL_eq (op : Int) (l : List (Bool × Int)) : flL op l = mkB (fun j => scB (bothN (doN op) (neN op)) (false, neN op) l (j + 1)) l.length := by
  unfold flL mkB
  rw [List.range_succ_eq_map]
  simp [Function.comp_def]
theorem scB_word {f : Int → Int → Int} {x : Int} (M : Mon f x) (l : List (Bool × Int)) : ∀ k, (∀ j, j < k → isW (fth l j).2) → isW (scB (bothN f x) (false, x) l k).2
  | 0, _ => M.one
  | k + 1, h => by
    show isW (bothN f x (scB (bothN f x) (false, x) l k) (fth l k)).2
    rw [both_jo M _ _ (h k (by omega))]
    exact jo_word M (scB_word M l k fun j hj => h j (by omega)) (h k (by omega))
theorem OwnF.below {w w' : World} {base B : Nat} {v : Value} {ps : List (Bool × Int)} (h : OwnF w base v ps) (hb : Below B w w') (hB : w.heap.size ≤ B) : OwnF w' base v ps := by
  rcases h.2 with ⟨rfl, h0⟩ | ⟨g, cap, cur, rfl, h1, h2, h3⟩
  · obtain rfl := List.eq_nil_of_length_eq_zero h0
    exact World.ownsRow_nil w' base 41 2
  · exact ⟨h.1, .inr ⟨g, cap, cur, rfl, h1, (hb.block g (Nat.lt_of_lt_of_le (h.lt g rfl).2 hB)).trans h2, h3⟩⟩
set_option maxHeartbeats 4000000 in
theorem rflagged_any (op : Int) (A : Option Addr) (c : Nat) (l : List (Bool × Int)) (w : World) (h : SlF w A l) (hcl : l.length ≤ c) (hl : l.length ≤ 9223372036854775807) :
    Calls Tryz.prog 27 #[.int .i64 op, .slice A l.length c] w (RetFE w (flO op l) (flE op l)) := by
  obtain ⟨i1, hi1, hyy0, hyy1, hyy2⟩ := info_parts2 flag_info
  have C1 := rneutral_any op w
  by_cases hne : neE op = 0
  case neg =>
    have he : flE op l = neE op := by unfold flE; rw [if_neg hne]
    have hd : (neE op != 0) = true := by rw [bne_iff_ne]; exact hne
    obtain ⟨y, hy⟩ : ∃ y, neE op = y := ⟨_, rfl⟩
    rw [hy] at C1 hd he hne
    have C1 := Lib.hid C1
    have HE := Lib.hid he
    clear hy he
    go_enter Tryz.func27, Tryz.ntmps27
    go_wp2_with fail
    refine C1.out.mono ?_
    rintro e w1 ⟨rfl, hB⟩
    go_wp2
    go_ret2
    exact retFE_nil HE.out hne hB
  rw [hne] at C1
  have C1 := Lib.hid C1
  by_cases hlen : l.length ≤ 1048576
  case neg =>
    have HE : Hid (flE op l = 3) := Lib.hid (by unfold flE; rw [if_pos hne, if_neg hlen])
    clear hne
    go_enter Tryz.func27, Tryz.ntmps27
    go_wp2_with fail
    refine C1.out.mono ?_
    rintro e w1 ⟨rfl, hB⟩
    go_wp2
    go_ret2
    exact retFE_nil HE.out (by decide) hB
  have haB := neE_aB hne
  have HM := Lib.hid (mon_op haB)
  have HB := Lib.hid haB
  have HNE := Lib.hid hne
  clear haB hne
  go_enter Tryz.func27, Tryz.ntmps27
  go_wp2_with fail
  refine C1.out.mono ?_
  rintro e w1 ⟨rfl, hB⟩
  have h1 := h.step hB
  clear C1
  go_wp2
  go_loopw [8, 9] (fun v i wr => ∃ (k : Nat) (F : List (Bool × Int)), k ≤ l.length ∧ i = .int .i64 k ∧ Hid (F = mkB (fun j => scB (bothN (doN op) (neN op)) (false, neN op) l (j + 1)) k) ∧ Hid (∀ j, j < k → isWb (fth l j).2 = true) ∧ OwnF wr w1.heap.size v F ∧ Below w1.heap.size w1 wr) (fun _ i _ => l.length - (intOf i).toNat)
  case atStart => exact ⟨0, [], Nat.zero_le _, rfl, Lib.hid rfl, Lib.hid (fun j hj => absurd hj (by omega)), OwnF.empty w1 _ (Nat.le_refl _), (Below.refl _ _).alloc (Nat.le_refl _) _⟩
  case round =>
    obtain ⟨k, F, hk, rfl, HF, HW, hown, hBr⟩ := hrel
    have hFl : F.length = k := by rw [HF.out, mkB_length]
    by_cases hlt : k < l.length
    · obtain ⟨b, o, rfl, hb, hc, hd⟩ := h1.at_ hlt
      obtain ⟨z, hz⟩ : ∃ z, fth l k = z := ⟨_, rfl⟩
      have HZ := Lib.hid hz
      rw [hz] at hc hd
      obtain ⟨zf, zn⟩ := z
      replace hc := (hBr.cell (p := ⟨b, o + k * 2, none⟩) hb).trans hc
      replace hd := (hBr.cell (p := ⟨b, o + k * 2 + 1, none⟩) hb).trans hd
      have q1 : (0 : Int) ≤ (k : Int) := by omega
      have q2 : (k : Int) < (l.length : Int) := by omega
      clear hz
      cases hw : isWb zn with
      | false =>
        have HE : Hid (flE op l = 2) := Lib.hid (by
          unfold flE
          rw [if_pos HNE.out, if_pos hlen, if_neg]
          intro hf
          have := (wordsF_iff l).1 hf k hlt
          rw [HZ.out] at this
          rw [this] at hw
          cases hw)
        have C2 := Lib.hid (fun W => isword_b zn W false hw)
        have hBe := hB.trans (hBr.mono hB.size)
        clear hw
        go_wp2_with fail
        refine (C2.out _).mono ?_
        rintro e w' ⟨rfl, rfl⟩
        go_wp2
        go_ret2
        exact retFE_nil HE.out (by decide) hBe
      | true =>
        have C2 := Lib.hid (fun W => isword_b zn W true hw)
        have HW2 : Hid (∀ j, j < k + 1 → isWb (fth l j).2 = true) := Lib.hid (fun j hj => by
          by_cases e : j = k
          · subst e; rw [HZ.out]; exact hw
          · exact HW.out j (by omega))
        have hzw : isW zn := (isWb_iff zn).1 hw
        clear hw
        by_cases hk0 : k = 0
        · subst hk0
          have hF0 : F = [] := List.eq_nil_of_length_eq_zero hFl
          have HS : Hid ([(zf, zn)] = mkB (fun j => scB (bothN (doN op) (neN op)) (false, neN op) l (j + 1)) 1) := Lib.hid (by
            show _ = [bothN (doN op) (neN op) (false, neN op) (fth l 0)]
            rw [HZ.out]
            unfold bothN
            rw [if_pos (.inl rfl)])
          subst hF0
          simp only [Nat.zero_mul, Nat.add_zero] at hc hd
          simp only [show ((0 : Nat) : Int) = 0 from rfl]
          clear HF hFl q1 hzw
          have q2' : (0 : Int) < (l.length : Int) := by omega
          have hF0' : ([] : List (Bool × Int)).length ≤ 1048576 := by simp
          go_wp2_with fail
          refine (C2.out _).mono ?_
          rintro e w' ⟨rfl, rfl⟩
          go_wp2_with (at_builtin; refine wpList_append_own _ rfl _ _ 42 rfl w1.heap.size 41 i1 (.agg #[.bool false, .int .i64 0]) 2 16 Tryz.underlying42 hi1 hyy0 hyy1 hyy2 rfl (by decide) _ _ _ rfl (hown.alloc _) ⟨_, 0, none⟩ 1 1 [.bool zf, .int .i64 zn] rfl rfl (cell_two_new _ _ _ _) (by simp [Value.oneCell']) (by unfold maxLen; omega) (by omega) (by have := hBr.size; simp; omega) ?_; intro v' w2q hown' hgrow _; have hB2 := below_appendF hBr hBr.size hown hgrow)
          have hown2 := OwnF.snoc hown'
          clear hown' hgrow
          go_roundw
          case rel => exact ⟨1, [(zf, zn)], by omega, by go_num, HS, HW2, hown2, hB2⟩
          case measure => simp [intOf]; omega
        · obtain ⟨t, ht⟩ : ∃ t, k = t + 1 := ⟨k - 1, by omega⟩
          have hkt : (k : Int) - 1 = (t : Int) := by omega
          have hwt : IntKind.i64.wrap (t : Int) = (t : Int) := IntWalk.i64_in _ (by omega)
          obtain ⟨A8, c8, hv, hc8, hs8⟩ := hown.sl
          subst hv
          obtain ⟨b8, o8, rfl, hb8, hc8', hd8⟩ := hs8.at_ (k := t) (by rw [hFl]; omega)
          have hft : fth F t = scB (bothN (doN op) (neN op)) (false, neN op) l (t + 1) := by rw [HF.out, fth_mkB _ _ _ (by omega)]
          have hpw : isW (fth F t).2 := by rw [hft]; exact scB_word HM.out l (t + 1) fun j hj => (isWb_iff _).1 (HW.out j (by omega))
          have hS : scB (bothN (doN op) (neN op)) (false, neN op) l (k + 1) = joF (doN op) (fth F t) (zf, zn) := by
            show bothN (doN op) (neN op) (scB (bothN (doN op) (neN op)) (false, neN op) l k) (fth l k) = _
            rw [HZ.out, both_jo HM.out _ _ hzw, hft, ht]
          obtain ⟨pr, hpr⟩ : ∃ pr, fth F t = pr := ⟨_, rfl⟩
          rw [hpr] at hc8' hd8 hpw hS
          obtain ⟨pf, pn⟩ := pr
          have CJ := fun W => rjF_any HB.out pf zf pn zn hpw hzw W
          obtain ⟨r, hr⟩ : ∃ r, joF (doN op) (pf, pn) (zf, zn) = r := ⟨_, rfl⟩
          rw [hr] at hS
          simp only [hr] at CJ
          obtain ⟨r1, r2⟩ := r
          replace CJ : ∀ W, Calls Tryz.prog 66 #[.int .i64 op, .agg #[.bool pf, .int .i64 pn], .agg #[.bool zf, .int .i64 zn]] W (Ret (.agg #[.bool r1, .int .i64 r2]) W) := CJ
          have HS : Hid (F ++ [(r1, r2)] = mkB (fun j => scB (bothN (doN op) (neN op)) (false, neN op) l (j + 1)) (k + 1)) := Lib.hid (by rw [mkB_succ, ← HF.out, hS])
          have CJ := Lib.hid CJ
          rw [hFl] at hc8 ⊢
          have hown0 : OwnF wr w1.heap.size (.slice (some ⟨b8, o8, none⟩) k c8) F := by rw [← hFl]; exact hown
          have t1 : (0 : Int) ≤ (t : Int) := by omega
          have t2 : (t : Int) < (k : Int) := by omega
          have kne : ((k : Int) == 0) = false := by rw [beq_eq_false_iff_ne]; omega
          have kne' : ¬ (k : Int) = 0 := by omega
          have hFk : F.length ≤ 1048576 := by omega
          have LT : ∀ W', Below wr.heap.size wr W' → W'.cell? ⟨b8, o8 + t * 2, none⟩ = some (.bool pf) ∧ W'.cell? ⟨b8, o8 + t * 2 + 1, none⟩ = some (.int .i64 pn) ∧ W'.cell? ⟨b, o + k * 2, none⟩ = some (.bool zf) ∧ W'.cell? ⟨b, o + k * 2 + 1, none⟩ = some (.int .i64 zn) := fun W' hW =>
            ⟨(hW.cell (p := ⟨b8, o8 + t * 2, none⟩) hb8).trans hc8', (hW.cell (p := ⟨b8, o8 + t * 2 + 1, none⟩) hb8).trans hd8, (hW.cell (p := ⟨b, o + k * 2, none⟩) (Nat.lt_of_lt_of_le hb hBr.size)).trans hc, (hW.cell (p := ⟨b, o + k * 2 + 1, none⟩) (Nat.lt_of_lt_of_le hb hBr.size)).trans hd⟩
          clear hft hpw hS hpr hr hown ht hk0 hzw HF hs8
          go_wp2_with fail
          refine (C2.out _).mono ?_
          rintro e w' ⟨rfl, rfl⟩
          go_wp2
          refine wp_region_mix' (fun W' => Below wr.heap.size wr W') [false, false, false, false, false, false, false, false, false, false, false, true, true] (by kernel_rfl) (by kernel_rfl) (Below.refl _ _).drew ?_
          simp only [mixT, mixH, mixD]
          iterate 11 (refine wpLts_light ?_ (fun W' hW => ?_) ?_; rotate_left; (obtain ⟨p0, p1, p2, p3⟩ := LT W' hW; go_simp; try with_reducible rfl); simp only [Act.put, List.setIfInBounds_toArray, List.set_cons_zero, List.set_cons_succ])
          iterate 2 (refine wpLts_heavy ?_)
          refine wpLts_nil ?_
          refine wpHvP_call 66 #[.int .i64 op, .agg #[.bool pf, .int .i64 pn], .agg #[.bool zf, .int .i64 zn]] (by go_simp) ?_
          refine (CJ.out _).mono ?_
          rintro e w13 ⟨rfl, hBx⟩
          have hBy : Below wr.heap.size wr w13 := (Below.refl _ wr).drew.trans hBx
          refine ⟨_, rfl, hBy, ?_⟩
          simp only [Act.put, List.setIfInBounds_toArray, List.set_cons_zero, List.set_cons_succ]
          refine wpHvP_value (.slice (some ⟨w13.heap.size, 0, none⟩) 1 1) (w13.alloc (.cells #[.bool r1, .int .i64 r2] 41)) (by go_simp; try rfl) ⟨hBy.alloc hBy.size _, ?_⟩
          simp only [Act.put, List.setIfInBounds_toArray, List.set_cons_zero, List.set_cons_succ]
          refine wpHvP_nil ?_
          have hown3 := hown0.below hBy (Nat.le_refl _)
          have hBr3 := hBr.trans (hBy.mono hBr.size)
          clear CJ LT hBx hkt hwt
          go_wp2_with (at_builtin; refine wpList_append_own _ rfl _ _ 42 rfl w1.heap.size 41 i1 (.agg #[.bool false, .int .i64 0]) 2 16 Tryz.underlying42 hi1 hyy0 hyy1 hyy2 rfl (by decide) _ _ _ rfl (hown3.alloc _) ⟨_, 0, none⟩ 1 1 [.bool r1, .int .i64 r2] rfl rfl (cell_two_new _ _ _ _) (by simp [Value.oneCell']) (by unfold maxLen; omega) (by omega) (by have := hBr3.size; simp; omega) ?_; intro v' w2q hown' hgrow _; have hB2 := below_appendF hBr3 hBr3.size hown3 hgrow)
          have hown2 := OwnF.snoc hown'
          clear hown' hgrow
          go_roundw
          case rel => exact ⟨k + 1, F ++ [(r1, r2)], by omega, by go_num, HS, HW2, hown2, hB2⟩
          case measure => simp [intOf]; omega
    · obtain rfl : k = l.length := by omega
      have HE : Hid (flE op l = 0) := Lib.hid (by unfold flE; rw [if_pos HNE.out, if_pos hlen, if_pos ((wordsF_iff l).2 HW.out)])
      have HO : Hid (flO op l = F) := Lib.hid (by unfold flO; rw [if_pos HE.out, flL_eq]; exact HF.out.symm)
      obtain ⟨A8, c8, rfl, hc8, hs8⟩ := hown.sl
      have hBe := hB.trans (hBr.mono hB.size)
      clear hFl HF
      go_wp2
      go_ret2
      rw [HE.out, HO.out]
      exact ⟨A8, c8, rfl, hc8, hs8, hBe⟩
end Go.Proofs.YtecpanppnljkhaaGreatDoor
