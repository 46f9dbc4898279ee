/- Walks of scan: what is kept of all segments. -/
import Derived.Test.YtecpanppnljkhaaGreatDoorEg
namespace Go.Proofs.YtecpanppnljkhaaGreatDoor
set_option linter.unusedVariables false
set_option maxRecDepth 100000
open Go.RowKit Go.Shelf
attribute [local go_sem] Oper.semAt_some
/-- What is kept of the segments that have come. -/
def kpF (f : List Int → List Int) (l lens : List Int) (pre : List (Fin lens.length)) : List Int := pre.flatMap fun x => f (sgL l lens x.val)
theorem kpF_snoc (f : List Int → List Int) (l lens : List Int) (pre : List (Fin lens.length)) (x : Fin lens.length) : kpF f l lens (pre ++ [x]) = kpF f l lens pre ++ f (sgL l lens x.val) := by
  unfold kpF; rw [List.flatMap_append]; simp
theorem kpF_fr (f : List Int → List Int) (l lens : List Int) (k : Nat) (hk : k ≤ lens.length) : kpF f l lens (fr lens.length k) = kpK f l lens k := by
  induction k with
  | zero => rfl
  | succ k ih => rw [fr_succ _ k (by omega), kpF_snoc, ih (by omega)]; rfl
theorem kpF_all (f : List Int → List Int) (l lens : List Int) : kpF f l lens (List.finRange lens.length) = kpK f l lens lens.length := by
  rw [← fr_all, kpF_fr f l lens _ (Nat.le_refl _)]
theorem sg_le (l lens : List Int) (i : Nat) : (sgL l lens i).length ≤ l.length := by
  unfold sgL; rw [List.length_take, List.length_drop]; omega
theorem kpF_len {f : List Int → List Int} (hf : ∀ s, (f s).length ≤ s.length + 1) (l lens : List Int) (pre : List (Fin lens.length)) : (kpF f l lens pre).length ≤ pre.length * (l.length + 1) := by
  induction pre with
  | nil => simp [kpF]
  | cons x pre ih =>
    have h1 := hf (sgL l lens x.val)
    have h2 := sg_le l lens x.val
    have e : (kpF f l lens (x :: pre)).length = (f (sgL l lens x.val)).length + (kpF f l lens pre).length := by simp [kpF]
    rw [e, List.length_cons, Nat.succ_mul]
    omega
theorem kept_len (f : List Int → List Int) (hf : ∀ s, (f s).length ≤ s.length + 1) (l lens : List Int) (hl : l.length ≤ 1048576) (hn : lens.length ≤ 1048576) (pre : List (Fin lens.length)) (hp : pre.length < lens.length) (x : Fin lens.length) : (kpF f l lens pre).length + (f (sgL l lens x.val)).length ≤ 1099600000000 := by
  have h1 := kpF_len hf l lens pre
  have h2 := hf (sgL l lens x.val)
  have h3 := sg_le l lens x.val
  have h4 : pre.length * (l.length + 1) ≤ 1048576 * 1048577 := Nat.mul_le_mul (by omega) (by omega)
  omega
theorem OwnI.apps {w : World} {base n : Nat} {v : Value} {zs O : List Int} (h : w.ownsRow base 3 1 v (zs.length + n) (zs.map (Value.int .i64) ++ O.map (Value.int .i64))) : OwnI w base v (zs ++ O) := by
  have h1 := h.1
  rw [List.length_append, List.length_map, List.length_map] at h1
  unfold OwnI
  rw [List.map_append, List.length_append, show O.length = n by omega]
  exact h
theorem Sl.news {w : World} {b off : Nat} {zs : List Int} (h : Sl w (some ⟨b, off, none⟩) zs) : ∀ j u, (zs.map (Value.int .i64))[j]? = some u → w.cell? ((⟨b, off, none⟩ : Addr).add j) = some u := by
  intro j u hj
  rw [List.getElem?_map] at hj
  obtain ⟨x, hx1, rfl⟩ := Option.map_eq_some_iff.1 hj
  obtain ⟨hjl, hx2⟩ := List.getElem?_eq_some_iff.1 hx1
  obtain ⟨b', o', e, _, hc⟩ := h (by omega)
  obtain ⟨rfl, rfl, _⟩ : b = b' ∧ off = o' ∧ True := by injection e with e; injection e with e1 e2 e3; exact ⟨e1, e2, trivial⟩
  have := hc j hjl
  rw [nth_eq zs j hjl, hx2] at this
  rw [← this]
  congr 1
  unfold Addr.add; split <;> simp_all

set_option maxHeartbeats 4000000 in
theorem of_whole (op x : Int) (g : Nat) (A A' : Option Addr) (c cl : Nat) (l lens : List Int) (w : World) (hg : Blk w g 3 #[.int .i64 op]) (h : Sl w A l) (hcl : l.length ≤ cl) (h' : Sl w A' lens) (hz : Segs l lens) :
    Calls Tryz.prog 49 #[.agg #[.int .i64 x, .func (.func 87) #[] #[.pointer (some ⟨g, 0, none⟩)], .func (.func 30) #[] #[]], .slice A l.length cl, .slice A' lens.length c] w (RetS w (kpK (whL (doN op) x) l lens lens.length)) := by
  obtain ⟨i0, hi, hz0, hz1, hz2⟩ := info_parts int_info
  refine (callsIn_wide (n := 8)).1 ?_
  refine callsIn_of_wp_marks Tryz.func49 rfl trivial ?_ rfl
  simp only [Tryz.ntmps49, List.size_toArray, List.length_cons, List.length_nil, Nat.reduceAdd, Nat.reduceSub, Array.replicate_succ, Array.replicate_zero, List.push_toArray, List.append_toArray, List.nil_append, List.cons_append]
  have b0 := (((Blk.new w 70 #[.int .i64 x, .func (.func 87) #[] #[.pointer (some ⟨g, 0, none⟩)], .func (.func 30) #[] #[]]).alloc (.cells #[.slice none 0 0] 22)).alloc (.cells #[.slice A l.length cl] 22)).alloc (.cells #[.slice A' lens.length c] 22)
  have b1 := ((Blk.new (w.alloc (.cells #[.int .i64 x, .func (.func 87) #[] #[.pointer (some ⟨g, 0, none⟩)], .func (.func 30) #[] #[]] 70)) 22 #[.slice none 0 0]).alloc (.cells #[.slice A l.length cl] 22)).alloc (.cells #[.slice A' lens.length c] 22)
  have b2 := (Blk.new ((w.alloc (.cells #[.int .i64 x, .func (.func 87) #[] #[.pointer (some ⟨g, 0, none⟩)], .func (.func 30) #[] #[]] 70)).alloc (.cells #[.slice none 0 0] 22)) 22 #[.slice A l.length cl]).alloc (.cells #[.slice A' lens.length c] 22)
  have b3 := Blk.new (((w.alloc (.cells #[.int .i64 x, .func (.func 87) #[] #[.pointer (some ⟨g, 0, none⟩)], .func (.func 30) #[] #[]] 70)).alloc (.cells #[.slice none 0 0] 22)).alloc (.cells #[.slice A l.length cl] 22)) 22 #[.slice A' lens.length c]
  simp only [World.size_alloc] at b1 b2 b3
  have hB0 : Below w.heap.size w ((((w.alloc (.cells #[.int .i64 x, .func (.func 87) #[] #[.pointer (some ⟨g, 0, none⟩)], .func (.func 30) #[] #[]] 70)).alloc (.cells #[.slice none 0 0] 22)).alloc (.cells #[.slice A l.length cl] 22)).alloc (.cells #[.slice A' lens.length c] 22)) := (((((Below.refl _ _).alloc (Nat.le_refl _) _).alloc (by simp) _).alloc (by simp; omega) _).alloc (by simp; omega) _)
  have hsz : w.heap.size + 4 ≤ (((((w.alloc (.cells #[.int .i64 x, .func (.func 87) #[] #[.pointer (some ⟨g, 0, none⟩)], .func (.func 30) #[] #[]] 70)).alloc (.cells #[.slice none 0 0] 22)).alloc (.cells #[.slice A l.length cl] 22)).alloc (.cells #[.slice A' lens.length c] 22))).heap.size := by simp
  gi_wp2_with (refine ⟨trivial, ?_⟩; gi_at_call 50; refine (callsIn_wide.2 (segments_any _ _ ⟨_, _, _, rfl⟩ ⟨_, _, _, rfl⟩ _)).mono ?_; rintro e w' ⟨rfl, rfl⟩)
  obtain ⟨W0, hW0⟩ : ∃ W0, ((((w.alloc (.cells #[.int .i64 x, .func (.func 87) #[] #[.pointer (some ⟨g, 0, none⟩)], .func (.func 30) #[] #[]] 70)).alloc (.cells #[.slice none 0 0] 22)).alloc (.cells #[.slice A l.length cl] 22)).alloc (.cells #[.slice A' lens.length c] 22)) = W0 := ⟨_, rfl⟩
  rw [hW0] at b0 b1 b2 b3 hB0 hsz ⊢
  clear hW0
  have hlen := hz.few
  have hll := hz.short
  refine wpIn_rangeFunc_ownH rfl (by omega) (gf := 81) (lb := #[.pointer (some ⟨w.heap.size + 1 + 1 + 1, 0, none⟩), .pointer (some ⟨w.heap.size + 1 + 1, 0, none⟩)]) rfl trivial (enters_of Tryz.func81 (by kernel_rfl) rfl)
    (segs_stops Fence.wide (8 - 1) trivial rfl (by omega) (w.heap.size + 1 + 1) (w.heap.size + 1 + 1 + 1) w.heap.size c cl A A' l lens hz hcl W0 (by omega) (by omega) (b3.cell 0) b2 (fun h0 => by
      obtain ⟨b, off, e, hb, hcs⟩ := h' h0
      exact ⟨b, off, e, hb, fun j hj => (hB0.cell (p := ⟨b, off + j, none⟩) hb).trans (hcs j hj)⟩)) kpB_t (kpB_b (by omega) (by omega)) (Below.refl _ _) (fun _ => rfl)
    (fun pre W => ∃ v, Blk W (w.heap.size + 1) 22 #[v] ∧ OwnI W (w.heap.size + 4) v (kpF (whL (doN op) x) l lens pre) ∧ Blk W w.heap.size 70 #[.int .i64 x, .func (.func 87) #[] #[.pointer (some ⟨g, 0, none⟩)], .func (.func 30) #[] #[]] ∧ Below w.heap.size w W ∧ w.heap.size + 4 ≤ W.heap.size)
    (fun _ _ _ => False)
    (fun _ X Y row hs hg hr => by
      obtain ⟨v, g1, g2, g3, g4, g5⟩ := hs
      exact ⟨v, g1.aside hg hr, g2.aside hg hr, g3.aside hg hr, below_aside g4 (Nat.le_refl _) (by omega) hg hr, Nat.le_trans g5 hg.size⟩)
    (fun _ _ _ _ _ hs _ _ => hs)
    ⟨_, b1, OwnI.nil _ _, b0, hB0, hsz⟩
    (fun x' a' W => a' = ⟨#[.agg #[.int .i64 x, .func (.func 87) #[] #[.pointer (some ⟨g, 0, none⟩)], .func (.func 30) #[] #[]], .slice A l.length cl, .slice A' lens.length c,
        .pointer (some ⟨w.heap.size, 0, none⟩), undef, undef, .slice none 0 0, .pointer (some ⟨w.heap.size + 1, 0, none⟩), undef,
        .slice (sgA A (ofs lens x'.val) (ofs lens (x'.val + 1))) (ofs lens (x'.val + 1) - ofs lens x'.val) (ofs lens (x'.val + 1) - ofs lens x'.val),
        .slice A l.length cl, .slice A' lens.length c, .func (.func 81) #[] #[.pointer (some ⟨w.heap.size + 1 + 1 + 1, 0, none⟩), .pointer (some ⟨w.heap.size + 1 + 1, 0, none⟩)],
        .int .i64 ((x'.val : Nat) : Int), .slice (sgA A (ofs lens x'.val) (ofs lens (x'.val + 1))) (ofs lens (x'.val + 1) - ofs lens x'.val) (ofs lens (x'.val + 1) - ofs lens x'.val),
        undef, undef, undef, undef, undef, undef, undef, undef, undef, undef, undef, undef, undef, undef, undef, undef, undef, undef], []⟩)
    (fun x a' _ X Y row hs hg hr => hs)
    ?assign ?body ?done ?stop
  case assign =>
    rintro i pre x' W K hI hK
    simp only [segV]
    gi_wp2
    exact hK _ _ (KeepsFrom.refl _ _) (kpB_refl _ _ _) hI rfl
  case body =>
    rintro i pre x' a' W hl' ⟨r, hr⟩ ⟨v, g1, g2, g3, g4, g5⟩ rfl hlt
    have hx := x'.isLt
    obtain ⟨e1, e2, e3, e4, e5⟩ := hz.step x'.val hx
    have hsegL := hz.seg_length x'.val hx
    have hsl := sl_sg (h.step g4) e2 e3
    have hsgl : (sgL l lens x'.val).length = ofs lens (x'.val + 1) - ofs lens x'.val := by omega
    have hsl : Sl W (sgA A (ofs lens x'.val) (ofs lens (x'.val + 1))) (sgL l lens x'.val) := hsl
    have HSN := Lib.hid (kpF_snoc (whL (doN op) x) l lens pre x')
    have HKL := kept_len (whL (doN op) x) (fun s => by simp [whL]) l lens hll hlen pre hlt x'
    have hsm := sg_le l lens x'.val
    have hin := inL_length (doN op) x (sgL l lens x'.val)
    have hlast := inL_last (doN op) x (sgL l lens x'.val)
    obtain ⟨sA, hsA⟩ : ∃ sA, sgA A (ofs lens x'.val) (ofs lens (x'.val + 1)) = sA := ⟨_, rfl⟩
    obtain ⟨s, hs⟩ : ∃ s, sgL l lens x'.val = s := ⟨_, rfl⟩
    rw [hs] at hsgl hsl HSN HKL hsm hin hlast
    rw [← hsgl, hsA]
    rw [hsA] at hsl
    obtain ⟨T, hT⟩ : ∃ T, inL (doN op) x s = T := ⟨_, rfl⟩
    rw [hT] at hin hlast
    obtain ⟨kp, hkp⟩ : ∃ kp, whL (doN op) x s = kp := ⟨_, rfl⟩
    rw [hkp] at HSN HKL hlast
    have C1 := fun W' (hb : Blk W' g 3 #[.int .i64 op]) (hS : Sl W' sA s) => from_any op x x g sA s.length s W' hb hS (by omega)
    rw [hT] at C1
    have C1 := Lib.hid C1
    have HIN := Lib.hid hin
    have HLA := Lib.hid hlast
    have HKL := Lib.hid HKL
    clear e1 e2 e3 e4 e5 hsegL hsgl hs hsA hT hkp hin hlast
    gi_wp2
    refine wpIn_region_mix' (fun W' => Blk W' (w.heap.size + 1) 22 #[v] ∧ Blk W' w.heap.size 70 #[.int .i64 x, .func (.func 87) #[] #[.pointer (some ⟨g, 0, none⟩)], .func (.func 30) #[] #[]] ∧ Below W.heap.size W W') [false, false, false, false, false, false, false, false, false, true, true] (fun _ => trivial) rfl (by kernel_rfl) (by kernel_rfl) ⟨g1, g3, (Below.refl _ _).drew⟩ ?_
    simp only [mixT, mixH, mixD]
    have LT : ∀ W', (Blk W' (w.heap.size + 1) 22 #[v] ∧ Blk W' w.heap.size 70 #[.int .i64 x, .func (.func 87) #[] #[.pointer (some ⟨g, 0, none⟩)], .func (.func 30) #[] #[]] ∧ Below W.heap.size W W') → W'.cell? ⟨w.heap.size + 1, 0, none⟩ = some v ∧ W'.cell? ⟨w.heap.size, 0, none⟩ = some (.int .i64 x) ∧ W'.cell? ⟨w.heap.size, 1, none⟩ = some (.func (.func 87) #[] #[.pointer (some ⟨g, 0, none⟩)]) ∧ W'.cell? ⟨w.heap.size, 2, none⟩ = some (.func (.func 30) #[] #[]) := fun W' hW => ⟨hW.1.cell 0, hW.2.1.cell 0, hW.2.1.cell 1, hW.2.1.cell 2⟩
    iterate 9 (refine wpLts_light ?_ (fun W' hW => ?_) ?_; rotate_left; (obtain ⟨q0, q1, q2, q3⟩ := LT W' hW; go_simp; try with_reducible rfl); simp only [Act.put, List.setIfInBounds_toArray, List.set_cons_zero, List.set_cons_succ])
    refine wpLts_heavy (wpLts_heavy (wpLts_nil ?_))
    have gd : Blk W.drew g 3 #[.int .i64 op] := (hg.below g4 hg.lt).drew
    refine wpHvs_call 51 #[.agg #[.int .i64 x, .func (.func 87) #[] #[.pointer (some ⟨g, 0, none⟩)]], .int .i64 x, .slice sA s.length s.length] (by go_simp) ?_
    refine (CallsIn.inRound i (callsIn_wide.2 (C1.out W.drew gd hsl))).mono ?_
    rintro e W1 ⟨A1, c1, rfl, hc1, hs1, hBc⟩
    have hBW : Below W.heap.size W W1 := (Below.refl _ W).drew.trans hBc
    have k1 := g1.below hBW g1.lt
    have k3 := g3.below hBW g3.lt
    refine ⟨_, rfl, ⟨k1, k3, hBW⟩, ?_⟩
    simp only [Act.put, List.setIfInBounds_toArray, List.set_cons_zero, List.set_cons_succ]
    refine wpHvs_call 30 #[.slice A1 T.length c1] (by go_simp) ?_
    have C2 := whole_any A1 c1 s.length T W1 hs1 HIN.out hc1 (by omega)
    rw [HLA.out] at C2
    refine (CallsIn.inRound i (callsIn_wide.2 C2)).mono ?_
    rintro e W2 ⟨b2', o2, c2, rfl, hc2, hs2, rfl⟩
    refine ⟨_, rfl, ⟨k1, k3, hBW⟩, ?_⟩
    simp only [Act.put, List.setIfInBounds_toArray, List.set_cons_zero, List.set_cons_succ]
    refine wpHvs_nil ?_
    have hown := g2.below hBW (Nat.le_refl _)
    have hsz1 := hBW.size
    gi_wp2_with (gi_at_builtin; refine wpListIn_append_own _ rfl _ _ 22 rfl (w.heap.size + 4) 3 i0 (.int .i64 0) 1 8 Tryz.underlying22 hi hz0 hz1 hz2 rfl (by decide) _ _ _ rfl hown ⟨b2', o2, none⟩ kp.length c2 (kp.map (Value.int .i64)) rfl (by simp) (Sl.news hs2) (by intro u hu; obtain ⟨q, _, rfl⟩ := List.mem_map.1 hu; rfl) (by have := HKL.out; unfold maxLen; omega) (by have := HKL.out; omega) (by omega) ?_; intro v' w2 hown' hgrow _; have hgr : World.grownBy _ w2 v.ownBlock := hgrow; have ho2 := OwnI.apps hown'; obtain ⟨A3, c3, ev, _, _⟩ := ho2.form; obtain ⟨N, hN⟩ : ∃ N, (kpF (whL (doN op) x) l lens pre ++ kp).length = N := ⟨_, rfl⟩; rw [hN] at ev; subst ev; clear hN hown' hgrow; have kk1 := k1.grown hgr (k1.not_row (by decide) hown); have cc1 := kk1.cell 0; have ff1 := kk1.frozen 0; simp at cc1)
    have hB3 := (g4.trans (hBW.mono g4.size)).grown hgr (by omega) (fun k e => by have := (hown.lt k e).1; omega)
    have hO3 := ho2.kept (grownBy_set w2 ⟨w.heap.size + 1, 0, none⟩ (.slice A3 N c3)) (.inr (fun e => by have := (ho2.lt _ e).1; simp at this))
    have kk3 := (k3.grown hgr (fun e => by have := (hown.lt _ e.symm).1; omega)).far (p := ⟨w.heap.size + 1, 0, none⟩) (by simp) (.slice A3 N c3)
    have hoth := ((below_others hBW).trans (KeepsOthers.of_grownBy hgr (fun j o ej hj => by
      rcases hown.2 with ⟨rfl, _⟩ | ⟨q, cap, cur, rfl, _, hgb, _⟩
      · simp [Value.ownBlock] at ej
      · obtain rfl : q = j := by simpa [Value.ownBlock] using ej
        rw [hgb] at hj; cases hj; rfl))).trans (KeepsOthers.setCell w2 ⟨w.heap.size + 1, 0, none⟩ (.slice A3 N c3))
    have hb2 : w2.heap[w.heap.size + 1 + 1]? = W.heap[w.heap.size + 1 + 1]? := (hgr.block (w.heap.size + 1 + 1) (by omega) (fun e => by have := (hown.lt _ e.symm).1; omega)).trans (hBW.block _ (by omega))
    have hKp : KpB w.heap.size (w.heap.size + 1 + 1) W (w2.setCell ⟨w.heap.size + 1, 0, none⟩ (.slice A3 N c3)) :=
      ⟨((hBW.mono (by omega)).grown hgr (by omega) (fun k e => by have := (hown.lt k e).1; omega)).setCell (p := ⟨w.heap.size + 1, 0, none⟩) (by show w.heap.size ≤ w.heap.size + 1; omega) _, (Below.heap_setCell w2 _ _ _ (by show w.heap.size + 1 + 1 ≠ w.heap.size + 1; omega)).trans hb2⟩
    exact ⟨hoth.from _, hKp, _, kk1.set_ 0 _, by rw [HSN.out]; exact hO3, kk3, hB3.setCell (p := ⟨w.heap.size + 1, 0, none⟩) (by show w.heap.size ≤ w.heap.size + 1; omega) _, by have := hgr.size; simp; omega⟩
  case done =>
    rintro D ys W hD rfl ⟨v, g1, g2, g3, g4, g5⟩ hK
    rw [kpF_all] at g2
    have g2' := g2.aside (grownBy_putObj' W D (.deferred none)) (B := 0) (fun r e => by cases e; exact ⟨Nat.zero_le _, _, hK, rfl⟩)
    have g4' := below_aside (B := w.heap.size) g4 (Nat.le_refl _) (Nat.le_refl _) (grownBy_putObj' W D (.deferred none)) (fun r e => by cases e; exact ⟨by omega, _, hK, rfl⟩)
    obtain ⟨A3, c3, rfl, hc3, _, hA3, hs3⟩ := g2'.form3
    have q1 := g1.cell 0
    simp at q1
    obtain ⟨L, hL⟩ : ∃ L, kpK (whL (doN op) x) l lens lens.length = L := ⟨_, rfl⟩
    rw [hL] at hs3 hc3 hA3 q1
    have HL := Lib.hid hL
    have hqq : (L.length : Int) ≤ (c3 : Int) := by omega
    clear hL
    gi_wp2
    refine ⟨by simp, .inl ⟨_, _, rfl, run_takeDeferred hK, ?_⟩⟩
    refine ⟨.slice A3 L.length L.length, by simp [results, Tryz.f49, go_sem], ?_⟩
    rw [HL.out]
    exact ⟨A3, L.length, rfl, Nat.le_refl _, hs3, g4'⟩
  case stop =>
    rintro D c pre W _ _ h _
    exact h.elim

set_option maxHeartbeats 4000000 in
theorem of_ahead (op x : Int) (g : Nat) (A A' : Option Addr) (c cl : Nat) (l lens : List Int) (w : World) (hg : Blk w g 3 #[.int .i64 op]) (h : Sl w A l) (hcl : l.length ≤ cl) (h' : Sl w A' lens) (hz : Segs l lens) :
    Calls Tryz.prog 49 #[.agg #[.int .i64 x, .func (.func 87) #[] #[.pointer (some ⟨g, 0, none⟩)], .func (.func 33) #[] #[]], .slice A l.length cl, .slice A' lens.length c] w (RetS w (kpK (ahL (doN op) x) l lens lens.length)) := by
  obtain ⟨i0, hi, hz0, hz1, hz2⟩ := info_parts int_info
  refine (callsIn_wide (n := 8)).1 ?_
  refine callsIn_of_wp_marks Tryz.func49 rfl trivial ?_ rfl
  simp only [Tryz.ntmps49, List.size_toArray, List.length_cons, List.length_nil, Nat.reduceAdd, Nat.reduceSub, Array.replicate_succ, Array.replicate_zero, List.push_toArray, List.append_toArray, List.nil_append, List.cons_append]
  have b0 := (((Blk.new w 70 #[.int .i64 x, .func (.func 87) #[] #[.pointer (some ⟨g, 0, none⟩)], .func (.func 33) #[] #[]]).alloc (.cells #[.slice none 0 0] 22)).alloc (.cells #[.slice A l.length cl] 22)).alloc (.cells #[.slice A' lens.length c] 22)
  have b1 := ((Blk.new (w.alloc (.cells #[.int .i64 x, .func (.func 87) #[] #[.pointer (some ⟨g, 0, none⟩)], .func (.func 33) #[] #[]] 70)) 22 #[.slice none 0 0]).alloc (.cells #[.slice A l.length cl] 22)).alloc (.cells #[.slice A' lens.length c] 22)
  have b2 := (Blk.new ((w.alloc (.cells #[.int .i64 x, .func (.func 87) #[] #[.pointer (some ⟨g, 0, none⟩)], .func (.func 33) #[] #[]] 70)).alloc (.cells #[.slice none 0 0] 22)) 22 #[.slice A l.length cl]).alloc (.cells #[.slice A' lens.length c] 22)
  have b3 := Blk.new (((w.alloc (.cells #[.int .i64 x, .func (.func 87) #[] #[.pointer (some ⟨g, 0, none⟩)], .func (.func 33) #[] #[]] 70)).alloc (.cells #[.slice none 0 0] 22)).alloc (.cells #[.slice A l.length cl] 22)) 22 #[.slice A' lens.length c]
  simp only [World.size_alloc] at b1 b2 b3
  have hB0 : Below w.heap.size w ((((w.alloc (.cells #[.int .i64 x, .func (.func 87) #[] #[.pointer (some ⟨g, 0, none⟩)], .func (.func 33) #[] #[]] 70)).alloc (.cells #[.slice none 0 0] 22)).alloc (.cells #[.slice A l.length cl] 22)).alloc (.cells #[.slice A' lens.length c] 22)) := (((((Below.refl _ _).alloc (Nat.le_refl _) _).alloc (by simp) _).alloc (by simp; omega) _).alloc (by simp; omega) _)
  have hsz : w.heap.size + 4 ≤ (((((w.alloc (.cells #[.int .i64 x, .func (.func 87) #[] #[.pointer (some ⟨g, 0, none⟩)], .func (.func 33) #[] #[]] 70)).alloc (.cells #[.slice none 0 0] 22)).alloc (.cells #[.slice A l.length cl] 22)).alloc (.cells #[.slice A' lens.length c] 22))).heap.size := by simp
  gi_wp2_with (refine ⟨trivial, ?_⟩; gi_at_call 50; refine (callsIn_wide.2 (segments_any _ _ ⟨_, _, _, rfl⟩ ⟨_, _, _, rfl⟩ _)).mono ?_; rintro e w' ⟨rfl, rfl⟩)
  obtain ⟨W0, hW0⟩ : ∃ W0, ((((w.alloc (.cells #[.int .i64 x, .func (.func 87) #[] #[.pointer (some ⟨g, 0, none⟩)], .func (.func 33) #[] #[]] 70)).alloc (.cells #[.slice none 0 0] 22)).alloc (.cells #[.slice A l.length cl] 22)).alloc (.cells #[.slice A' lens.length c] 22)) = W0 := ⟨_, rfl⟩
  rw [hW0] at b0 b1 b2 b3 hB0 hsz ⊢
  clear hW0
  have hlen := hz.few
  have hll := hz.short
  refine wpIn_rangeFunc_ownH rfl (by omega) (gf := 81) (lb := #[.pointer (some ⟨w.heap.size + 1 + 1 + 1, 0, none⟩), .pointer (some ⟨w.heap.size + 1 + 1, 0, none⟩)]) rfl trivial (enters_of Tryz.func81 (by kernel_rfl) rfl)
    (segs_stops Fence.wide (8 - 1) trivial rfl (by omega) (w.heap.size + 1 + 1) (w.heap.size + 1 + 1 + 1) w.heap.size c cl A A' l lens hz hcl W0 (by omega) (by omega) (b3.cell 0) b2 (fun h0 => by
      obtain ⟨b, off, e, hb, hcs⟩ := h' h0
      exact ⟨b, off, e, hb, fun j hj => (hB0.cell (p := ⟨b, off + j, none⟩) hb).trans (hcs j hj)⟩)) kpB_t (kpB_b (by omega) (by omega)) (Below.refl _ _) (fun _ => rfl)
    (fun pre W => ∃ v, Blk W (w.heap.size + 1) 22 #[v] ∧ OwnI W (w.heap.size + 4) v (kpF (ahL (doN op) x) l lens pre) ∧ Blk W w.heap.size 70 #[.int .i64 x, .func (.func 87) #[] #[.pointer (some ⟨g, 0, none⟩)], .func (.func 33) #[] #[]] ∧ Below w.heap.size w W ∧ w.heap.size + 4 ≤ W.heap.size)
    (fun _ _ _ => False)
    (fun _ X Y row hs hg hr => by
      obtain ⟨v, g1, g2, g3, g4, g5⟩ := hs
      exact ⟨v, g1.aside hg hr, g2.aside hg hr, g3.aside hg hr, below_aside g4 (Nat.le_refl _) (by omega) hg hr, Nat.le_trans g5 hg.size⟩)
    (fun _ _ _ _ _ hs _ _ => hs)
    ⟨_, b1, OwnI.nil _ _, b0, hB0, hsz⟩
    (fun x' a' W => a' = ⟨#[.agg #[.int .i64 x, .func (.func 87) #[] #[.pointer (some ⟨g, 0, none⟩)], .func (.func 33) #[] #[]], .slice A l.length cl, .slice A' lens.length c,
        .pointer (some ⟨w.heap.size, 0, none⟩), undef, undef, .slice none 0 0, .pointer (some ⟨w.heap.size + 1, 0, none⟩), undef,
        .slice (sgA A (ofs lens x'.val) (ofs lens (x'.val + 1))) (ofs lens (x'.val + 1) - ofs lens x'.val) (ofs lens (x'.val + 1) - ofs lens x'.val),
        .slice A l.length cl, .slice A' lens.length c, .func (.func 81) #[] #[.pointer (some ⟨w.heap.size + 1 + 1 + 1, 0, none⟩), .pointer (some ⟨w.heap.size + 1 + 1, 0, none⟩)],
        .int .i64 ((x'.val : Nat) : Int), .slice (sgA A (ofs lens x'.val) (ofs lens (x'.val + 1))) (ofs lens (x'.val + 1) - ofs lens x'.val) (ofs lens (x'.val + 1) - ofs lens x'.val),
        undef, undef, undef, undef, undef, undef, undef, undef, undef, undef, undef, undef, undef, undef, undef, undef, undef, undef], []⟩)
    (fun x a' _ X Y row hs hg hr => hs)
    ?assign ?body ?done ?stop
  case assign =>
    rintro i pre x' W K hI hK
    simp only [segV]
    gi_wp2
    exact hK _ _ (KeepsFrom.refl _ _) (kpB_refl _ _ _) hI rfl
  case body =>
    rintro i pre x' a' W hl' ⟨r, hr⟩ ⟨v, g1, g2, g3, g4, g5⟩ rfl hlt
    have hx := x'.isLt
    obtain ⟨e1, e2, e3, e4, e5⟩ := hz.step x'.val hx
    have hsegL := hz.seg_length x'.val hx
    have hsl := sl_sg (h.step g4) e2 e3
    have hsgl : (sgL l lens x'.val).length = ofs lens (x'.val + 1) - ofs lens x'.val := by omega
    have hsl : Sl W (sgA A (ofs lens x'.val) (ofs lens (x'.val + 1))) (sgL l lens x'.val) := hsl
    have HSN := Lib.hid (kpF_snoc (ahL (doN op) x) l lens pre x')
    have HKL := kept_len (ahL (doN op) x) (fun s => by unfold ahL; rw [mk_length]; omega) l lens hll hlen pre hlt x'
    have hsm := sg_le l lens x'.val
    have hin := inL_length (doN op) x (sgL l lens x'.val)
    have hlast := inL_ahead (doN op) x (sgL l lens x'.val)
    obtain ⟨sA, hsA⟩ : ∃ sA, sgA A (ofs lens x'.val) (ofs lens (x'.val + 1)) = sA := ⟨_, rfl⟩
    obtain ⟨s, hs⟩ : ∃ s, sgL l lens x'.val = s := ⟨_, rfl⟩
    rw [hs] at hsgl hsl HSN HKL hsm hin hlast
    rw [← hsgl, hsA]
    rw [hsA] at hsl
    obtain ⟨T, hT⟩ : ∃ T, inL (doN op) x s = T := ⟨_, rfl⟩
    rw [hT] at hin hlast
    obtain ⟨kp, hkp⟩ : ∃ kp, ahL (doN op) x s = kp := ⟨_, rfl⟩
    rw [hkp] at HSN HKL hlast
    have C1 := fun W' (hb : Blk W' g 3 #[.int .i64 op]) (hS : Sl W' sA s) => from_any op x x g sA s.length s W' hb hS (by omega)
    rw [hT] at C1
    have C1 := Lib.hid C1
    have HIN := Lib.hid hin
    have HLA := Lib.hid hlast
    have HKL := Lib.hid HKL
    clear e1 e2 e3 e4 e5 hsegL hsgl hs hsA hT hkp hin hlast
    gi_wp2
    refine wpIn_region_mix' (fun W' => Blk W' (w.heap.size + 1) 22 #[v] ∧ Blk W' w.heap.size 70 #[.int .i64 x, .func (.func 87) #[] #[.pointer (some ⟨g, 0, none⟩)], .func (.func 33) #[] #[]] ∧ Below W.heap.size W W') [false, false, false, false, false, false, false, false, false, true, true] (fun _ => trivial) rfl (by kernel_rfl) (by kernel_rfl) ⟨g1, g3, (Below.refl _ _).drew⟩ ?_
    simp only [mixT, mixH, mixD]
    have LT : ∀ W', (Blk W' (w.heap.size + 1) 22 #[v] ∧ Blk W' w.heap.size 70 #[.int .i64 x, .func (.func 87) #[] #[.pointer (some ⟨g, 0, none⟩)], .func (.func 33) #[] #[]] ∧ Below W.heap.size W W') → W'.cell? ⟨w.heap.size + 1, 0, none⟩ = some v ∧ W'.cell? ⟨w.heap.size, 0, none⟩ = some (.int .i64 x) ∧ W'.cell? ⟨w.heap.size, 1, none⟩ = some (.func (.func 87) #[] #[.pointer (some ⟨g, 0, none⟩)]) ∧ W'.cell? ⟨w.heap.size, 2, none⟩ = some (.func (.func 33) #[] #[]) := fun W' hW => ⟨hW.1.cell 0, hW.2.1.cell 0, hW.2.1.cell 1, hW.2.1.cell 2⟩
    iterate 9 (refine wpLts_light ?_ (fun W' hW => ?_) ?_; rotate_left; (obtain ⟨q0, q1, q2, q3⟩ := LT W' hW; go_simp; try with_reducible rfl); simp only [Act.put, List.setIfInBounds_toArray, List.set_cons_zero, List.set_cons_succ])
    refine wpLts_heavy (wpLts_heavy (wpLts_nil ?_))
    have gd : Blk W.drew g 3 #[.int .i64 op] := (hg.below g4 hg.lt).drew
    refine wpHvs_call 51 #[.agg #[.int .i64 x, .func (.func 87) #[] #[.pointer (some ⟨g, 0, none⟩)]], .int .i64 x, .slice sA s.length s.length] (by go_simp) ?_
    refine (CallsIn.inRound i (callsIn_wide.2 (C1.out W.drew gd hsl))).mono ?_
    rintro e W1 ⟨A1, c1, rfl, hc1, hs1, hBc⟩
    have hBW : Below W.heap.size W W1 := (Below.refl _ W).drew.trans hBc
    have k1 := g1.below hBW g1.lt
    have k3 := g3.below hBW g3.lt
    refine ⟨_, rfl, ⟨k1, k3, hBW⟩, ?_⟩
    simp only [Act.put, List.setIfInBounds_toArray, List.set_cons_zero, List.set_cons_succ]
    refine wpHvs_call 33 #[.slice A1 T.length c1] (by go_simp) ?_
    have C2 := ahead_any A1 c1 s.length T W1 hs1 HIN.out hc1 (by omega)
    rw [HLA.out] at C2
    refine (CallsIn.inRound i (callsIn_wide.2 C2)).mono ?_
    rintro e W2 ⟨b2', o2, c2, rfl, hc2, hs2, rfl⟩
    refine ⟨_, rfl, ⟨k1, k3, hBW⟩, ?_⟩
    simp only [Act.put, List.setIfInBounds_toArray, List.set_cons_zero, List.set_cons_succ]
    refine wpHvs_nil ?_
    have hown := g2.below hBW (Nat.le_refl _)
    have hsz1 := hBW.size
    gi_wp2_with (gi_at_builtin; refine wpListIn_append_own _ rfl _ _ 22 rfl (w.heap.size + 4) 3 i0 (.int .i64 0) 1 8 Tryz.underlying22 hi hz0 hz1 hz2 rfl (by decide) _ _ _ rfl hown ⟨b2', o2, none⟩ kp.length c2 (kp.map (Value.int .i64)) rfl (by simp) (Sl.news hs2) (by intro u hu; obtain ⟨q, _, rfl⟩ := List.mem_map.1 hu; rfl) (by have := HKL.out; unfold maxLen; omega) (by have := HKL.out; omega) (by omega) ?_; intro v' w2 hown' hgrow _; have hgr : World.grownBy _ w2 v.ownBlock := hgrow; have ho2 := OwnI.apps hown'; obtain ⟨A3, c3, ev, _, _⟩ := ho2.form; obtain ⟨N, hN⟩ : ∃ N, (kpF (ahL (doN op) x) l lens pre ++ kp).length = N := ⟨_, rfl⟩; rw [hN] at ev; subst ev; clear hN hown' hgrow; have kk1 := k1.grown hgr (k1.not_row (by decide) hown); have cc1 := kk1.cell 0; have ff1 := kk1.frozen 0; simp at cc1)
    have hB3 := (g4.trans (hBW.mono g4.size)).grown hgr (by omega) (fun k e => by have := (hown.lt k e).1; omega)
    have hO3 := ho2.kept (grownBy_set w2 ⟨w.heap.size + 1, 0, none⟩ (.slice A3 N c3)) (.inr (fun e => by have := (ho2.lt _ e).1; simp at this))
    have kk3 := (k3.grown hgr (fun e => by have := (hown.lt _ e.symm).1; omega)).far (p := ⟨w.heap.size + 1, 0, none⟩) (by simp) (.slice A3 N c3)
    have hoth := ((below_others hBW).trans (KeepsOthers.of_grownBy hgr (fun j o ej hj => by
      rcases hown.2 with ⟨rfl, _⟩ | ⟨q, cap, cur, rfl, _, hgb, _⟩
      · simp [Value.ownBlock] at ej
      · obtain rfl : q = j := by simpa [Value.ownBlock] using ej
        rw [hgb] at hj; cases hj; rfl))).trans (KeepsOthers.setCell w2 ⟨w.heap.size + 1, 0, none⟩ (.slice A3 N c3))
    have hb2 : w2.heap[w.heap.size + 1 + 1]? = W.heap[w.heap.size + 1 + 1]? := (hgr.block (w.heap.size + 1 + 1) (by omega) (fun e => by have := (hown.lt _ e.symm).1; omega)).trans (hBW.block _ (by omega))
    have hKp : KpB w.heap.size (w.heap.size + 1 + 1) W (w2.setCell ⟨w.heap.size + 1, 0, none⟩ (.slice A3 N c3)) :=
      ⟨((hBW.mono (by omega)).grown hgr (by omega) (fun k e => by have := (hown.lt k e).1; omega)).setCell (p := ⟨w.heap.size + 1, 0, none⟩) (by show w.heap.size ≤ w.heap.size + 1; omega) _, (Below.heap_setCell w2 _ _ _ (by show w.heap.size + 1 + 1 ≠ w.heap.size + 1; omega)).trans hb2⟩
    exact ⟨hoth.from _, hKp, _, kk1.set_ 0 _, by rw [HSN.out]; exact hO3, kk3, hB3.setCell (p := ⟨w.heap.size + 1, 0, none⟩) (by show w.heap.size ≤ w.heap.size + 1; omega) _, by have := hgr.size; simp; omega⟩
  case done =>
    rintro D ys W hD rfl ⟨v, g1, g2, g3, g4, g5⟩ hK
    rw [kpF_all] at g2
    have g2' := g2.aside (grownBy_putObj' W D (.deferred none)) (B := 0) (fun r e => by cases e; exact ⟨Nat.zero_le _, _, hK, rfl⟩)
    have g4' := below_aside (B := w.heap.size) g4 (Nat.le_refl _) (Nat.le_refl _) (grownBy_putObj' W D (.deferred none)) (fun r e => by cases e; exact ⟨by omega, _, hK, rfl⟩)
    obtain ⟨A3, c3, rfl, hc3, _, hA3, hs3⟩ := g2'.form3
    have q1 := g1.cell 0
    simp at q1
    obtain ⟨L, hL⟩ : ∃ L, kpK (ahL (doN op) x) l lens lens.length = L := ⟨_, rfl⟩
    rw [hL] at hs3 hc3 hA3 q1
    have HL := Lib.hid hL
    have hqq : (L.length : Int) ≤ (c3 : Int) := by omega
    clear hL
    gi_wp2
    refine ⟨by simp, .inl ⟨_, _, rfl, run_takeDeferred hK, ?_⟩⟩
    refine ⟨.slice A3 L.length L.length, by simp [results, Tryz.f49, go_sem], ?_⟩
    rw [HL.out]
    exact ⟨A3, L.length, rfl, Nat.le_refl _, hs3, g4'⟩
  case stop =>
    rintro D c pre W _ _ h _
    exact h.elim

set_option maxHeartbeats 4000000 in
theorem of_upTo (op x : Int) (g : Nat) (A A' : Option Addr) (c cl : Nat) (l lens : List Int) (w : World) (hg : Blk w g 3 #[.int .i64 op]) (h : Sl w A l) (hcl : l.length ≤ cl) (h' : Sl w A' lens) (hz : Segs l lens) :
    Calls Tryz.prog 49 #[.agg #[.int .i64 x, .func (.func 87) #[] #[.pointer (some ⟨g, 0, none⟩)], .func (.func 36) #[] #[]], .slice A l.length cl, .slice A' lens.length c] w (RetS w (kpK (upL' (doN op) x) l lens lens.length)) := by
  obtain ⟨i0, hi, hz0, hz1, hz2⟩ := info_parts int_info
  refine (callsIn_wide (n := 8)).1 ?_
  refine callsIn_of_wp_marks Tryz.func49 rfl trivial ?_ rfl
  simp only [Tryz.ntmps49, List.size_toArray, List.length_cons, List.length_nil, Nat.reduceAdd, Nat.reduceSub, Array.replicate_succ, Array.replicate_zero, List.push_toArray, List.append_toArray, List.nil_append, List.cons_append]
  have b0 := (((Blk.new w 70 #[.int .i64 x, .func (.func 87) #[] #[.pointer (some ⟨g, 0, none⟩)], .func (.func 36) #[] #[]]).alloc (.cells #[.slice none 0 0] 22)).alloc (.cells #[.slice A l.length cl] 22)).alloc (.cells #[.slice A' lens.length c] 22)
  have b1 := ((Blk.new (w.alloc (.cells #[.int .i64 x, .func (.func 87) #[] #[.pointer (some ⟨g, 0, none⟩)], .func (.func 36) #[] #[]] 70)) 22 #[.slice none 0 0]).alloc (.cells #[.slice A l.length cl] 22)).alloc (.cells #[.slice A' lens.length c] 22)
  have b2 := (Blk.new ((w.alloc (.cells #[.int .i64 x, .func (.func 87) #[] #[.pointer (some ⟨g, 0, none⟩)], .func (.func 36) #[] #[]] 70)).alloc (.cells #[.slice none 0 0] 22)) 22 #[.slice A l.length cl]).alloc (.cells #[.slice A' lens.length c] 22)
  have b3 := Blk.new (((w.alloc (.cells #[.int .i64 x, .func (.func 87) #[] #[.pointer (some ⟨g, 0, none⟩)], .func (.func 36) #[] #[]] 70)).alloc (.cells #[.slice none 0 0] 22)).alloc (.cells #[.slice A l.length cl] 22)) 22 #[.slice A' lens.length c]
  simp only [World.size_alloc] at b1 b2 b3
  have hB0 : Below w.heap.size w ((((w.alloc (.cells #[.int .i64 x, .func (.func 87) #[] #[.pointer (some ⟨g, 0, none⟩)], .func (.func 36) #[] #[]] 70)).alloc (.cells #[.slice none 0 0] 22)).alloc (.cells #[.slice A l.length cl] 22)).alloc (.cells #[.slice A' lens.length c] 22)) := (((((Below.refl _ _).alloc (Nat.le_refl _) _).alloc (by simp) _).alloc (by simp; omega) _).alloc (by simp; omega) _)
  have hsz : w.heap.size + 4 ≤ (((((w.alloc (.cells #[.int .i64 x, .func (.func 87) #[] #[.pointer (some ⟨g, 0, none⟩)], .func (.func 36) #[] #[]] 70)).alloc (.cells #[.slice none 0 0] 22)).alloc (.cells #[.slice A l.length cl] 22)).alloc (.cells #[.slice A' lens.length c] 22))).heap.size := by simp
  gi_wp2_with (refine ⟨trivial, ?_⟩; gi_at_call 50; refine (callsIn_wide.2 (segments_any _ _ ⟨_, _, _, rfl⟩ ⟨_, _, _, rfl⟩ _)).mono ?_; rintro e w' ⟨rfl, rfl⟩)
  obtain ⟨W0, hW0⟩ : ∃ W0, ((((w.alloc (.cells #[.int .i64 x, .func (.func 87) #[] #[.pointer (some ⟨g, 0, none⟩)], .func (.func 36) #[] #[]] 70)).alloc (.cells #[.slice none 0 0] 22)).alloc (.cells #[.slice A l.length cl] 22)).alloc (.cells #[.slice A' lens.length c] 22)) = W0 := ⟨_, rfl⟩
  rw [hW0] at b0 b1 b2 b3 hB0 hsz ⊢
  clear hW0
  have hlen := hz.few
  have hll := hz.short
  refine wpIn_rangeFunc_ownH rfl (by omega) (gf := 81) (lb := #[.pointer (some ⟨w.heap.size + 1 + 1 + 1, 0, none⟩), .pointer (some ⟨w.heap.size + 1 + 1, 0, none⟩)]) rfl trivial (enters_of Tryz.func81 (by kernel_rfl) rfl)
    (segs_stops Fence.wide (8 - 1) trivial rfl (by omega) (w.heap.size + 1 + 1) (w.heap.size + 1 + 1 + 1) w.heap.size c cl A A' l lens hz hcl W0 (by omega) (by omega) (b3.cell 0) b2 (fun h0 => by
      obtain ⟨b, off, e, hb, hcs⟩ := h' h0
      exact ⟨b, off, e, hb, fun j hj => (hB0.cell (p := ⟨b, off + j, none⟩) hb).trans (hcs j hj)⟩)) kpB_t (kpB_b (by omega) (by omega)) (Below.refl _ _) (fun _ => rfl)
    (fun pre W => ∃ v, Blk W (w.heap.size + 1) 22 #[v] ∧ OwnI W (w.heap.size + 4) v (kpF (upL' (doN op) x) l lens pre) ∧ Blk W w.heap.size 70 #[.int .i64 x, .func (.func 87) #[] #[.pointer (some ⟨g, 0, none⟩)], .func (.func 36) #[] #[]] ∧ Below w.heap.size w W ∧ w.heap.size + 4 ≤ W.heap.size)
    (fun _ _ _ => False)
    (fun _ X Y row hs hg hr => by
      obtain ⟨v, g1, g2, g3, g4, g5⟩ := hs
      exact ⟨v, g1.aside hg hr, g2.aside hg hr, g3.aside hg hr, below_aside g4 (Nat.le_refl _) (by omega) hg hr, Nat.le_trans g5 hg.size⟩)
    (fun _ _ _ _ _ hs _ _ => hs)
    ⟨_, b1, OwnI.nil _ _, b0, hB0, hsz⟩
    (fun x' a' W => a' = ⟨#[.agg #[.int .i64 x, .func (.func 87) #[] #[.pointer (some ⟨g, 0, none⟩)], .func (.func 36) #[] #[]], .slice A l.length cl, .slice A' lens.length c,
        .pointer (some ⟨w.heap.size, 0, none⟩), undef, undef, .slice none 0 0, .pointer (some ⟨w.heap.size + 1, 0, none⟩), undef,
        .slice (sgA A (ofs lens x'.val) (ofs lens (x'.val + 1))) (ofs lens (x'.val + 1) - ofs lens x'.val) (ofs lens (x'.val + 1) - ofs lens x'.val),
        .slice A l.length cl, .slice A' lens.length c, .func (.func 81) #[] #[.pointer (some ⟨w.heap.size + 1 + 1 + 1, 0, none⟩), .pointer (some ⟨w.heap.size + 1 + 1, 0, none⟩)],
        .int .i64 ((x'.val : Nat) : Int), .slice (sgA A (ofs lens x'.val) (ofs lens (x'.val + 1))) (ofs lens (x'.val + 1) - ofs lens x'.val) (ofs lens (x'.val + 1) - ofs lens x'.val),
        undef, undef, undef, undef, undef, undef, undef, undef, undef, undef, undef, undef, undef, undef, undef, undef, undef, undef], []⟩)
    (fun x a' _ X Y row hs hg hr => hs)
    ?assign ?body ?done ?stop
  case assign =>
    rintro i pre x' W K hI hK
    simp only [segV]
    gi_wp2
    exact hK _ _ (KeepsFrom.refl _ _) (kpB_refl _ _ _) hI rfl
  case body =>
    rintro i pre x' a' W hl' ⟨r, hr⟩ ⟨v, g1, g2, g3, g4, g5⟩ rfl hlt
    have hx := x'.isLt
    obtain ⟨e1, e2, e3, e4, e5⟩ := hz.step x'.val hx
    have hsegL := hz.seg_length x'.val hx
    have hsl := sl_sg (h.step g4) e2 e3
    have hsgl : (sgL l lens x'.val).length = ofs lens (x'.val + 1) - ofs lens x'.val := by omega
    have hsl : Sl W (sgA A (ofs lens x'.val) (ofs lens (x'.val + 1))) (sgL l lens x'.val) := hsl
    have HSN := Lib.hid (kpF_snoc (upL' (doN op) x) l lens pre x')
    have HKL := kept_len (upL' (doN op) x) (fun s => by unfold upL'; rw [mk_length]; omega) l lens hll hlen pre hlt x'
    have hsm := sg_le l lens x'.val
    have hin := inL_length (doN op) x (sgL l lens x'.val)
    have hlast := inL_upTo (doN op) x (sgL l lens x'.val)
    obtain ⟨sA, hsA⟩ : ∃ sA, sgA A (ofs lens x'.val) (ofs lens (x'.val + 1)) = sA := ⟨_, rfl⟩
    obtain ⟨s, hs⟩ : ∃ s, sgL l lens x'.val = s := ⟨_, rfl⟩
    rw [hs] at hsgl hsl HSN HKL hsm hin hlast
    rw [← hsgl, hsA]
    rw [hsA] at hsl
    obtain ⟨T, hT⟩ : ∃ T, inL (doN op) x s = T := ⟨_, rfl⟩
    rw [hT] at hin hlast
    obtain ⟨kp, hkp⟩ : ∃ kp, upL' (doN op) x s = kp := ⟨_, rfl⟩
    rw [hkp] at HSN HKL hlast
    have C1 := fun W' (hb : Blk W' g 3 #[.int .i64 op]) (hS : Sl W' sA s) => from_any op x x g sA s.length s W' hb hS (by omega)
    rw [hT] at C1
    have C1 := Lib.hid C1
    have HIN := Lib.hid hin
    have HLA := Lib.hid hlast
    have HKL := Lib.hid HKL
    clear e1 e2 e3 e4 e5 hsegL hsgl hs hsA hT hkp hin hlast
    gi_wp2
    refine wpIn_region_mix' (fun W' => Blk W' (w.heap.size + 1) 22 #[v] ∧ Blk W' w.heap.size 70 #[.int .i64 x, .func (.func 87) #[] #[.pointer (some ⟨g, 0, none⟩)], .func (.func 36) #[] #[]] ∧ Below W.heap.size W W') [false, false, false, false, false, false, false, false, false, true, true] (fun _ => trivial) rfl (by kernel_rfl) (by kernel_rfl) ⟨g1, g3, (Below.refl _ _).drew⟩ ?_
    simp only [mixT, mixH, mixD]
    have LT : ∀ W', (Blk W' (w.heap.size + 1) 22 #[v] ∧ Blk W' w.heap.size 70 #[.int .i64 x, .func (.func 87) #[] #[.pointer (some ⟨g, 0, none⟩)], .func (.func 36) #[] #[]] ∧ Below W.heap.size W W') → W'.cell? ⟨w.heap.size + 1, 0, none⟩ = some v ∧ W'.cell? ⟨w.heap.size, 0, none⟩ = some (.int .i64 x) ∧ W'.cell? ⟨w.heap.size, 1, none⟩ = some (.func (.func 87) #[] #[.pointer (some ⟨g, 0, none⟩)]) ∧ W'.cell? ⟨w.heap.size, 2, none⟩ = some (.func (.func 36) #[] #[]) := fun W' hW => ⟨hW.1.cell 0, hW.2.1.cell 0, hW.2.1.cell 1, hW.2.1.cell 2⟩
    iterate 9 (refine wpLts_light ?_ (fun W' hW => ?_) ?_; rotate_left; (obtain ⟨q0, q1, q2, q3⟩ := LT W' hW; go_simp; try with_reducible rfl); simp only [Act.put, List.setIfInBounds_toArray, List.set_cons_zero, List.set_cons_succ])
    refine wpLts_heavy (wpLts_heavy (wpLts_nil ?_))
    have gd : Blk W.drew g 3 #[.int .i64 op] := (hg.below g4 hg.lt).drew
    refine wpHvs_call 51 #[.agg #[.int .i64 x, .func (.func 87) #[] #[.pointer (some ⟨g, 0, none⟩)]], .int .i64 x, .slice sA s.length s.length] (by go_simp) ?_
    refine (CallsIn.inRound i (callsIn_wide.2 (C1.out W.drew gd hsl))).mono ?_
    rintro e W1 ⟨A1, c1, rfl, hc1, hs1, hBc⟩
    have hBW : Below W.heap.size W W1 := (Below.refl _ W).drew.trans hBc
    have k1 := g1.below hBW g1.lt
    have k3 := g3.below hBW g3.lt
    refine ⟨_, rfl, ⟨k1, k3, hBW⟩, ?_⟩
    simp only [Act.put, List.setIfInBounds_toArray, List.set_cons_zero, List.set_cons_succ]
    refine wpHvs_call 36 #[.slice A1 T.length c1] (by go_simp) ?_
    have C2 := upTo_any A1 c1 s.length T W1 hs1 HIN.out hc1 (by omega)
    rw [HLA.out] at C2
    refine (CallsIn.inRound i (callsIn_wide.2 C2)).mono ?_
    rintro e W2 ⟨b2', o2, c2, rfl, hc2, hs2, rfl⟩
    refine ⟨_, rfl, ⟨k1, k3, hBW⟩, ?_⟩
    simp only [Act.put, List.setIfInBounds_toArray, List.set_cons_zero, List.set_cons_succ]
    refine wpHvs_nil ?_
    have hown := g2.below hBW (Nat.le_refl _)
    have hsz1 := hBW.size
    gi_wp2_with (gi_at_builtin; refine wpListIn_append_own _ rfl _ _ 22 rfl (w.heap.size + 4) 3 i0 (.int .i64 0) 1 8 Tryz.underlying22 hi hz0 hz1 hz2 rfl (by decide) _ _ _ rfl hown ⟨b2', o2, none⟩ kp.length c2 (kp.map (Value.int .i64)) rfl (by simp) (Sl.news hs2) (by intro u hu; obtain ⟨q, _, rfl⟩ := List.mem_map.1 hu; rfl) (by have := HKL.out; unfold maxLen; omega) (by have := HKL.out; omega) (by omega) ?_; intro v' w2 hown' hgrow _; have hgr : World.grownBy _ w2 v.ownBlock := hgrow; have ho2 := OwnI.apps hown'; obtain ⟨A3, c3, ev, _, _⟩ := ho2.form; obtain ⟨N, hN⟩ : ∃ N, (kpF (upL' (doN op) x) l lens pre ++ kp).length = N := ⟨_, rfl⟩; rw [hN] at ev; subst ev; clear hN hown' hgrow; have kk1 := k1.grown hgr (k1.not_row (by decide) hown); have cc1 := kk1.cell 0; have ff1 := kk1.frozen 0; simp at cc1)
    have hB3 := (g4.trans (hBW.mono g4.size)).grown hgr (by omega) (fun k e => by have := (hown.lt k e).1; omega)
    have hO3 := ho2.kept (grownBy_set w2 ⟨w.heap.size + 1, 0, none⟩ (.slice A3 N c3)) (.inr (fun e => by have := (ho2.lt _ e).1; simp at this))
    have kk3 := (k3.grown hgr (fun e => by have := (hown.lt _ e.symm).1; omega)).far (p := ⟨w.heap.size + 1, 0, none⟩) (by simp) (.slice A3 N c3)
    have hoth := ((below_others hBW).trans (KeepsOthers.of_grownBy hgr (fun j o ej hj => by
      rcases hown.2 with ⟨rfl, _⟩ | ⟨q, cap, cur, rfl, _, hgb, _⟩
      · simp [Value.ownBlock] at ej
      · obtain rfl : q = j := by simpa [Value.ownBlock] using ej
        rw [hgb] at hj; cases hj; rfl))).trans (KeepsOthers.setCell w2 ⟨w.heap.size + 1, 0, none⟩ (.slice A3 N c3))
    have hb2 : w2.heap[w.heap.size + 1 + 1]? = W.heap[w.heap.size + 1 + 1]? := (hgr.block (w.heap.size + 1 + 1) (by omega) (fun e => by have := (hown.lt _ e.symm).1; omega)).trans (hBW.block _ (by omega))
    have hKp : KpB w.heap.size (w.heap.size + 1 + 1) W (w2.setCell ⟨w.heap.size + 1, 0, none⟩ (.slice A3 N c3)) :=
      ⟨((hBW.mono (by omega)).grown hgr (by omega) (fun k e => by have := (hown.lt k e).1; omega)).setCell (p := ⟨w.heap.size + 1, 0, none⟩) (by show w.heap.size ≤ w.heap.size + 1; omega) _, (Below.heap_setCell w2 _ _ _ (by show w.heap.size + 1 + 1 ≠ w.heap.size + 1; omega)).trans hb2⟩
    exact ⟨hoth.from _, hKp, _, kk1.set_ 0 _, by rw [HSN.out]; exact hO3, kk3, hB3.setCell (p := ⟨w.heap.size + 1, 0, none⟩) (by show w.heap.size ≤ w.heap.size + 1; omega) _, by have := hgr.size; simp; omega⟩
  case done =>
    rintro D ys W hD rfl ⟨v, g1, g2, g3, g4, g5⟩ hK
    rw [kpF_all] at g2
    have g2' := g2.aside (grownBy_putObj' W D (.deferred none)) (B := 0) (fun r e => by cases e; exact ⟨Nat.zero_le _, _, hK, rfl⟩)
    have g4' := below_aside (B := w.heap.size) g4 (Nat.le_refl _) (Nat.le_refl _) (grownBy_putObj' W D (.deferred none)) (fun r e => by cases e; exact ⟨by omega, _, hK, rfl⟩)
    obtain ⟨A3, c3, rfl, hc3, _, hA3, hs3⟩ := g2'.form3
    have q1 := g1.cell 0
    simp at q1
    obtain ⟨L, hL⟩ : ∃ L, kpK (upL' (doN op) x) l lens lens.length = L := ⟨_, rfl⟩
    rw [hL] at hs3 hc3 hA3 q1
    have HL := Lib.hid hL
    have hqq : (L.length : Int) ≤ (c3 : Int) := by omega
    clear hL
    gi_wp2
    refine ⟨by simp, .inl ⟨_, _, rfl, run_takeDeferred hK, ?_⟩⟩
    refine ⟨.slice A3 L.length L.length, by simp [results, Tryz.f49, go_sem], ?_⟩
    rw [HL.out]
    exact ⟨A3, L.length, rfl, Nat.le_refl _, hs3, g4'⟩
  case stop =>
    rintro D c pre W _ _ h _
    exact h.elim
end Go.Proofs.YtecpanppnljkhaaGreatDoor
