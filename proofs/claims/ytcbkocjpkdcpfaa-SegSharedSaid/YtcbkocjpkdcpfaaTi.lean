/- sorted: the parts that are not empty, in order. -/
import Derived.Test.YtcbkocjpkdcpfaaBb
import Derived.Test.YtcbkocjpkdcpfaaTg
namespace Go.Proofs.Ytcbkocjpkdcpfaa
set_option linter.unusedVariables false
open Go.RowKit Go.Shelf
open Go.Sort (HoldsK PermIn SortedIn)

attribute [local go_sem] Oper.semAt_some
theorem span_info : (Try.prog.info? 52).map (fun i => (i.zero, i.size, i.bytes)) = some (some (.agg #[.int .i64 0, .int .i64 0]), 2, 16) := by kernel_rfl
/-- The parts that are not empty. -/
def spS (ss ls : List Int) {n : Nat} (pre : List (Fin n)) : List (Int × Int) := (pre.map fun x => (nth ss x.val, nth ls x.val)).filter fun p => decide (0 < p.2)
theorem spS_snoc (ss ls : List Int) {n : Nat} (pre : List (Fin n)) (x : Fin n) : spS ss ls (pre ++ [x]) = if 0 < nth ls x.val then spS ss ls pre ++ [(nth ss x.val, nth ls x.val)] else spS ss ls pre := by
  unfold spS
  rw [List.map_append, List.filter_append]
  by_cases h : 0 < nth ls x.val
  · rw [if_pos h]; simp [h]
  · rw [if_neg h]; simp [h]
theorem spS_length (ss ls : List Int) {n : Nat} (pre : List (Fin n)) : (spS ss ls pre).length ≤ pre.length := by
  have := List.length_filter_le (fun p : Int × Int => decide (0 < p.2)) (pre.map fun x => (nth ss x.val, nth ls x.val))
  rw [List.length_map] at this
  exact this
theorem Blk.not_rowP {W : World} {base B : Nat} {t : TypeId} {cs : Array Value} {v : Value} {ps : List (Int × Int)} (h : Blk W B t cs) (ht : t ≠ 52) (hrow : OwnP W base v ps) : some B ≠ v.ownBlock := fun e => by
  rcases hrow.2 with ⟨rfl, _⟩ | ⟨g, cap, cur, rfl, _, hgb, _⟩
  · cases e
  · obtain rfl : B = g := by simpa [Value.ownBlock] using e
    rw [show W.heap[B]? = _ from h] at hgb
    cases hgb
    exact ht rfl
theorem ownsRow_succP {w : World} {base n : Nat} {v : Value} {xs : List Value} (h : w.ownsRow base 52 2 v (n + 1) xs) : ∃ g cap, v = .slice (some ⟨g, 0, none⟩) (n + 1) cap := by
  obtain ⟨g, cap, e, _⟩ := h.form (by omega)
  exact ⟨g, cap, e⟩
structure AppStepP (W w1 : World) (base B : Nat) (v v' : Value) (ps : List (Int × Int)) (x : Int × Int) : Prop where
  box : Blk w1 B 37 #[v]
  box' : Blk (w1.setCell ⟨B, 0, none⟩ v') B 37 #[v']
  own : OwnP (w1.setCell ⟨B, 0, none⟩ v') base v' (ps ++ [x])
  others : KeepsOthers W (w1.setCell ⟨B, 0, none⟩ v')
  below : Below base W (w1.setCell ⟨B, 0, none⟩ v')
  keep : ∀ g t cs, Blk W g t cs → g ≠ B → some g ≠ v.ownBlock → Blk w1 g t cs ∧ Blk (w1.setCell ⟨B, 0, none⟩ v') g t cs
theorem app_stepP {W w1 : World} {base B : Nat} {v v' : Value} {ps : List (Int × Int)} {a b : Int} {tmp : Obj} (hv : Blk W B 37 #[v]) (hrow : OwnP W base v ps) (hb : base ≤ W.heap.size) (hB : base ≤ B)
    (hown' : w1.ownsRow base 52 2 v' (ps.length + 1) (fl ps ++ [.int .i64 a, .int .i64 b])) (hgrow : (W.alloc tmp).grownBy w1 v.ownBlock) : AppStepP W w1 base B v v' ps (a, b) := by
  have hv' : Boxed W B 37 v := hv
  obtain ⟨a1, a2, a3, a4, a5⟩ := Boxed.appended hv' (by decide) hrow hb hB hown' hgrow
  refine ⟨a1, a2, OwnP.snoc a3, a4, a5, fun g t cs hg hne hnr => ?_⟩
  have h1 : Blk w1 g t cs := (hg.alloc tmp).grown hgrow hnr
  exact ⟨h1, h1.far (p := ⟨B, 0, none⟩) hne v'⟩
theorem cell_two_new (w : World) (t : TypeId) (u v : Value) : ∀ j x, [u, v][j]? = some x → (w.alloc (.cells #[u, v] t)).cell? ((⟨w.heap.size, 0, none⟩ : Addr).add j) = some x := by
  intro j x h
  match j with
  | 0 => simp at h; subst h; exact cell2a w t u v
  | 1 => simp at h; subst h; exact cell2b w t u v
  | j + 2 => simp at h

theorem sort_at {W : World} {base : Nat} {v : Value} {ps : List (Int × Int)} (h : OwnP W base v ps) (hl : ps.length ≤ 1048576) :
    Calls Try.prog 65 #[v, .func (.func 66) #[] #[]] W fun e w' => e = .returned (.tuple #[]) ∧ ∃ ps', ps'.Perm ps ∧ ps'.Pairwise (fun x y => x.1 ≤ y.1) ∧ (∃ A c, v = .slice A ps'.length c ∧ ps'.length ≤ c ∧ SlP w' A ps') ∧ W.grownBy w' v.ownBlock := by
  rcases h.form with ⟨c, rfl, rfl⟩ | ⟨g, c, rfl, h1, h2, h3, h4, h5⟩
  · have hcon := AnyF.slices_SortFunc_none (P := Try.prog) (ρ := Try.sortSpan_ren) { Try.sortSpan with } none c (.func (.func 66) #[] #[]) W
    change Calls Try.prog 65 _ _ _ at hcon
    refine hcon.mono ?_
    rintro e w' ⟨rfl, rfl⟩
    exact ⟨rfl, [], List.Perm.refl _, List.Pairwise.nil, ⟨none, c, rfl, Nat.zero_le _, SlP.nil _ _⟩, World.grownBy.refl _ _⟩
  · have eg : ∀ args w, (callFunc 66 args).run Try.prog w = .ok (.enter 66 args) w := enters_of Try.func66 (by kernel_rfl) rfl
    have hH := holdsK_of h4 h5
    have hcon := AnyQ.slices_SortFunc Try.sortSpan 2 Try.isAgg52 Try.sizeOf52 encS (fun _ => rfl) (fun x v hv => by simp [encS] at hv; rcases hv with rfl | rfl <;> rfl) cfS swoS 66 #[] g 0 c ps.toArray W eg (cmpLays66 g 0 ps.toArray.size W) hH h3 (by simp; omega)
    change Calls Try.prog 65 _ _ _ at hcon
    rw [List.size_toArray] at hcon
    refine hcon.mono ?_
    rintro e w' ⟨rfl, d', n, os, hp, hs, rfl⟩
    obtain ⟨p1, p2, p3⟩ := hp
    have p1' : d'.size = ps.length := by simpa using p1
    have e1 : (d'.extract 0 ps.length).toList = d'.toList := by rw [← p1']; simp
    have e2 : (ps.toArray.extract 0 ps.length).toList = ps := by simp
    rw [e1, e2] at p3
    have hlen : d'.toList.length = ps.length := by simpa using p1'
    refine ⟨rfl, d'.toList, p3, ?_, ⟨some ⟨g, 0, none⟩, c, by rw [hlen], by rw [hlen]; exact h1, ?_⟩, sort_grown W g 0 n d' os⟩
    · rw [List.pairwise_iff_getElem]
      intro i j hi hj hij
      have := hs i j (Nat.zero_le _) hij (by rw [← hlen]; exact hj)
      rw [ltS] at this
      simp at hi hj
      simp [hi, hj] at this ⊢
      omega
    · exact sl_of_holdsK (Go.Proofs.holdsK_sortWorldK encS 2 W g 0 n ps.toArray d' os h3 hH (by simpa using p1')) (Nat.lt_of_lt_of_le h3 (sort_grown W g 0 n d' os).size)

set_option maxRecDepth 100000 in
set_option maxHeartbeats 2000000 in
theorem sorted_any (A A' : Option Addr) (c c' N : Nat) (ss ls : List Int) (w : World) (h : Sl w A ss) (h' : Sl w A' ls) (hP : Pool ss ls N) :
    Calls Try.prog 55 #[.slice A ss.length c, .slice A' ls.length c'] w fun e w' => ∃ ps, ps.Perm (spS ss ls (List.finRange ss.length)) ∧ ps.Pairwise (fun x y => x.1 ≤ y.1) ∧ RetP w ps e w' := by
  obtain ⟨i0, hi, hz0, hz1, hz2⟩ := info_parts span_info
  have hM := hP.many
  have hN := hP.size
  have HL := Lib.hid hP.len
  refine (callsIn_wide (n := 8)).1 ?_
  refine callsIn_of_wp_marks Try.func55 rfl trivial ?_ rfl
  simp only [Try.ntmps55, List.size_toArray, List.length_cons, List.length_nil, Nat.reduceAdd, Nat.reduceSub, Array.replicate_succ, Array.replicate_zero, List.push_toArray, List.append_toArray, List.nil_append, List.cons_append]
  gi_wp2_with (first | (refine ⟨trivial, ?_⟩; gi_at_call 53; refine (callsIn_wide.2 (parts_any _ _ _ _ _ _ _)).mono ?_; rintro e w' ⟨rfl, rfl⟩))
  have bB := ((Blk.new w 37 #[.slice none 0 0]).alloc (.cells #[.slice A ss.length c] 22)).alloc (.cells #[.slice A' ls.length c'] 22)
  have b1 := (Blk.new (w.alloc (.cells #[.slice none 0 0] 37)) 22 #[.slice A ss.length c]).alloc (.cells #[.slice A' ls.length c'] 22)
  have b2 := Blk.new ((w.alloc (.cells #[.slice none 0 0] 37)).alloc (.cells #[.slice A ss.length c] 22)) 22 #[.slice A' ls.length c']
  simp only [World.size_alloc] at b1 b2
  have hB0 : Below w.heap.size w (((w.alloc (.cells #[.slice none 0 0] 37)).alloc (.cells #[.slice A ss.length c] 22)).alloc (.cells #[.slice A' ls.length c'] 22)) := (((Below.refl _ w).alloc (Nat.le_refl _) _).alloc (by simp) _).alloc (by simp; omega) _
  have hsz : w.heap.size + 3 ≤ (((w.alloc (.cells #[.slice none 0 0] 37)).alloc (.cells #[.slice A ss.length c] 22)).alloc (.cells #[.slice A' ls.length c'] 22)).heap.size := by simp
  obtain ⟨W0, hW0⟩ : ∃ W0, ((w.alloc (.cells #[.slice none 0 0] 37)).alloc (.cells #[.slice A ss.length c] 22)).alloc (.cells #[.slice A' ls.length c'] 22) = W0 := ⟨_, rfl⟩
  rw [hW0] at bB b1 b2 hB0 hsz ⊢
  clear hW0
  refine wpIn_rangeFunc_ownH rfl (by omega) (gf := 64) (lb := #[.pointer (some ⟨w.heap.size + 1, 0, none⟩), .pointer (some ⟨w.heap.size + 1 + 1, 0, none⟩)]) rfl trivial (enters_of Try.func64 (by kernel_rfl) rfl)
    (parts_stops Fence.wide (8 - 1) trivial rfl (by omega) (w.heap.size + 1) (w.heap.size + 1 + 1) w.heap.size c c' A A' ss ls hM HL.out W0 w rfl hB0 (by omega) b1 b2 h h') kpB_t (kpB_b (by omega) (by omega)) (Below.refl _ _) (fun _ => rfl)
    (fun pre W => (∃ v, Blk W w.heap.size 37 #[v] ∧ OwnP W w.heap.size v (spS ss ls pre)) ∧ Blk W (w.heap.size + 1 + 1) 22 #[.slice A' ls.length c'] ∧ Below w.heap.size w W)
    (fun _ _ _ => False)
    (fun _ X Y row hs hg hr => by obtain ⟨⟨v, h1, h2⟩, h3, h4⟩ := hs; exact ⟨⟨v, h1.aside hg hr, h2.aside hg hr⟩, h3.aside hg hr, below_aside h4 (Nat.le_refl _) (by omega) hg hr⟩)
    (fun _ _ _ _ _ hs _ _ => hs)
    ⟨⟨_, bB, OwnP.nil _ _⟩, b2, hB0⟩
    (fun x a' W => ∃ Bx, w.heap.size + 2 < Bx ∧ Blk W Bx 52 #[.int .i64 (nth ss x.val), .int .i64 (nth ls x.val)] ∧ a' = ⟨#[Value.slice A ss.length c, Value.slice A' ls.length c', undef, undef, .slice none 0 0, .pointer (some ⟨w.heap.size, 0, none⟩), .pointer (some ⟨Bx, 0, none⟩), Value.slice A ss.length c, Value.slice A' ls.length c', Value.func (Fn.func 64) #[] #[.pointer (some ⟨w.heap.size + 1, 0, none⟩), .pointer (some ⟨w.heap.size + 1 + 1, 0, none⟩)], .agg #[.int .i64 (nth ss x.val), .int .i64 (nth ls x.val)], undef, undef, undef, undef, undef, undef, undef, undef, undef, undef], []⟩)
    (fun x a' _ X Y row hs hg hr => by obtain ⟨Bx, h1, h2, h3⟩ := hs; exact ⟨Bx, h1, h2.aside hg hr, h3⟩)
    ?assign ?body ?done ?stop
  case assign =>
    rintro l pre x W K ⟨⟨v, i1, i2⟩, i5, i3⟩ hK
    have hlt := i5.lt
    have hsw := i3.size
    simp only [partV]
    gi_wp2
    exact hK _ _ ((KeepsOthers.alloc _ _).from _) ⟨(Below.refl _ W).alloc i3.size _, Below.heap_alloc W _ _ hlt⟩ ⟨⟨v, i1.alloc _, i2.alloc _⟩, i5.alloc _, i3.alloc i3.size _⟩ ⟨W.heap.size, by omega, Blk.new W 52 _, rfl⟩
  case body =>
    rintro l pre x a' W hl ⟨r, hr⟩ ⟨⟨v, i1, i2⟩, i5, i3⟩ ⟨Bx, hBx, bX, rfl⟩ hlt
    have c1 := i1.cell 0
    have c2 := bX.cell 0
    have c3 := bX.cell 1
    have hx := x.isLt
    have HS := Lib.hid (spS_snoc ss ls pre x)
    have hlen := spS_length ss ls pre
    have l5 := i5.lt
    have hsw := i3.size
    obtain ⟨s, hs⟩ : ∃ s, nth ss x.val = s := ⟨_, rfl⟩
    obtain ⟨q, hq⟩ : ∃ q, nth ls x.val = q := ⟨_, rfl⟩
    rw [hs] at c2 bX HS ⊢
    rw [hq] at c3 bX HS ⊢
    obtain ⟨f, hf⟩ : ∃ f, spS ss ls pre = f := ⟨_, rfl⟩
    rw [hf] at i2 hlen HS
    clear hs hq hf
    simp at c1 c2 c3
    by_cases h0 : 0 < q
    · have hd : decide (0 < q) = true := by simpa using h0
      have HS2 : Hid (spS ss ls (pre ++ [x]) = f ++ [(s, q)]) := Lib.hid (by rw [HS.out, if_pos h0])
      have n2 := i5.not_rowP (by decide) i2
      gi_wp2_with (gi_at_builtin; refine wpListIn_append_own _ rfl _ _ 37 rfl w.heap.size 52 i0 (.agg #[.int .i64 0, .int .i64 0]) 2 16 Try.underlying37 hi hz0 hz1 hz2 rfl (by decide) _ _ _ rfl (i2.alloc _) ⟨W.heap.size, 0, none⟩ 1 1 [.int .i64 s, .int .i64 q] rfl rfl (cell_two_new _ _ _ _) (by simp [Value.oneCell']) (by unfold maxLen; omega) (by omega) (by simp; omega) ?_; intro v' w3 hown' hgrow _; obtain ⟨g', cap', rfl⟩ := ownsRow_succP hown'; have hst := app_stepP i1 i2 hsw (Nat.le_refl _) hown' hgrow; have cB1 := hst.box.cell 0; have fB1 := hst.box.frozen 0; have cB2 := hst.box'.cell 0; simp at cB1 cB2)
      refine ⟨hst.others.from _, ⟨hst.below, (hst.keep _ _ _ i5 (by omega) n2).2.trans i5.symm⟩, ⟨_, hst.box', by rw [HS2.out]; exact hst.own⟩, (hst.keep _ _ _ i5 (by omega) n2).2, i3.trans hst.below⟩
    · have hd : decide (0 < q) = false := by simpa using h0
      have HS2 : Hid (spS ss ls (pre ++ [x]) = f) := Lib.hid (by rw [HS.out, if_neg h0])
      gi_wp2
      exact ⟨KeepsFrom.refl _ _, kpB_refl _ _ _, ⟨v, i1, by rw [HS2.out]; exact i2⟩, i5, i3⟩
  case done =>
    rintro D ys' W hD rfl ⟨⟨v, i1, i2⟩, i5, i3⟩ hK
    have c1 := i1.cell 0
    simp at c1
    have hlen := spS_length ss ls (List.finRange ss.length)
    rw [List.length_finRange] at hlen
    have C3 := sort_at i2 (by omega)
    gi_wp2_with (refine ⟨trivial, ?_⟩; gi_at_call 65; refine (callsIn_wide.2 C3).mono ?_; rintro e w3 ⟨rfl, ps, hp1, hp2, ⟨A3, c3, rfl, h31, h32⟩, hg3⟩; have c3' := (i1.grown hg3 (i1.not_rowP (by decide) i2)).cell 0; simp at c3')
    have hDW : D < W.heap.size := (Array.getElem?_eq_some_iff.1 hK).1
    have hK3 : w3.heap[D]? = some (.deferred (some [])) := (hg3.block D hDW (fun e => by
      rcases i2.2 with ⟨hv, _⟩ | ⟨g, cap, cur, hv, _, hgb, _⟩
      · injection hv with hv; subst hv; simp [Value.ownBlock] at e
      · injection hv with hv; subst hv
        simp [Value.ownBlock] at e
        subst e
        rw [hK] at hgb; cases hgb)).trans hK
    have j3 : Below w.heap.size w w3 := i3.grown hg3 i3.size (fun k e => (i2.lt k e).1)
    refine ⟨by simp, .inl ⟨_, _, rfl, run_takeDeferred hK3, ?_⟩⟩
    have j4 := below_aside (B := w.heap.size) j3 (Nat.le_refl _) (Nat.le_refl _) (grownBy_putObj' w3 D (.deferred none)) (fun r e => by cases e; exact ⟨by omega, _, hK3, rfl⟩)
    refine ⟨.slice A3 ps.length c3, by simp [results, Try.f55, go_sem], ps, hp1, hp2, A3, c3, rfl, h31, ?_, fun a e => (i2.lt a.block (by rw [e]; rfl)).1, j4⟩
    intro hl
    obtain ⟨b, off, e, hb, hc⟩ := h32 hl
    have hbD : b ≠ D := by
      rintro rfl
      have := (hc 0 hl).1
      simp [World.cell?, hK3] at this
    exact ⟨b, off, e, by simp; exact hb, fun j hj => ⟨((grownBy_putObj' w3 D (.deferred none)).cell_far ⟨b, off + j * 2, none⟩ hb (by simpa using hbD)).trans (hc j hj).1, ((grownBy_putObj' w3 D (.deferred none)).cell_far ⟨b, off + j * 2 + 1, none⟩ hb (by simpa using hbD)).trans (hc j hj).2⟩⟩
  case stop =>
    rintro D c pre W _ _ h _
    exact h.elim
end Go.Proofs.Ytcbkocjpkdcpfaa
