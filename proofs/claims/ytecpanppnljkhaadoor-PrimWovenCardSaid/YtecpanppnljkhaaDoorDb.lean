/- Walks of prim: areSet, Trap, Pack. -/
import Derived.Test.YtecpanppnljkhaaDoorDa
import Derived.WalkMore
namespace Go.Proofs.YtecpanppnljkhaaDoor
set_option linter.unusedVariables false
open Go.RowKit Go.Shelf

attribute [local go_sem] Oper.semAt_some
theorem wpIn_scope {n : Nat} {P : Program} {c : Code} {Q : Exit → Act → World → Prop} {a : Act} {w : World} (h : c.wpIn Fence.wide n P (Exit.noGoto Q) a w) : (Code.scope c).wpIn Fence.wide n P Q a w :=
  wpIn_wide.2 (wp_scope_straight (wpIn_wide.1 h))

set_option maxRecDepth 100000 in
set_option maxHeartbeats 2000000 in
theorem areSet_any (A : Option Addr) (c : Nat) (zs : List Int) (many : Nat) (w : World) (h : Sl w A zs) (hl : zs.length ≤ 1048576) (hm : many ≤ 1048576) :
    Calls Tryd.prog 81 #[.slice A zs.length c, .int .i64 (many : Int)] w (RetV w (.bool (decide (many = cnt zs zs.length)))) := by
  refine (callsIn_wide (n := 8)).1 ?_
  refine callsIn_of_wp_marks Tryd.func81 rfl trivial ?_ rfl
  simp only [Tryd.ntmps81, List.size_toArray, List.length_cons, List.length_nil, Nat.reduceAdd, Nat.reduceSub, Array.replicate_succ, Array.replicate_zero, List.push_toArray, List.append_toArray, List.nil_append, List.cons_append]
  gi_wp2
  refine wpIn_scope ?_
  gi_wp2
  refine wpIn_label ?_
  gi_wp2_with (refine ⟨trivial, ?_⟩; gi_at_call 82; refine (callsIn_wide.2 (set_any _ ⟨_, _, _, rfl⟩ _)).mono ?_; rintro e w' ⟨rfl, rfl⟩)
  have bL := (Blk.new w 3 #[.int .i64 (many : Int)]).alloc (.cells #[.slice A zs.length c] 22)
  have bF : Blk _ (w.heap.size + 1) _ _ := Blk.at (t := 22) (cs := #[.slice A zs.length c]) (show (w.alloc (.cells #[.int .i64 (many : Int)] 3)).heap.size = w.heap.size + 1 by simp)
  have hB0 := al2 w (.cells #[.int .i64 (many : Int)] 3) (.cells #[.slice A zs.length c] 22)
  have hsz : ((w.alloc (.cells #[.int .i64 (many : Int)] 3)).alloc (.cells #[.slice A zs.length c] 22)).heap.size = w.heap.size + 2 := by simp
  obtain ⟨W0, hW0⟩ : ∃ W0, (w.alloc (.cells #[.int .i64 (many : Int)] 3)).alloc (.cells #[.slice A zs.length c] 22) = W0 := ⟨_, rfl⟩
  rw [hW0] at bL bF hB0 hsz ⊢
  clear hW0
  have hsz1 : w.heap.size + 2 ≤ W0.heap.size := by omega
  clear hsz
  refine wpIn_rangeFunc_ownH rfl (by omega) (gf := 109) (lb := #[.pointer (some ⟨w.heap.size + 1, 0, none⟩)]) rfl trivial (enters_of Tryd.func109 (by kernel_rfl) rfl)
    (set_stops Fence.wide (8 - 1) trivial rfl (by omega) (w.heap.size + 1) w.heap.size c A zs hl W0 w (by omega) rfl hB0 (by omega) (bF.cell 0) h) belowK_t (belowK_b (by omega)) (Below.refl _ _) (fun _ => rfl)
    (fun pre W => ∃ m : Int, Hid (m = many - pre.length) ∧ 0 ≤ m ∧ m ≤ 1048576 ∧ Blk W w.heap.size 3 #[.int .i64 m] ∧ Below w.heap.size w W)
    (fun cd pre W => cd = .exit 0 ∧ pre.length = many + 1 ∧ Blk W w.heap.size 3 #[.int .i64 (-1)] ∧ Below w.heap.size w W)
    (fun _ X Y row hs hg hr => by
      obtain ⟨m, g1, g2, g3, g4, g5⟩ := hs
      exact ⟨m, g1, g2, g3, g4.aside hg hr, below_aside g5 (Nat.le_refl _) (by omega) hg hr⟩)
    (fun cd _ X Y row hs hg hr => by
      obtain ⟨g1, g2, g4, g5⟩ := hs
      exact ⟨g1, g2, g4.aside hg hr, below_aside g5 (Nat.le_refl _) (by omega) hg hr⟩)
    ⟨many, Lib.hid (by simp), by omega, by omega, bL, hB0⟩
    (fun x a' W => a' = ⟨#[Value.slice A zs.length c, Value.int IntKind.i64 ↑many, undef, undef, Value.bool false, Value.pointer (some { block := w.heap.size, off := 0 }), Value.int IntKind.i64 ↑many, Value.slice A zs.length c,
        Value.func (Fn.func 109) #[] #[Value.pointer (some { block := w.heap.size + 1, off := 0 })], .int .i64 ((x.val : Nat) : Int), undef, undef, undef, undef, undef, undef], []⟩)
    (fun x a' _ X Y row hs hg hr => hs)
    ?assign ?body ?done ?stop
  case assign =>
    rintro l pre x W K hI hK
    simp only [setV]
    gi_wp2
    exact hK _ _ (KeepsFrom.refl _ _) (Below.refl _ _) hI (by simp)
  case body =>
    rintro l pre x a' W hl' ⟨r, hr⟩ ⟨m, g1, g2, g3, g4, g5⟩ rfl hlt
    have cL := g4.cell 0
    have fL := g4.frozen 0
    simp at cL
    by_cases hm0 : m = 0
    · subst hm0
      gi_wp2
      exact ⟨(KeepsOthers.setCell _ _ _).from _, rfl, by rw [List.length_append, List.length_singleton]; have := g1.out; omega, g4.set_ 0 _, g5.setCell (Nat.le_refl _) _⟩
    · have hd : decide (m - 1 < 0) = false := by simp; omega
      gi_wp2
      exact ⟨(KeepsOthers.setCell _ _ _).from _, (Below.refl _ _).setCell (p := ⟨w.heap.size, 0, none⟩) (Nat.le_refl _) _, m - 1, Lib.hid (by rw [List.length_append, List.length_singleton]; have := g1.out; omega), by omega, by omega, g4.set_ 0 _, g5.setCell (p := ⟨w.heap.size, 0, none⟩) (Nat.le_refl _) _⟩
  case done =>
    rintro D ys W hD rfl ⟨m, g1, g2, g3, g4, g5⟩ hK
    have cL := g4.cell 0
    simp at cL
    have g5' := below_aside (B := w.heap.size) g5 (Nat.le_refl _) (Nat.le_refl _) (grownBy_putObj' W D (.deferred none)) (fun r e => by cases e; exact ⟨by omega, _, hK, rfl⟩)
    have hm' := g1.out
    rw [setF_length zs _ (Nat.le_refl _)] at hm'
    have HV := Lib.hid (show (m == 0) = decide (many = cnt zs zs.length) by rw [Bool.eq_iff_iff, beq_iff_eq, decide_eq_true_iff]; omega)
    clear hm' g1
    gi_wp2
    refine ⟨by simp, .inl ⟨_, _, rfl, run_takeDeferred hK, ?_⟩⟩
    refine ⟨.bool (m == 0), by simp [results, Tryd.f81, go_sem], ?_⟩
    exact ⟨ret_bool HV.out, g5'⟩
  case stop =>
    rintro D cd pre W hD ⟨k, hk, rfl⟩ ⟨rfl, g2, g4, g5⟩ hK
    have cL := g4.cell 0
    simp at cL
    have g5' := below_aside (B := w.heap.size) g5 (Nat.le_refl _) (Nat.le_refl _) (grownBy_putObj' W D (.deferred none)) (fun r e => by cases e; exact ⟨by omega, _, hK, rfl⟩)
    rw [setF_length zs k hk] at g2
    have HV := Lib.hid (show false = decide (many = cnt zs zs.length) by
      have := (cnt_mono zs hk).1
      rw [eq_comm, decide_eq_false_iff_not]; omega)
    clear g2
    gi_wp2
    refine ⟨by simp, .inl ⟨_, _, rfl, run_takeDeferred hK, ?_⟩⟩
    refine ⟨.bool false, by simp [results, Tryd.f81, go_sem], ?_⟩
    exact ⟨ret_bool HV.out, g5'⟩
set_option maxRecDepth 100000 in
set_option maxHeartbeats 4000000 in
theorem pack_any (A1 A2 : Option Addr) (c1 c2 : Nat) (f a : List Int) (w : World) (h1 : Sl w A1 f) (h2 : Sl w A2 a) (hc1 : f.length ≤ c1) (hc2 : a.length ≤ c2) (k1 : Ok f) (k2 : Ok a) :
    Calls Tryd.prog 42 #[.slice A1 f.length c1, .slice A2 a.length c2] w (RetL w (orL (pacE f a) (pacL f a)) (pacE f a)) := by
  have C1 : ∀ W g, Below w.heap.size w W → Blk W g 22 #[.slice A1 f.length c1, .slice A2 a.length c2] → Calls Tryd.prog 33 #[.slice (some ⟨g, 0, none⟩) 2 2] W (RetV W (.int .i64 (pacE f a))) :=
    fun W g hb hg => even2 g A1 A2 c1 c2 f a W hg (h1.step hb) (h2.step hb) hc1 hc2 k1 k2
  have bx := (Blk.new w 22 #[.slice A2 a.length c2]).alloc (.cells #[.slice A1 f.length c1, .slice A2 a.length c2] 22)
  by_cases he : pacE f a = 0
  · have hl := (lsE_ok (evE_ok he).1).1 f (by simp)
    have hl2 := (lsE_ok (evE_ok he).1).1 a (by simp)
    have E2 := Lib.hid (show a.length = f.length from (evE_ok he).2 a (by simp))
    rw [he] at C1 ⊢
    rw [orL_ok]
    have C1 := Lib.hid C1
    clear he
    refine (callsIn_wide (n := 8)).1 ?_
    refine callsIn_of_wp_marks Tryd.func42 rfl trivial ?_ rfl
    simp only [Tryd.ntmps42, List.size_toArray, List.length_cons, List.length_nil, Nat.reduceAdd, Nat.reduceSub, Array.replicate_succ, Array.replicate_zero, List.push_toArray, List.append_toArray, List.nil_append, List.cons_append]
    gi_wp2_with fail
    refine ⟨trivial, ?_⟩
    refine (callsIn_wide.2 (C1.out _ _ (al2 _ _ _) ?_)).mono ?_
    · exact Blk.at (by simp)
    rintro e w1 ⟨rfl, hB⟩
    have hB0 := below_step (al2 _ _ _) hB
    have b1 := bx.below hB bx.lt
    gi_wp2_with (refine ⟨trivial, ?_⟩; gi_at_call 82; refine (callsIn_wide.2 (set_any _ ⟨_, _, _, rfl⟩ _)).mono ?_; rintro e w' ⟨rfl, rfl⟩)
    have bP := (Blk.new w1 63 #[.slice none 0 0]).alloc (.cells #[.slice A1 f.length c1] 22)
    have bF : Blk _ (w1.heap.size + 1) _ _ := Blk.at (t := 22) (cs := #[.slice A1 f.length c1]) (show (w1.alloc (.cells #[.slice none 0 0] 63)).heap.size = w1.heap.size + 1 by simp)
    have bA := (b1.alloc (.cells #[.slice none 0 0] 63)).alloc (.cells #[.slice A1 f.length c1] 22)
    have hB2 := below_step hB0 (al2 w1 (.cells #[.slice none 0 0] 63) (.cells #[.slice A1 f.length c1] 22))
    have hsz : ((w1.alloc (.cells #[.slice none 0 0] 63)).alloc (.cells #[.slice A1 f.length c1] 22)).heap.size = w1.heap.size + 2 := by simp
    have hg0 := b1.lt
    obtain ⟨W0, hW0⟩ : ∃ W0, (w1.alloc (.cells #[.slice none 0 0] 63)).alloc (.cells #[.slice A1 f.length c1] 22) = W0 := ⟨_, rfl⟩
    rw [hW0] at bP bF bA hB2 hsz ⊢
    clear hW0
    have hsz1 : w1.heap.size + 2 ≤ W0.heap.size := by omega
    clear hsz
    refine wpIn_rangeFunc_ownH rfl (by omega) (gf := 109) (lb := #[.pointer (some ⟨w1.heap.size + 1, 0, none⟩)]) rfl trivial (enters_of Tryd.func109 (by kernel_rfl) rfl)
      (set_stops Fence.wide (8 - 1) trivial rfl (by omega) (w1.heap.size + 1) w.heap.size c1 A1 f hl W0 w (by omega) rfl hB2 (by omega) (bF.cell 0) h1) belowK_t (belowK_b (by omega)) (Below.refl _ _) (fun _ => rfl)
      (fun pre W => ∃ v, Blk W w1.heap.size 63 #[v] ∧ OwnI W w1.heap.size v (pre.map fun x => nth a x.val) ∧ Blk W w.heap.size 22 #[.slice A2 a.length c2] ∧ Below w.heap.size w W)
      (fun _ _ _ => False)
      (fun _ X Y row hs hg hr => by
        obtain ⟨v, g1, g2, g3, g4⟩ := hs
        exact ⟨v, g1.aside hg hr, g2.aside hg hr, g3.aside hg hr, below_aside g4 (Nat.le_refl _) (by omega) hg hr⟩)
      (fun _ _ _ _ _ hs _ _ => hs)
      ⟨_, bP, OwnI.nil _ _, bA, hB2⟩
      (fun x a' W => a' = ⟨#[Value.slice A1 f.length c1, Value.slice A2 a.length c2, undef,
          Value.pointer (some { block := w.heap.size, off := 0 }), Value.slice none 0 0, Value.int IntKind.i64 0,
          Value.int IntKind.i64 0, Value.pointer (some { block := w1.heap.size, off := 0 }), .int .i64 ((x.val : Nat) : Int),
          Value.slice A1 f.length c1, Value.slice A2 a.length c2,
          Value.slice (some { block := w.heap.size + 1, off := 0 }) 2 2, Value.int IntKind.i64 0,
          Value.int IntKind.i64 0, Value.bool false, undef, Value.slice A1 f.length c1,
          Value.func (Fn.func 109) #[] #[Value.pointer (some { block := w1.heap.size + 1, off := 0 })], .int .i64 ((x.val : Nat) : Int), undef,
          undef, undef, undef, undef, undef], []⟩)
      (fun x a' _ X Y row hs hg hr => hs)
      ?assign ?body ?done ?stop
    case assign =>
      rintro l pre x W K hI hK
      simp only [setV]
      gi_wp2
      exact hK _ _ (KeepsFrom.refl _ _) (Below.refl _ _) hI rfl
    case body =>
      rintro l pre x a' W hl' ⟨r, hr⟩ ⟨v, g1, g2, g3, g4⟩ rfl hlt
      have cA := g3.cell 0
      simp at cA
      have hx := x.isLt
      have hx1 : (0 : Int) ≤ (x.val : Int) := by omega
      have hx2 : (x.val : Int) < (a.length : Int) := by have := E2.out; omega
      obtain ⟨ba, oa, rfl, hba, hca⟩ := (h2.step g4).at_ (show x.val < a.length by have := E2.out; omega)
      have HA : Hid ((pre ++ [x]).map (fun x => nth a x.val) = (pre.map fun x => nth a x.val) ++ [nth a x.val]) := Lib.hid (by simp)
      obtain ⟨y, hy⟩ : ∃ y, nth a x.val = y := ⟨_, rfl⟩
      rw [hy] at hca HA
      clear hy
      have C3 := Lib.hid (add_any w1.heap.size w1.heap.size 0 63 _ v _ y W g1 rfl (by decide) g2 (by have := g1.lt; omega) (by simp; omega))
      have hsb := g1.lt
      have hne : w.heap.size ≠ w1.heap.size := by omega
      have hnr := Blk.low_row g2 (show w.heap.size < w1.heap.size by omega)
      gi_wp2_with fail
      refine ⟨trivial, ?_⟩
      refine (CallsIn.inRound l (callsIn_wide.2 C3.out)).mono ?_
      rintro e w3 ⟨⟨u, rfl⟩, v3, hA⟩
      gi_wp2
      exact ⟨hA.others.from _, hA.below _ (by omega) (by omega) (by omega), v3, hA.box, by rw [HA.out]; exact hA.own, hA.keep _ _ _ g3 hne hnr, g4.trans (hA.below _ (by omega) (by omega) (by omega))⟩
    case done =>
      rintro D ys W hD rfl ⟨v, g1, g2, g3, g4⟩ hK
      rw [setF_pack f a f.length (Nat.le_refl _)] at g2
      obtain ⟨A', c', rfl, hcc, hcm, hA', hsl⟩ := g2.form3
      have C3 := Lib.hid (result_any w1.heap.size 0 63 _ A' _ c' W g1 rfl hcc hcm hA')
      have g2' := g2.aside (grownBy_putObj' W D (.deferred none)) (B := 0) (fun r e => by cases e; exact ⟨Nat.zero_le _, _, hK, rfl⟩)
      have g4' := below_aside (B := w.heap.size) g4 (Nat.le_refl _) (Nat.le_refl _) (grownBy_putObj' W D (.deferred none)) (fun r e => by cases e; exact ⟨by omega, _, hK, rfl⟩)
      obtain ⟨A'', c'', he, _, hsl'⟩ := g2'.form
      have hAA : A'' = A' := by injection he with h1 h2 h3; exact h1.symm
      subst hAA
      clear he
      gi_wp2_with fail
      refine ⟨trivial, ?_⟩
      refine (callsIn_wide.2 C3.out).mono ?_
      rintro e w' ⟨rfl, rfl⟩
      gi_wp2
      refine ⟨by simp, .inl ⟨_, _, rfl, run_takeDeferred hK, ?_⟩⟩
      refine ⟨.tuple #[.slice A'' (pacK f a f.length).length (pacK f a f.length).length, .int .i64 0], by simp [results, Tryd.f42, go_sem], ?_⟩
      exact ⟨_, _, rfl, Nat.le_refl _, hsl', g4'⟩
    case stop =>
      rintro D c pre W _ _ h _
      exact h.elim
  · have hd : (pacE f a != 0) = true := by rw [bne_iff_ne]; exact he
    have C1 := Lib.hid C1
    have HE := Lib.hid he
    clear he bx
    go_enter Tryd.func42, Tryd.ntmps42
    go_wp2_with fail
    refine (C1.out _ _ (al2 _ _ _) ?_).mono ?_
    · exact Blk.at (by simp)
    rintro e w1 ⟨rfl, hB⟩
    have hB0 := below_step (al2 _ _ _) hB
    go_wp2
    go_ret2
    exact retL_none HE.out hB0
end Go.Proofs.YtecpanppnljkhaaDoor
