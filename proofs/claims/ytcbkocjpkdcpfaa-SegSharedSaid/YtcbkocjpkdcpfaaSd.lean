/- A map of the call's own, said by what it holds at each key. -/
import Derived.Test.YtcbkocjpkdcpfaaRa
import Derived.Maps.OwnIn
import Derived.Maps.OwnOps
import Derived.Maps.Views
namespace Go.Proofs.Ytcbkocjpkdcpfaa
set_option linter.unusedVariables false
open Go.RowKit Go.Shelf

/-- Block b is a map of at most n entries that holds f. -/
def MapIs (W : World) (b n : Nat) (f : Int → Int) : Prop :=
  ∃ D : DataW Unit, Maps.IsMap D ∧ W.ownsMap Try.prog 3 (plainElem Try.prog 3) b n D ∧ ∀ x, D.atKey (.int .i64 x) (.lit (.int .i64 0)) = .lit (.int .i64 (f x))
theorem MapIs.made (w : World) : MapIs (w.alloc (.map #[] 0)) w.heap.size 0 (fun _ => 0) := ⟨.map [], Maps.isMap_empty, World.ownsMap_made _ _ _ _, fun _ => rfl⟩
theorem MapIs.kept {w w' : World} {b n : Nat} {f : Int → Int} {row : Option Nat} (h : MapIs w b n f) (hg : w.grownBy w' row) (hne : some b ≠ row) : MapIs w' b n f := by
  obtain ⟨D, h1, h2, h3⟩ := h
  exact ⟨D, h1, h2.kept hg hne, h3⟩
theorem MapIs.alloc {w : World} {b n : Nat} {f : Int → Int} (h : MapIs w b n f) (o : Obj) : MapIs (w.alloc o) b n f := h.kept (World.grownBy_alloc w o none) (by simp)
theorem MapIs.drew {w : World} {b n : Nat} {f : Int → Int} (h : MapIs w b n f) : MapIs w.drew b n f := h
theorem MapIs.lt {w : World} {b n : Nat} {f : Int → Int} (h : MapIs w b n f) : b < w.heap.size := by obtain ⟨D, h1, h2, h3⟩ := h; exact h2.lt
theorem MapIs.aside {X Y : World} {B b n : Nat} {f : Int → Int} {row : Option Nat} (h : MapIs X b n f) (hb : b < B) (hg : X.grownBy Y row) (hr : Aside B X row) : MapIs Y b n f :=
  h.kept hg (fun e => by have := (hr b e.symm).1; omega)
theorem MapIs.far {w : World} {b n : Nat} {f : Int → Int} (h : MapIs w b n f) {g o : Nat} (hne : b ≠ g) (v : Value) : MapIs (w.setCell ⟨g, o, none⟩ v) b n f :=
  h.kept (row := some g) ⟨rfl, rfl, rfl, by simp, fun k _ hk => Below.heap_setCell w ⟨g, o, none⟩ v k (fun e => hk (by rw [e]))⟩ (by simpa using hne)
theorem MapIs.not_blk {w : World} {b n : Nat} {f : Int → Int} (h : MapIs w b n f) {g : Nat} {t : TypeId} {cs : Array Value} (hg : Blk w g t cs) : b ≠ g := by
  rintro rfl
  obtain ⟨D, h1, ⟨es, ck, hh, _⟩, h3⟩ := h
  rw [show w.heap[b]? = _ from hg] at hh; cases hh
theorem int_law : Maps.Keyed Try.prog 3 := Maps.int_keyed Try.underlying3
theorem zero3 (w : World) : (zeroValue 3).run Try.prog w = .ok (.int .i64 0) w := by kernel_rfl

theorem wpListIn_look {F : Fence} {nF : Nat} {w : World} {ops : Array Oper} {rest : List Oper} {o : Oper} {a : Act} {Q : Exit → Act → World → Prop} (hg : o.guard = none) (m x : Operand) (hop : o.op = Op.lookup 58 m x false)
    (b n : Nat) (f : Int → Int) (h : MapIs w b n f) (hm : a.eval m = .map (some b)) (key : Int) (hx : a.eval x = .int .i64 key) (hk : (Lit.int .i64 key).wf = true)
    (hK : wpListIn F nF Try.prog ops Q rest (a.put o.dst (.int .i64 (f key))) w) : wpListIn F nF Try.prog ops Q (o :: rest) a w := by
  obtain ⟨D, h1, h2, h3⟩ := h
  refine wpListIn_lookup_own_int w hg m x 58 hop 3 3 .i64 int_law Try.underlying58 Try.underlying3 (zero3 w) b n D hm h2 _ _ hx (Maps.keyOf_int_mk Try.underlying3 hk) fun c hat _ => ?_
  rw [h3] at hat
  injection hat with hat
  injection hat with _ hat
  rw [← hat]
  exact hK
theorem wpListIn_put {F : Fence} {nF : Nat} {w : World} {ops : Array Oper} {rest : List Oper} {o : Oper} {a : Act} {Q : Exit → Act → World → Prop} (hg : o.guard = none) (m x v : Operand) (hop : o.op = Op.mapUpdate 58 m x v)
    (b n : Nat) (f : Int → Int) (h : MapIs w b n f) (hm : a.eval m = .map (some b)) (hn : n < maxLen) (key val : Int) (hx : a.eval x = .int .i64 key) (hv : a.eval v = .int .i64 val) (hk : (Lit.int .i64 key).wf = true) (hvw : (Lit.int .i64 val).wf = true)
    (hK : ∀ w', MapIs w' b (n + 1) (fun y => if y = key then val else f y) → w.grownBy w' (some b) → wpListIn F nF Try.prog ops Q rest (a.put o.dst undef) w') : wpListIn F nF Try.prog ops Q (o :: rest) a w := by
  obtain ⟨D, h1, h2, h3⟩ := h
  refine wpListIn_mapUpdate_own w hg m x v 58 hop 3 3 int_law Try.underlying58 _ b n D hm h2 hn _ _ _ hx hv (Maps.keyOf_int_mk Try.underlying3 hk) _ [] (plainElem_int Try.underlying3 hvw) fun w' ho hgr => ?_
  refine hK w' ⟨_, h1.put _ _, ho, fun y => ?_⟩ hgr
  by_cases e : y = key
  · subst e
    simp only [if_true]
    exact Maps.atKey_put_same h1 (show WideAt.IsKeyLit (Lit.int .i64 y) from trivial) _ _
  · simp only [if_neg e]
    rw [Maps.atKey_put_other (by simpa using e)]
    exact h3 y
theorem run_makeMap_hint {P : Program} (t k e : TypeId) (kd : IntKind) (n : Int) (ht : P.underlying t = some (.map k e)) (w : World) :
    (Instr.makeMap t (some (.int kd n))).run P w = .ok (.map (some w.heap.size)) (w.alloc (.map #[] 0)) := by
  simp [Instr.makeMap, run_underlying ht]; rfl

/-- How many of what has come begin at a place. -/
def hdF (zs : List Int) (pre : List (Fin zs.length)) (y : Int) : Int := (((pre.map fun x => psum zs x.val).count y : Nat) : Int)
theorem hdF_nil (zs : List Int) : hdF zs [] = fun _ => 0 := by funext y; simp [hdF]
theorem hdF_snoc (zs : List Int) (pre : List (Fin zs.length)) (x : Fin zs.length) : (fun y => if y = psum zs x.val then hdF zs pre (psum zs x.val) + 1 else hdF zs pre y) = hdF zs (pre ++ [x]) := by
  funext y
  unfold hdF
  rw [List.map_append, List.count_append]
  by_cases e : y = psum zs x.val
  · subst e; simp
  · have e2 : (psum zs x.val == y) = false := by rw [beq_eq_false_iff_ne]; exact fun h => e h.symm
    rw [if_neg e]; simp [List.count_cons, e2]
theorem hdF_le (zs : List Int) (pre : List (Fin zs.length)) (y : Int) : 0 ≤ hdF zs pre y ∧ hdF zs pre y ≤ pre.length := by
  unfold hdF
  have := List.count_le_length (a := y) (l := pre.map fun x => psum zs x.val)
  rw [List.length_map] at this
  omega
theorem hdF_all (zs : List Int) (y : Int) : hdF zs (List.finRange zs.length) y = (((stL zs).count y : Nat) : Int) := by
  unfold hdF; rw [finRange_map]; rfl
/-- The first k are laid, the rest is 0. -/
def partL (L : List Int) (k : Nat) : List Int := L.take k ++ List.replicate (L.length - k) 0
theorem partL_zero (L : List Int) : partL L 0 = List.replicate L.length 0 := by simp [partL]
theorem partL_all (L : List Int) : partL L L.length = L := by simp [partL]
theorem partL_length (L : List Int) (k : Nat) (h : k ≤ L.length) : (partL L k).length = L.length := by simp [partL]; omega
theorem partL_succ (L : List Int) (k : Nat) (h : k < L.length) : (partL L k).set k (nth L k) = partL L (k + 1) := by
  unfold partL
  have hl : (L.take k).length = k := by simp; omega
  rw [List.set_append_right _ _ (by omega), hl, Nat.sub_self, take_snoc L k h, show L.length - k = (L.length - (k + 1)) + 1 by omega, List.replicate_succ, List.set_cons_zero, List.append_assoc]
  rfl

attribute [local go_sem] Oper.semAt_some
set_option maxRecDepth 100000 in
set_option maxHeartbeats 2000000 in
theorem heads_any (A : Option Addr) (c : Nat) (zs : List Int) (w : World) (h : Sl w A zs) (hl : zs.length ≤ 9223372036854775807) :
    Calls Try.prog 16 #[.slice A zs.length c] w (RetL w (orL (ckE zs) (hdL zs)) (ckE zs)) := by
  obtain ⟨i0, hi, hz0, hz1, hz2⟩ := info_parts int_info
  have hmm := fun n W => run_makeMap_hint (P := Try.prog) 58 3 3 .i64 n Try.underlying58 W
  refine (callsIn_wide (n := 8)).1 ?_
  refine callsIn_of_wp_marks Try.func16 rfl trivial ?_ rfl
  simp only [Try.ntmps16, List.size_toArray, List.length_cons, List.length_nil, Nat.reduceAdd, Nat.reduceSub, Array.replicate_succ, Array.replicate_zero, List.push_toArray, List.append_toArray, List.nil_append, List.cons_append]
  by_cases he : ckE zs = 0
  · have hF := Fine.of_ck he
    have hlen := hF.len
    obtain ⟨T, hT⟩ : ∃ T : Nat, zs.sum = (T : Int) := ⟨zs.sum.toNat, by have := hF.psum zs.length (Nat.le_refl _); rw [psum_all] at this; omega⟩
    have hT1 : T ≤ 1048576 := by have := hF.sum; omega
    have C1 := check_any A c zs w h hl
    rw [he, (ck_ok he).2.2.2.2, hT] at C1
    have HE := Lib.hid he; clear he
    have HT := Lib.hid hT; clear hT
    have hmk := fun W => run_make_row (P := Try.prog) 22 3 i0 (.int .i64 0) Try.underlying22 hi hz0 hz1 rfl .i64 .i64 (T + 1) (by rw [hz2]; omega) (by omega) W
    simp only [Int.natCast_add, Int.cast_ofNat_Int] at hmk
    have hSl := h
    gi_wp2_with (first | (refine ⟨trivial, ?_⟩; gi_at_call 12; refine (callsIn_wide.2 C1).mono ?_; rintro e w1 ⟨rfl, hB1⟩; have hs1 := hB1.size) | (refine ⟨trivial, ?_⟩; gi_at_call 48; refine (callsIn_wide.2 (segments_any _ ⟨_, _, _, rfl⟩ _)).mono ?_; rintro e w' ⟨rfl, rfl⟩))
    all_goals
      have mM := ((MapIs.made w1).alloc (.cells #[.map (some w1.heap.size)] 58)).alloc (.cells #[.slice A zs.length c] 22)
      have bM := (Blk.new (w1.alloc (.map #[] 0)) 58 #[.map (some w1.heap.size)]).alloc (.cells #[.slice A zs.length c] 22)
      have bA := Blk.new ((w1.alloc (.map #[] 0)).alloc (.cells #[.map (some w1.heap.size)] 58)) 22 #[.slice A zs.length c]
      simp only [World.size_alloc] at bM bA
      have hB0 : Below w.heap.size w (((w1.alloc (.map #[] 0)).alloc (.cells #[.map (some w1.heap.size)] 58)).alloc (.cells #[.slice A zs.length c] 22)) := ((hB1.alloc hs1 _).alloc (by simp; omega) _).alloc (by simp; omega) _
      have hsz : w1.heap.size + 3 ≤ (((w1.alloc (.map #[] 0)).alloc (.cells #[.map (some w1.heap.size)] 58)).alloc (.cells #[.slice A zs.length c] 22)).heap.size := by simp
      obtain ⟨W0, hW0⟩ : ∃ W0, ((w1.alloc (.map #[] 0)).alloc (.cells #[.map (some w1.heap.size)] 58)).alloc (.cells #[.slice A zs.length c] 22) = W0 := ⟨_, rfl⟩
      rw [hW0] at mM bM bA hB0 hsz ⊢
      clear hW0 C1 hmm
      refine wpIn_rangeFunc_ownH rfl (by omega) (gf := 63) (lb := #[.pointer (some ⟨w1.heap.size + 1 + 1, 0, none⟩)]) rfl trivial (enters_of Try.func63 (by kernel_rfl) rfl)
        (segs_stops Fence.wide (8 - 1) trivial rfl (by omega) (w1.heap.size + 1 + 1) w.heap.size c A zs hF W0 w (by omega) rfl hB0 (by omega) (bA.cell 0) hSl) belowK_t (belowK_b (by omega)) (Below.refl _ _) (fun _ => rfl)
        (fun pre W => Blk W (w1.heap.size + 1) 58 #[.map (some w1.heap.size)] ∧ MapIs W w1.heap.size pre.length (hdF zs pre) ∧ Below w.heap.size w W)
        (fun _ _ _ => False)
        (fun _ X Y row hs hg hr => ⟨hs.1.aside hg hr, hs.2.1.aside (by omega) hg hr, below_aside hs.2.2 (Nat.le_refl _) (by omega) hg hr⟩)
        (fun _ _ _ _ _ hs _ _ => hs)
        ⟨bM, by rw [hdF_nil]; exact mM, hB0⟩
        (fun x a' W => ∃ (Bx : Nat) (M : Int), w1.heap.size + 1 < Bx ∧ Blk W Bx 52 #[.int .i64 (psum zs x.val), .int .i64 (nth zs x.val)] ∧ a' = ⟨#[Value.slice A zs.length c, undef, Value.slice none 0 0, Value.int IntKind.i64 0, Value.int IntKind.i64 ↑T, Value.int IntKind.i64 0, Value.pointer (some { block := w1.heap.size + 1, off := 0 }), undef, .pointer (some ⟨Bx, 0, none⟩), undef, undef, Value.tuple #[Value.int IntKind.i64 ↑T, Value.int IntKind.i64 0], Value.slice A zs.length c, Value.tuple #[Value.int IntKind.i64 ↑T, Value.int IntKind.i64 0], Value.int IntKind.i64 ↑T, Value.int IntKind.i64 0, Value.int IntKind.i64 0, Value.bool false, undef, Value.slice A zs.length c, Value.int IntKind.i64 ↑zs.length, Value.int IntKind.i64 ↑T, Value.int IntKind.i64 (↑T + 1), Value.int IntKind.i64 M, Value.map (some w1.heap.size), Value.slice A zs.length c, Value.func (Fn.func 63) #[] #[Value.pointer (some { block := w1.heap.size + 1 + 1, off := 0 })], .int .i64 x.val, .agg #[.int .i64 (psum zs x.val), .int .i64 (nth zs x.val)], undef, undef, undef, undef, undef, undef, undef, undef, undef, undef, undef, undef, undef, undef, undef, undef, undef, undef, undef, undef, undef], []⟩)
        (fun x a' _ X Y row hs hg hr => by obtain ⟨Bx, M, h1, h2, h3⟩ := hs; exact ⟨Bx, M, h1, h2.aside hg hr, h3⟩)
        ?assign ?body ?done ?stop
      case assign =>
        rintro l pre x W K ⟨i1, i2, i3⟩ hK
        have hlt := i1.lt
        simp only [segV]
        gi_wp2
        exact hK _ _ ((KeepsOthers.alloc _ _).from _) ((Below.refl _ W).alloc i3.size _) ⟨i1.alloc _, i2.alloc _, i3.alloc i3.size _⟩ ⟨W.heap.size, _, hlt, Blk.new W 52 _, rfl⟩
      case body =>
        rintro l pre x a' W hl ⟨r, hr⟩ ⟨i1, i2, i3⟩ ⟨Bx, M, hBx, bX, rfl⟩ hlt
        have c1 := i1.cell 0
        have c2 := bX.cell 0
        have hx := x.isLt
        have hp := hF.psum x.val (by omega)
        have hh := hdF_le zs pre (psum zs x.val)
        have HS := Lib.hid (hdF_snoc zs pre x)
        simp at c1 c2
        gi_wp2_with (first | (gi_at_lookup; refine wpListIn_look rfl _ _ rfl w1.heap.size pre.length _ i2 rfl _ rfl (WalkArith.wf_i64 (by omega)) ?_) | (gi_at_mapUpdate; refine wpListIn_put rfl _ _ _ rfl w1.heap.size pre.length _ i2 rfl (by unfold maxLen; omega) _ _ rfl rfl (WalkArith.wf_i64 (by omega)) (WalkArith.wf_i64 (by omega)) ?_; intro w3 i2' hgr))
        rw [HS.out] at i2'
        refine ⟨KeepsFrom.of_grownBy hgr (fun j e => by cases e; omega), (Below.refl _ W).grown hgr i3.size (fun k e => by cases e; omega), i1.grown hgr (by simp), by simpa using i2', i3.grown hgr i3.size (fun k e => by cases e; omega)⟩
      case done =>
        rintro D ys W hD rfl ⟨i1, i2, i3⟩ hK
        have c1 := i1.cell 0
        simp at c1
        have hszW := i3.size
        have hW : w1.heap.size + 1 < W.heap.size := i1.lt
        gi_wp2
        have fS := Full.made W (T + 1) (by unfold maxLen; omega)
        have hLD : (hdL zs).length = T + 1 := by unfold hdL; rw [cntL_length, HT.out]; rfl
        have mW := i2.alloc (.cells (madeCells #[.int .i64 0] (T + 1)) 3)
        have bW := i1.alloc (.cells (madeCells #[.int .i64 0] (T + 1)) 3)
        have kW : (W.alloc (.cells (madeCells #[.int .i64 0] (T + 1)) 3)).heap[D]? = some (.deferred (some [])) := (Below.heap_alloc W _ D (Array.getElem?_eq_some_iff.1 hK).1).trans hK
        have hBW := i3.alloc i3.size (.cells (madeCells #[.int .i64 0] (T + 1)) 3)
        have hDW : D < W.heap.size := (Array.getElem?_eq_some_iff.1 hK).1
        gi_loopw [39] (fun i wr => ∃ k : Nat, k ≤ T + 1 ∧ i = .int .i64 k ∧ Full wr W.heap.size (partL (hdL zs) k) ∧ MapIs wr w1.heap.size (List.finRange zs.length).length (hdF zs (List.finRange zs.length)) ∧ Blk wr (w1.heap.size + 1) 58 #[.map (some w1.heap.size)] ∧ wr.heap[D]? = some (.deferred (some [])) ∧ Below w.heap.size w wr) (fun i _ => T + 1 - (intOf i).toNat)
        case atStart => exact ⟨0, Nat.zero_le _, rfl, by rw [partL_zero, hLD]; exact fS, mW, bW, kW, hBW⟩
        case round =>
          obtain ⟨k, hk, rfl, j1, j2, j3, j4, j5⟩ := hrel
          by_cases hlt : k < T + 1
          · have c1r := j3.cell 0
            simp at c1r
            have HN := Lib.hid (show hdF zs (List.finRange zs.length) (k : Int) = nth (hdL zs) k by rw [hdF_all]; unfold hdL; rw [nth_cntL _ _ _ (by rw [HT.out]; omega)])
            have HP := Lib.hid (partL_succ (hdL zs) k (by omega))
            have c3 := j1.cell k (by rw [partL_length _ _ (by omega)]; omega)
            have f3 := j1.frozen k
            have hk1 : (0 : Int) ≤ (k : Int) := by omega
            have hk2 : (k : Int) < (T : Int) + 1 := by omega
            gi_wp2_with (gi_at_lookup; refine wpListIn_look rfl _ _ rfl w1.heap.size _ _ j2 rfl _ rfl (WalkArith.wf_i64 (by omega)) ?_; rw [HN.out])
            go_roundw
            case rel => exact ⟨k + 1, by omega, by go_num, by rw [← HP.out]; exact j1.set_ k _, j2.far (by omega) _, j3.far (p := ⟨W.heap.size, k, none⟩) (by simp; omega) _, (Below.heap_setCell _ _ _ _ (by simp; omega)).trans j4, j5.setCell (p := ⟨W.heap.size, k, none⟩) hszW _⟩
            case measure => simp [intOf]; omega
          · obtain rfl : k = T + 1 := by omega
            have HP := Lib.hid (show partL (hdL zs) (T + 1) = hdL zs by rw [← hLD, partL_all])
            rw [HP.out] at j1
            have HLD := Lib.hid hLD
            clear hLD
            gi_wp2
            refine ⟨by simp, .inl ⟨_, _, rfl, run_takeDeferred j4, ?_⟩⟩
            have j1' := j1.aside (grownBy_putObj' wr D (.deferred none)) (B := 0) (fun r e => by cases e; exact ⟨Nat.zero_le _, _, j4, rfl⟩)
            have j5' := below_aside (B := w.heap.size) j5 (Nat.le_refl _) (Nat.le_refl _) (grownBy_putObj' wr D (.deferred none)) (fun r e => by cases e; exact ⟨by have := hB0.size; omega, _, j4, rfl⟩)
            refine ⟨.tuple #[.slice (some ⟨W.heap.size, 0, none⟩) (T + 1) (T + 1), .int .i64 0], by simp [results, Try.f16, go_sem], ?_⟩
            rw [HE.out]
            exact retL_full j1' j5' HLD.out.symm
      case stop =>
        rintro D c pre W _ _ h _
        exact h.elim
  · have C1 := check_any A c zs w h hl
    have hd : (ckE zs != 0) = true := by rw [bne_iff_ne]; exact he
    have HE := Lib.hid (show orL (ckE zs) (hdL zs) = [] by simp [orL, he])
    clear he
    gi_wp2_with (refine ⟨trivial, ?_⟩; gi_at_call 12; refine (callsIn_wide.2 C1).mono ?_; rintro e w1 ⟨rfl, hB1⟩; have hs1 := hB1.size)
    refine ⟨.tuple #[.slice none 0 0, .int .i64 (ckE zs)], by simp [results, Try.f16, go_sem], ?_⟩
    rw [HE.out]
    exact retL_nil hB1
end Go.Proofs.Ytcbkocjpkdcpfaa
