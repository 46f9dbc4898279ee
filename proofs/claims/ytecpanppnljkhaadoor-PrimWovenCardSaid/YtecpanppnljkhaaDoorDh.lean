/- Walks of prim: Put. -/
import Derived.Test.YtecpanppnljkhaaDoorDf
import Derived.Maps.OwnIn
import Derived.Maps.OwnOps
import Derived.Maps.Views
import Derived.Laws.MakeOwn
namespace Go.Proofs.YtecpanppnljkhaaDoor
set_option linter.unusedVariables false
set_option maxRecDepth 100000
open Go.RowKit Go.Shelf

/-- Block b is a map of at most n entries that holds f. -/
def MapB (W : World) (b n : Nat) (f : Int → Bool) : Prop :=
  ∃ D : DataW Unit, Maps.IsMap D ∧ W.ownsMap Tryd.prog 3 (plainElem Tryd.prog 4) b n D ∧ ∀ x, D.atKey (.int .i64 x) (.lit (.bool false)) = .lit (.bool (f x))
theorem MapB.made (w : World) : MapB (w.alloc (.map #[] 0)) w.heap.size 0 (fun _ => false) := ⟨.map [], Maps.isMap_empty, World.ownsMap_made _ _ _ _, fun _ => rfl⟩
theorem MapB.kept {w w' : World} {b n : Nat} {f : Int → Bool} {row : Option Nat} (h : MapB w b n f) (hg : w.grownBy w' row) (hne : some b ≠ row) : MapB w' b n f := by
  obtain ⟨D, h1, h2, h3⟩ := h
  exact ⟨D, h1, h2.kept hg hne, h3⟩
theorem MapB.alloc {w : World} {b n : Nat} {f : Int → Bool} (h : MapB w b n f) (o : Obj) : MapB (w.alloc o) b n f := h.kept (World.grownBy_alloc w o none) (by simp)
theorem MapB.drew {w : World} {b n : Nat} {f : Int → Bool} (h : MapB w b n f) : MapB w.drew b n f := h
theorem Full.drew {w : World} {g : Nat} {zs : List Int} (h : Full w g zs) : Full w.drew g zs := h
theorem MapB.lt {w : World} {b n : Nat} {f : Int → Bool} (h : MapB w b n f) : b < w.heap.size := by obtain ⟨D, h1, h2, h3⟩ := h; exact h2.lt
theorem int_law : Maps.Keyed Tryd.prog 3 := Maps.int_keyed Tryd.underlying3
theorem zero4 (w : World) : (zeroValue 4).run Tryd.prog w = .ok (.bool false) w := by kernel_rfl
theorem plainElem_bool_inv {H : Type} {P : Program} {e : TypeId} (he : P.underlying e = some .bool) {v : Value} {z : DataW H × List MemPlace} (h : plainElem P e v = some z) : ∃ x, v = .bool x ∧ z = (.lit (.bool x), []) := by
  unfold plainElem at h
  rw [he] at h
  cases v with
  | bool x => exact ⟨x, rfl, by simpa using h.symm⟩
  | _ => simp at h
theorem MapB.look {w : World} {b n : Nat} {f : Int → Bool} (h : MapB w b n f) (key : Int) (hk : (Lit.int .i64 key).wf = true) :
    (Instr.lookup 66 (.map (some b)) (.int .i64 key) false).run Tryd.prog w = .ok (.bool (f key)) w := by
  obtain ⟨D, h1, h2, h3⟩ := h
  obtain ⟨v, ps, hrun, hv⟩ := h2.lookup int_law Tryd.underlying66 (zero4 w) (plainElem_bool Tryd.underlying4 false) (Maps.keyOf_int_mk Tryd.underlying3 hk)
  obtain ⟨x, rfl, hz⟩ := plainElem_bool_inv Tryd.underlying4 hv
  simp only [Prod.mk.injEq] at hz
  rw [h3] at hz
  have := hz.1
  injection this with this
  injection this with this
  rw [this]
  exact hrun
theorem MapB.put {w : World} {b n : Nat} {f : Int → Bool} (h : MapB w b n f) (hn : n < maxLen) (key : Int) (hk : (Lit.int .i64 key).wf = true) :
    ∃ w', (Instr.mapUpdate 66 (.map (some b)) (.int .i64 key) (.bool true)).run Tryd.prog w = .ok () w' ∧ MapB w' b (n + 1) (fun y => if y = key then true else f y) ∧ w.grownBy w' (some b) := by
  obtain ⟨D, h1, h2, h3⟩ := h
  obtain ⟨w', hrun, ho, hg⟩ := h2.update int_law Tryd.underlying66 hn (Maps.keyOf_int_mk Tryd.underlying3 hk) (plainElem_bool Tryd.underlying4 true)
  refine ⟨w', hrun, ⟨_, h1.put _ _, ho, fun y => ?_⟩, hg⟩
  by_cases e : y = key
  · subst e
    simp only [if_true]
    exact Maps.atKey_put_same h1 (show WideAt.IsKeyLit (Lit.int .i64 y) from trivial) _ _
  · simp only [if_neg e]
    rw [Maps.atKey_put_other (by simpa using e)]
    exact h3 y
theorem run_makeMap_hint {P : Program} (t k e : TypeId) (kd : IntKind) (n : Int) (ht : P.underlying t = some (.map k e)) (w : World) :
    (Instr.makeMap t (some (.int kd n))).run P w = .ok (.map (some w.heap.size)) (w.alloc (.map #[] 0)) := by
  simp [Instr.makeMap, run_underlying ht]; rfl
def hadB (p : List Int) (k : Nat) (y : Int) : Bool := (p.take k).contains y
theorem hadB_succ (p : List Int) (k : Nat) (h : k < p.length) : (fun y => if y = nth p k then true else hadB p k y) = hadB p (k + 1) := by
  funext y
  unfold hadB
  rw [take_snoc p k h]
  by_cases e : y = nth p k
  · simp [e]
  · rw [if_neg e, Bool.eq_iff_iff]; simp [e]
theorem ordB_succ (p : List Int) (m n : Nat) : ordB p m (n + 1) = (ordB p m n && (plB (nth p n) m && !(hadB p n (nth p n)))) := rfl
theorem put_ev {a p : List Int} (h : evE [a, p] ≠ 0) : putE a p = evE [a, p] := by unfold putE; rw [if_neg h]
theorem put_trap {a p : List Int} (h : evE [a, p] = 0) (h1 : ordB p a.length p.length = false) : putE a p = 14 := by unfold putE; rw [if_pos h, h1]; rfl
theorem put_ok {a p : List Int} (h : evE [a, p] = 0) (h1 : ordB p a.length p.length = true) : putE a p = 0 := by unfold putE; rw [if_pos h, h1]; rfl
theorem word_wf {x : Int} (h : isW x) : (Lit.int .i64 x).wf = true := by
  unfold isW at h
  simp [Lit.wf, IntKind.min, IntKind.max, IntKind.signed, IntKind.bits]
  omega
set_option maxRecDepth 100000 in
set_option maxHeartbeats 4000000 in
theorem put_any (A1 A2 : Option Addr) (c1 c2 : Nat) (a p : List Int) (w : World) (h1 : Sl w A1 a) (h2 : Sl w A2 p) (hc1 : a.length ≤ c1) (hc2 : p.length ≤ c2) (k1 : Ok a) (k2 : Ok p) :
    Calls Tryd.prog 13 #[.slice A1 a.length c1, .slice A2 p.length c2] w (RetL w (orL (putE a p) (putL a p)) (putE a p)) := by
  obtain ⟨i0, hi, hz0, hz1, hz2⟩ := info_parts int_info
  have C1 : ∀ W g, Below w.heap.size w W → Blk W g 22 #[.slice A1 a.length c1, .slice A2 p.length c2] → Calls Tryd.prog 33 #[.slice (some ⟨g, 0, none⟩) 2 2] W (RetV W (.int .i64 (evE [a, p]))) :=
    fun W g hb hg => even2 g A1 A2 c1 c2 a p W hg (h1.step hb) (h2.step hb) hc1 hc2 k1 k2
  by_cases he : evE [a, p] = 0
  · have hl := (lsE_ok (evE_ok he).1).1 a (by simp)
    have hlp := (lsE_ok (evE_ok he).1).1 p (by simp)
    have E2 := Lib.hid (show p.length = a.length from (evE_ok he).2 p (by simp))
    have HW := Lib.hid ((lsE_ok (evE_ok he).1).2 p (by simp))
    have HT := Lib.hid (fun h => put_trap (a := a) (p := p) he h)
    have HO := Lib.hid (fun h => put_ok (a := a) (p := p) he h)
    rw [he] at C1
    have C1 := Lib.hid C1
    have hmm := fun W => run_makeMap_hint (P := Tryd.prog) 66 3 4 .i64 (p.length : Int) Tryd.underlying66 W
    have hmk := fun W => run_make_row (P := Tryd.prog) 63 3 i0 (.int .i64 0) Tryd.underlying63 hi hz0 hz1 rfl .i64 .i64 a.length (by rw [hz2]; omega) (by omega) W
    clear he
    go_enter Tryd.func13, Tryd.ntmps13
    go_wp2_with fail
    refine (C1.out _ _ (al1 _ _) ?_).mono ?_
    · exact Blk.at (by simp)
    rintro e w1 ⟨rfl, hB⟩
    have hB0 := below_step (al1 _ _) hB
    have mM := ((MapB.made w1).alloc (.cells (madeCells #[.int .i64 0] a.length) 3)).alloc (.cells #[.slice (some ⟨w1.heap.size + 1, 0, none⟩) a.length a.length] 63)
    have fR : Full _ (w1.heap.size + 1) (List.replicate a.length 0) := (show Full ((w1.alloc (.map #[] 0)).alloc (.cells (madeCells #[.int .i64 0] a.length) 3)) (w1.heap.size + 1) (List.replicate a.length 0) by
      have := Full.made (w1.alloc (.map #[] 0)) a.length (by unfold maxLen; omega)
      rwa [World.size_alloc] at this).alloc (.cells #[.slice (some ⟨w1.heap.size + 1, 0, none⟩) a.length a.length] 63)
    have bG : Blk _ (w1.heap.size + 1 + 1) _ _ := Blk.at (t := 63) (cs := #[.slice (some ⟨w1.heap.size + 1, 0, none⟩) a.length a.length]) (show ((w1.alloc (.map #[] 0)).alloc (.cells (madeCells #[.int .i64 0] a.length) 3)).heap.size = w1.heap.size + 1 + 1 by simp)
    have hB1 := below_step hB0 (al3 w1 (.map #[] 0) (.cells (madeCells #[.int .i64 0] a.length) 3) (.cells #[.slice (some ⟨w1.heap.size + 1, 0, none⟩) a.length a.length] 63))
    have hs1 := hB0.size
    go_wp2
    go_loopw [26] (fun i wr => ∃ k : Nat, k ≤ p.length ∧ i = .int .i64 k ∧ Hid (ordB p a.length k = true) ∧ MapB wr w1.heap.size k (hadB p k) ∧ Full wr (w1.heap.size + 1) (putK a p k) ∧ Blk wr (w1.heap.size + 1 + 1) 63 #[.slice (some ⟨w1.heap.size + 1, 0, none⟩) a.length a.length] ∧ Below w.heap.size w wr) (fun i _ => p.length - (intOf i).toNat)
    case atStart => exact ⟨0, Nat.zero_le _, rfl, Lib.hid rfl, mM, fR, bG, hB1⟩
    case round =>
      clear mM fR bG hB1 hmm hmk
      obtain ⟨k, hk, rfl, HOr, mM, fR, bG, hBr⟩ := hrel
      by_cases hlt : k < p.length
      · obtain ⟨bp, op, rfl, hbp, hcp⟩ := (h2.step hBr).at_ hlt
        obtain ⟨ba, oa, rfl, hba', hca'⟩ := h1.at_ (show k < a.length by have := E2.out; omega)
        have hca := (hBr.cell (p := ⟨ba, oa + k, none⟩) hba').trans hca'
        have k3 : (0 : Int) ≤ (k : Int) := by omega
        have k4 : (k : Int) < (p.length : Int) := by omega
        have k5 : (k : Int) < (a.length : Int) := by have := E2.out; omega
        have hwy := HW.out k hlt
        have HS := Lib.hid (ordB_succ p a.length k)
        have HK : Hid (putK a p (k + 1) = (putK a p k).set (nth p k).toNat (nth a k)) := Lib.hid rfl
        have HH := Lib.hid (hadB_succ p k hlt)
        have HL := Lib.hid (putK_length a p k)
        have C2 := isPlace_any (nth p k) (some ⟨ba, oa, none⟩) a.length c1 wr (by omega)
        obtain ⟨y, hy⟩ : ∃ y, nth p k = y := ⟨_, rfl⟩
        obtain ⟨x, hx⟩ : ∃ x, nth a k = x := ⟨_, rfl⟩
        rw [hy] at hcp hwy HS HK HH C2
        rw [hx] at hca' hca HK
        clear hy hx
        have hlook := mM.look y (word_wf hwy)
        obtain ⟨wp, hput, mM', hgp⟩ := mM.put (by unfold maxLen; omega) y (word_wf hwy)
        cases hpl : plB y a.length with
        | false =>
          rw [hpl] at C2 HS
          have C2 := Lib.hid C2
          have HE := Lib.hid (HT.out (ordB_stop (k := k + 1) (by rw [HS.out]; simp) hlt))
          clear hlook hput mM' hgp hpl
          go_wp2_with fail
          refine C2.out.mono ?_
          rintro e w' ⟨rfl, rfl⟩
          go_wp2
          go_ret2
          rw [HE.out]
          exact retL_none (by decide) hBr
        | true =>
          rw [hpl] at C2 HS
          have C2 := Lib.hid C2
          cases hhb : hadB p k y with
          | true =>
            rw [hhb] at hlook HS
            have HE := Lib.hid (HT.out (ordB_stop (k := k + 1) (by rw [HS.out]; simp) hlt))
            clear hput mM' hgp hpl hhb
            go_wp2_with fail
            refine C2.out.mono ?_
            rintro e w' ⟨rfl, rfl⟩
            go_wp2
            go_ret2
            rw [HE.out]
            exact retL_none (by decide) hBr
          | false =>
            rw [hhb] at hlook HS
            have hyb : 0 ≤ y ∧ y < a.length := by unfold plB at hpl; simpa using hpl
            obtain ⟨j, rfl⟩ : ∃ j : Nat, y = j := ⟨y.toNat, by omega⟩
            have hj : j < a.length := by omega
            have k6 : (0 : Int) ≤ (j : Int) := by omega
            have k7 : (j : Int) < (a.length : Int) := by omega
            have HN := Lib.hid (show ordB p a.length (k + 1) = true by rw [HS.out, HOr.out]; rfl)
            rw [show ((j : Nat) : Int).toNat = j by simp] at HK
            rw [HH.out] at mM'
            have fR' := fR.grown hgp (by simp)
            have bG' := bG.grown hgp (by simp; omega)
            have hBp : Below w.heap.size w wp := hBr.grown hgp (by have := hBr.size; omega) (fun k e => by cases e; omega)
            have dP := bG'.cell 0
            have dA := (hBp.cell (p := ⟨ba, oa + k, none⟩) hba').trans hca'
            have dR := fR'.cell j (by rw [HL.out]; exact hj)
            have fr := fR'.frozen j
            simp at dP
            clear hca hca' hpl hhb
            go_wp2_with fail
            refine C2.out.mono ?_
            rintro e w' ⟨rfl, rfl⟩
            go_wp2
            refine wp_region_tab (fun W => W = wp.drew) 7 (by kernel_rfl) (by kernel_rfl) rfl ?_
            simp only [List.take_succ_cons, List.take_zero, List.drop_succ_cons, List.drop_zero]
            iterate 7 ((refine wpTab_value (v := ?_) (fun W hW => ?_) ?_; rotate_left; · (subst hW; go_simp; try with_reducible rfl)); simp only [Act.put, List.setIfInBounds_toArray, List.set_cons_zero, List.set_cons_succ])
            refine wpTab_nil (fun wz hz => ?_)
            subst hz
            go_wp2
            go_roundw
            case rel => exact ⟨k + 1, by omega, by go_num, HN, (mM'.kept (grownBy_set wp ⟨w1.heap.size + 1, j, none⟩ (.int .i64 x)) (by simp)).drew, (by rw [HK.out]; exact (fR'.set_ j x).drew), (bG'.far (p := ⟨w1.heap.size + 1, j, none⟩) (by simp) _).drew, (hBp.setCell (p := ⟨w1.heap.size + 1, j, none⟩) (by show w.heap.size ≤ w1.heap.size + 1; omega) _).drew⟩
            case measure => simp [intOf]; omega
      · obtain rfl : k = p.length := by omega
        have HE := Lib.hid (HO.out HOr.out)
        have HL : Hid ((putL a p).length = a.length) := Lib.hid (putK_length a p p.length)
        have C3 := Lib.hid (result_any (w1.heap.size + 1 + 1) 0 63 _ (some ⟨w1.heap.size + 1, 0, none⟩) a.length a.length wr bG rfl (Nat.le_refl _) (by omega) (fun h => by cases h))
        have hsl := fR.sl
        go_wp2_with fail
        refine C3.out.mono ?_
        rintro e w' ⟨rfl, rfl⟩
        go_wp2
        go_ret2
        rw [HE.out, orL_ok]
        exact ⟨some ⟨w1.heap.size + 1, 0, none⟩, a.length, (by rw [HL.out]; rfl), by rw [HL.out]; exact Nat.le_refl _, hsl, hBr⟩
  · have hd : (evE [a, p] != 0) = true := by rw [bne_iff_ne]; exact he
    rw [put_ev he]
    have C1 := Lib.hid C1
    have HE := Lib.hid he
    clear he
    go_enter Tryd.func13, Tryd.ntmps13
    go_wp2_with fail
    refine (C1.out _ _ (al1 _ _) ?_).mono ?_
    · exact Blk.at (by simp)
    rintro e w1 ⟨rfl, hB⟩
    have hB0 := below_step (al1 _ _) hB
    go_wp2
    go_ret2
    exact retL_none HE.out hB0
end Go.Proofs.YtecpanppnljkhaaDoor
