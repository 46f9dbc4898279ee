/- Walks and mathematics of rank, part 26. -/
import Derived.Test.YtgicfgpemcagcaaG25
import Derived.DeepKeys4
import Derived.Maps.OwnOps
import Derived.BigQuiet
/- Walks of rank: a map whose keys are elements. -/
namespace Go.Proofs.Ytgicfgpemcagcaa
set_option linter.unusedVariables false
set_option maxRecDepth 100000
open Go.RowKit Go.Shelf
theorem all_laid : laidOutB Try.prog = true := by kernel_rfl
theorem el_law : Maps.Keyed Try.prog 72 := Maps.Keyed.of_law (deep_law_laid (m := 3) all_laid (by decide) (of_decide_eq_true (by kernel_rfl)) (by kernel_rfl) (by kernel_rfl))
def elV (s x : Int) : Value := .agg #[.int .i64 s, .int .i64 x]
def elK (s x : Int) : Lit := .string (keyBytes [.int .i64 s, .int .i64 x])
theorem el_key (s x : Int) (hs : (Lit.int .i64 s).wf = true) (hx : (Lit.int .i64 x).wf = true) : keyOf Try.prog 72 (elV s x) = some (elK s x) := by
  have h1 : Try.prog.keyType 72 = true := by kernel_rfl
  have h2 : (elV s x).formed Try.prog 72 = true := by kernel_rfl
  have h0 : 0 < Try.prog.types.size := by
    have : decide (0 < Try.prog.types.size) = true := by kernel_rfl
    exact of_decide_eq_true this
  obtain ⟨n, hn⟩ : ∃ n, Try.prog.types.size = n + 1 := ⟨_, (Nat.succ_pred_eq_of_pos h0).symm⟩
  have h3 : Try.prog.cellsOf 72 = 2 := by kernel_rfl
  have h4 : Try.prog.cellsOf 3 = 1 := by kernel_rfl
  unfold keyOf
  rw [Try.underlying72]
  simp only [h1, h2, Bool.and_self, if_true]
  have : Try.prog.keyLits (Try.prog.types.size + 1) 72 (elV s x).cells.toList = some [.int .i64 s, .int .i64 x] := by
    rw [hn]
    simp [Program.keyLits, Try.underlying72, Try.underlying3, elV, Value.cells, h3, h4, hs, hx]
  rw [this]
  rfl
theorem el_inj {s x s' x' : Int} (hs : (Lit.int .i64 s).wf = true) (hx : (Lit.int .i64 x).wf = true) (hs' : (Lit.int .i64 s').wf = true) (hx' : (Lit.int .i64 x').wf = true) (h : elK s x = elK s' x') : s = s' ∧ x = x' := by
  have e := el_law.inj (el_key s x hs hx) (by rw [h]; exact el_key s' x' hs' hx')
  unfold elV at e
  simpa using e
/-- Block b is a map of at most n entries that holds the elements f. -/
def MapE (W : World) (b n : Nat) (f : Int → Int → Bool) : Prop :=
  ∃ D : DataW Unit, Maps.IsMap D ∧ W.ownsMap Try.prog 72 (plainElem Try.prog 4) b n D ∧ ∀ s x, (Lit.int .i64 s).wf = true → (Lit.int .i64 x).wf = true → D.atKey (elK s x) (.lit (.bool false)) = .lit (.bool (f s x))
theorem MapE.made (w : World) : MapE (w.alloc (.map #[] 0)) w.heap.size 0 (fun _ _ => false) := ⟨.map [], Maps.isMap_empty, World.ownsMap_made _ _ _ _, fun _ _ _ _ => rfl⟩
theorem MapE.kept {w w' : World} {b n : Nat} {f : Int → Int → Bool} {row : Option Nat} (h : MapE w b n f) (hg : w.grownBy w' row) (hne : some b ≠ row) : MapE w' b n f := by
  obtain ⟨D, h1, h2, h3⟩ := h
  exact ⟨D, h1, h2.kept hg hne, h3⟩
theorem MapE.alloc {w : World} {b n : Nat} {f : Int → Int → Bool} (h : MapE w b n f) (o : Obj) : MapE (w.alloc o) b n f := h.kept (World.grownBy_alloc w o none) (by simp)
theorem MapE.mono {w : World} {b n n' : Nat} {f : Int → Int → Bool} (h : MapE w b n f) (hn : n ≤ n') : MapE w b n' f := by
  obtain ⟨D, h1, h2, h3⟩ := h
  exact ⟨D, h1, h2.mono hn, h3⟩
theorem MapE.lt {w : World} {b n : Nat} {f : Int → Int → Bool} (h : MapE w b n f) : b < w.heap.size := by obtain ⟨D, h1, h2, h3⟩ := h; exact h2.lt
theorem MapE.look {w : World} {b n : Nat} {f : Int → Int → Bool} (h : MapE w b n f) (s x : Int) (hs : (Lit.int .i64 s).wf = true) (hx : (Lit.int .i64 x).wf = true) :
    (Instr.lookup 78 (.map (some b)) (.agg #[.int .i64 s, .int .i64 x]) false).run Try.prog w = .ok (.bool (f s x)) w := by
  obtain ⟨D, h1, h2, h3⟩ := h
  obtain ⟨v, ps, hrun, hv⟩ := h2.lookup el_law Try.underlying78 (zero4 w) (plainElem_bool Try.underlying4 false) (el_key s x hs hx)
  obtain ⟨y, rfl, hz⟩ := plainElem_bool_inv Try.underlying4 hv
  simp only [Prod.mk.injEq] at hz
  rw [h3 s x hs hx] at hz
  have := hz.1
  injection this with this
  injection this with this
  rw [this]
  exact hrun
theorem MapE.put {w : World} {b n : Nat} {f : Int → Int → Bool} (h : MapE w b n f) (hn : n < maxLen) (s x : Int) (hs : (Lit.int .i64 s).wf = true) (hx : (Lit.int .i64 x).wf = true) :
    ∃ w', (Instr.mapUpdate 78 (.map (some b)) (.agg #[.int .i64 s, .int .i64 x]) (.bool true)).run Try.prog w = .ok () w' ∧ MapE w' b (n + 1) (fun s' x' => if s' = s ∧ x' = x then true else f s' x') ∧ w.grownBy w' (some b) := by
  obtain ⟨D, h1, h2, h3⟩ := h
  obtain ⟨w', hrun, ho, hg⟩ := h2.update el_law Try.underlying78 hn (el_key s x hs hx) (plainElem_bool Try.underlying4 true)
  refine ⟨w', hrun, ⟨_, h1.put _ _, ho, fun s' x' hs' hx' => ?_⟩, hg⟩
  show _ = DataW.lit (.bool (if s' = s ∧ x' = x then true else f s' x'))
  by_cases e : s' = s ∧ x' = x
  · obtain ⟨rfl, rfl⟩ := e
    rw [if_pos ⟨rfl, rfl⟩]
    exact Maps.atKey_put_same h1 (show WideAt.IsKeyLit (elK s' x') from trivial) _ _
  · rw [if_neg e, Maps.atKey_put_other (fun h => e (el_inj hs' hx' hs hx (by first | exact h | exact h.symm)))]
    exact h3 s' x' hs' hx'
end Go.Proofs.Ytgicfgpemcagcaa
/- Walks of rank: firsts. -/
namespace Go.Proofs.Ytgicfgpemcagcaa
set_option linter.unusedVariables false
set_option maxRecDepth 100000
open Go.RowKit Go.Shelf
/-- 'Returned two lists'. -/
def RetSS (w : World) (xs ys : List Int) (e : Ending) (w' : World) : Prop :=
  ∃ A c A' c', e = .returned (.tuple #[.slice A xs.length c, .slice A' ys.length c']) ∧ xs.length ≤ c ∧ ys.length ≤ c' ∧ Sl w' A xs ∧ Sl w' A' ys ∧ Below w.heap.size w w'
theorem OwnP.sl' {w : World} {base : Nat} {v : Value} {ps : List (Int × Int)} (h : OwnP w base v ps) : ∃ A c, v = .slice A ps.length c ∧ ps.length ≤ c ∧ SlP w A ps := by
  rcases h.form with ⟨c, rfl, rfl⟩ | ⟨g, c, rfl, hc, _, hg, hcs, _⟩
  · exact ⟨none, c, rfl, by simp, SlP.nil _ _⟩
  · exact ⟨_, c, rfl, hc, fun _ => ⟨g, 0, rfl, hg, fun j hj => by rw [Nat.zero_add]; exact hcs j hj⟩⟩
theorem hadE_zero (ps : List (Int × Int)) : hadE ps 0 = fun _ _ => false := by funext s x; simp [hadE]
theorem fC_le (ps : List (Int × Int)) (m : Nat) : ∀ (k t : Nat), t < m → 0 ≤ nth (fC ps m k) t ∧ nth (fC ps m k) t ≤ k
  | 0, t, ht => by
    show 0 ≤ nth (List.replicate m 0) t ∧ nth (List.replicate m 0) t ≤ _
    rw [nth_eq _ _ (by simpa using ht)]; simp
  | k + 1, t, ht => by
    have ih := fC_le ps m k
    show 0 ≤ nth (if nwB ps k = true then (fC ps m k).set (pth ps k).1.toNat (nth (fC ps m k) (pth ps k).1.toNat + 1) else fC ps m k) t ∧ nth (if nwB ps k = true then (fC ps m k).set (pth ps k).1.toNat (nth (fC ps m k) (pth ps k).1.toNat + 1) else fC ps m k) t ≤ ((k + 1 : Nat) : Int)
    have i1 := ih t ht
    split
    · by_cases e : (pth ps k).1.toNat = t
      · rw [e, nth_eq _ _ (by rw [List.length_set, fC_len]; exact ht), List.getElem_set_self]
        omega
      · rw [nth_eq _ _ (by rw [List.length_set, fC_len]; exact ht), List.getElem_set_ne e, ← nth_eq]
        omega
    · omega
theorem grow_set (W : World) (b i : Nat) (v : Value) : W.grownBy (W.setCell ⟨b, i, none⟩ v) (some b) :=
  ⟨rfl, rfl, rfl, (KeepsWalks.setCell W _ v).size, fun k _ hk => Below.heap_setCell _ _ _ k (fun e => hk (by rw [e]))⟩
set_option maxHeartbeats 8000000 in
theorem firsts_any (A' : Option Addr) (c base g : Nat) (eV sV : Value) (l T lens : List Int) (w : World) (hR : RowAt w base g eV sV (.slice A' lens.length c) (elL l lens) T) (hgb : base ≤ g) (hbb : base ≤ w.heap.size) (hz : Segs l lens) (hw : ∀ j, j < l.length → isW (nth l j)) :
    Calls Try.prog 65 #[.pointer (some ⟨g, 0, none⟩)] w (RetSS w (fsP l lens lens.length) (fsM l lens lens.length)) := by
  have hlen := hz.few
  have hll := hz.short
  have HN := Lib.hid (fN_all hz)
  have HC := Lib.hid (fC_all hz)
  have HPT : Hid (∀ i, i < l.length → ∃ s : Nat, pth (elL l lens) i = ((s : Int), nth l i) ∧ s < lens.length) := Lib.hid (fun i hi => by
    obtain ⟨s, h1, h2, h3⟩ := seg_of hz lens.length (Nat.le_refl _) i (by rw [hz.ofs_all]; exact hi)
    exact ⟨s, el_at hz s i h1 h2 h3, h1⟩)
  have hpsl := elL_len hz
  obtain ⟨ps, hps⟩ : ∃ ps, elL l lens = ps := ⟨_, rfl⟩
  rw [hps] at hR HN HC HPT hpsl
  clear hps hz
  obtain ⟨m, hm⟩ : ∃ m, lens.length = m := ⟨_, rfl⟩
  rw [hm] at hR HC HPT hlen HN ⊢
  clear hm
  have HPS := Lib.hid hpsl
  have HW := Lib.hid hw
  obtain ⟨AE, cE, rfl, hcE, hsE⟩ := hR.els.sl'
  obtain ⟨i0, hi, hz0, hz1, hz2⟩ := info_parts int_info
  have hmk := fun W => run_make_row (P := Try.prog) 22 3 i0 (.int .i64 0) Try.underlying22 hi hz0 hz1 rfl .i64 .i64 m (by rw [hz2]; omega) (by omega) W
  have hmm := fun W => run_makeMap (P := Try.prog) 78 W
  have hpl : ps.length ≤ 1048576 := by omega
  clear hpsl hw
  have cg0 := hR.row.cell 0
  have cg2 := hR.row.cell 2
  simp at cg0 cg2
  have hgl := hR.row.lt
  have f1 : Full ((w.alloc (.cells (madeCells #[.int .i64 0] m) 3)).alloc (.map #[] 0)) w.heap.size (List.replicate m 0) := (Full.made w m (by unfold maxLen; omega)).alloc _
  have m1 : MapE ((w.alloc (.cells (madeCells #[.int .i64 0] m) 3)).alloc (.map #[] 0)) (w.heap.size + 1) 0 (hadE ps 0) := by
    rw [hadE_zero]
    have := MapE.made (w.alloc (.cells (madeCells #[.int .i64 0] m) 3))
    rwa [World.size_alloc] at this
  have hB1 : Below w.heap.size w ((w.alloc (.cells (madeCells #[.int .i64 0] m) 3)).alloc (.map #[] 0)) := (by repeat' (first | exact Below.refl _ _ | refine Below.alloc ?_ (by (try simp); try omega) _))
  go_enter Try.func65, Try.ntmps65
  go_wp2
  obtain ⟨W1, hW1⟩ : ∃ W1, ((w.alloc (.cells (madeCells #[.int .i64 0] m) 3)).alloc (.map #[] 0)) = W1 := ⟨_, rfl⟩
  rw [hW1] at f1 m1 hB1 ⊢
  clear hW1 hmk hmm
  go_loopw [2, 19] (fun nv i wr => ∃ (k : Nat) (N C : List Int), k ≤ ps.length ∧ i = .int .i64 (k : Int) ∧ Hid (N = fN ps k) ∧ Hid (C = fC ps m k) ∧ C.length = m ∧ N.length ≤ k ∧ OwnI wr (w.heap.size + 2) nv N ∧ Full wr w.heap.size C ∧ MapE wr (w.heap.size + 1) k (hadE ps k) ∧ Below w.heap.size w wr) (fun _ i _ => ps.length - (intOf i).toNat)
  case atStart => exact ⟨0, [], List.replicate m 0, Nat.zero_le _, rfl, Lib.hid rfl, Lib.hid rfl, by simp, by simp, OwnI.nil _ _, f1, m1, hB1⟩
  case round =>
    obtain ⟨k, N, C, hk, rfl, HNk, HCk, hCl, hNl, hown, f2, m2, hB⟩ := hrel
    by_cases hkl : k < ps.length
    · obtain ⟨be, oe, rfl, hbe, hce⟩ := (hsE.step hB) (by omega)
      obtain ⟨s, hps, hsm⟩ := HPT.out k (by rw [← HPS.out]; exact hkl)
      obtain ⟨ce0, ce1⟩ := hce k hkl
      rw [hps] at ce0 ce1
      obtain ⟨x, hx⟩ : ∃ x, nth l k = x := ⟨_, rfl⟩
      have hwx : isW x := by rw [← hx]; exact HW.out k (by rw [← HPS.out]; exact hkl)
      simp only [hx] at ce0 ce1 hps
      have HPK := Lib.hid hps
      clear hce hps hx
      have g0 : (0 : Int) ≤ (k : Int) := by omega
      have g1 : (k : Int) < (ps.length : Int) := by omega
      have hws : (Lit.int .i64 (s : Int)).wf = true := by
        simp [Lit.wf, IntKind.min, IntKind.max, IntKind.signed, IntKind.bits]
        omega
      have hwx' := word_wf hwx
      have m3 := m2.alloc (.cells #[.int .i64 (s : Int), .int .i64 x] 72)
      have hlook := m3.look (s : Int) x hws hwx'
      have hhad := hadE_nw ps k hkl
      rw [HPK.out] at hhad
      simp only at hhad
      have hml := m2.lt
      have hol := hown.lt
      cases hnw : nwB ps k with
      | false =>
        rw [hhad, hnw] at hlook
        have HN1 : Hid (N = fN ps (k + 1)) := Lib.hid (by rw [HNk.out]; show _ = if nwB ps k = true then _ else _; rw [hnw]; rfl)
        have HC1 : Hid (C = fC ps m (k + 1)) := Lib.hid (by rw [HCk.out]; show _ = if nwB ps k = true then _ else _; rw [hnw]; rfl)
        have m5 := m3.mono (Nat.le_succ k)
        rw [← hadE_same ps k hkl hnw] at m5
        have hB2 := hB.alloc hB.size (.cells #[.int .i64 (s : Int), .int .i64 x] 72)
        have f3 := f2.alloc (.cells #[.int .i64 (s : Int), .int .i64 x] 72)
        have ow3 := hown.alloc (.cells #[.int .i64 (s : Int), .int .i64 x] 72)
        clear hhad hnw m3 m2
        go_wp2
        go_roundw
        case rel => exact ⟨k + 1, N, C, by omega, by go_num, HN1, HC1, hCl, by omega, ow3, f3, m5, hB2⟩
        case measure => simp [intOf]; omega
      | true =>
        rw [hhad, hnw] at hlook
        have HN1 : Hid (N ++ [(k : Int)] = fN ps (k + 1)) := Lib.hid (by rw [HNk.out]; show _ = if nwB ps k = true then _ else _; rw [hnw]; rfl)
        have HC1 : Hid (C.set s (nth C s + 1) = fC ps m (k + 1)) := Lib.hid (by rw [HCk.out]; show _ = if nwB ps k = true then _ else _; rw [hnw, HPK.out]; simp)
        have hcs := fC_le ps m k s hsm
        rw [← HCk.out] at hcs
        obtain ⟨cs, hcse⟩ : ∃ cs, nth C s = cs := ⟨_, rfl⟩
        rw [hcse] at hcs
        have HCS := Lib.hid hcse
        obtain ⟨wp, hput, m4, hgp⟩ := m3.put (by unfold maxLen; omega) (s : Int) x hws hwx'
        have hHE := hadE_succ ps k hkl
        rw [HPK.out] at hHE
        simp only at hHE
        rw [hHE] at m4
        have ow3 := (hown.alloc (.cells #[.int .i64 (s : Int), .int .i64 x] 72)).kept hgp (.inr (fun e => by have := (hol _ e).1; omega))
        have f3 := (f2.alloc (.cells #[.int .i64 (s : Int), .int .i64 x] 72)).grown hgp (by simp)
        have bx : Blk wp wr.heap.size 72 #[.int .i64 (s : Int), .int .i64 x] := (Blk.new wr _ _).grown hgp (by intro e; have := Option.some.inj e; omega)
        have hB2 : Below w.heap.size w wp := (hB.alloc hB.size (.cells #[.int .i64 (s : Int), .int .i64 x] 72)).grown hgp (by have := hB.size; simp; omega) (fun j e => by cases e; omega)
        have hszp := hgp.size
        simp at hszp
        have hol3 := ow3.lt
        have hbz := hB.size
        clear hhad hnw m3 m2 hgp hcse
        go_wp2_with (at_builtin; refine wpList_append_own _ rfl _ _ 22 rfl (w.heap.size + 2) 3 i0 (.int .i64 0) 1 8 Try.underlying22 hi hz0 hz1 hz2 rfl (by decide) _ _ _ rfl (ow3.alloc _) ⟨wp.heap.size, 0, none⟩ 1 1 [.int .i64 (k : Int)] rfl rfl (cell_one_new _ _ _) (by simp [Value.oneCell']) (by unfold maxLen; omega) (by omega) (by simp; omega) ?_; intro v' w1 hown' hgrow _; have f5 := (f3.alloc (.cells #[.int .i64 (k : Int)] 3)).grown hgrow (fun e => by have := (hol3 _ e.symm).1; omega); have m5 := (m4.alloc (.cells #[.int .i64 (k : Int)] 3)).kept hgrow (fun e => by have := (hol3 _ e.symm).1; omega); have bx5 := (bx.alloc (.cells #[.int .i64 (k : Int)] 3)).grown hgrow (fun e => by have := (hol _ e.symm).2; omega); have q1 := bx5.cell 0; have q2 := f5.cell s (by omega); have q3 := f5.frozen s; have ow5 := OwnI.snoc hown'; have hB3 : Below w.heap.size w w1 := (hB2.alloc hB2.size (.cells #[.int .i64 (k : Int)] 3)).grown hgrow (by simp; omega) (fun j e => by have := (hol3 _ e).1; omega); simp at q1; rw [HCS.out] at q2)
        refine ⟨⟨k + 1, N ++ [(k : Int)], C.set s (cs + 1), by omega, by push_cast; rfl, HN1, Lib.hid (by rw [← HCS.out]; exact HC1.out), by simpa using hCl, by simp; omega, ow5.kept (grow_set _ _ _ _) (.inr (fun e => by have := (ow5.lt _ e).1; omega)), f5.set_ s (cs + 1), m5.kept (grow_set _ _ _ _) (by simp), hB3.setCell (p := ⟨w.heap.size, s, none⟩) (Nat.le_refl _) _⟩, by simp only [intOf]; omega⟩
    · obtain rfl : k = ps.length := by omega
      have HN2 : Hid (N = fsP l lens m) := Lib.hid (by rw [HNk.out, HPS.out, HN.out])
      have HC2 : Hid (C = fsM l lens m) := Lib.hid (by rw [HCk.out, HPS.out, HC.out])
      obtain ⟨AN, cN, rfl, hcN, hsN⟩ := hown.form
      have g1 : ¬ ((ps.length : Int) < (ps.length : Int)) := by omega
      have g2 : (0 : Int) ≤ (N.length : Int) := by omega
      have g3 : (N.length : Int) ≤ (cN : Int) := by omega
      clear m2 HN HC
      go_wp2
      go_ret2
      rw [← HN2.out, ← HC2.out]
      exact ⟨AN, N.length, some ⟨w.heap.size, 0, none⟩, m, by rw [hCl]; rfl, Nat.le_refl _, by omega, hsN, f2.sl, hB⟩
set_option maxHeartbeats 2000000 in
theorem Firsts_any (A A' : Option Addr) (c cl : Nat) (l lens : List Int) (w : World) (h : Sl w A l) (hcl : l.length ≤ cl) (k : Ok l) (h' : Sl w A' lens) (hc' : lens.length ≤ c) (k' : Ok lens) :
    Calls Try.prog 31 #[.slice A l.length cl, .slice A' lens.length c] w (RetLL w (orL (sgE l lens) (fsP l lens lens.length)) (orL (sgE l lens) (fsM l lens lens.length)) (sgE l lens)) := by
  by_cases he : sgE l lens = 0
  · obtain ⟨h0, hz⟩ := sgE_ok he
    have C1 := Lib.hid (rowOf_ok A A' c cl l lens w h hcl k h' hc' k' h0 hz)
    have C2 := Lib.hid (fun (W : World) (g : Nat) (eV sV : Value) (hR : RowAt W w.heap.size g eV sV (.slice A' lens.length c) (elL l lens) (upL l.length)) (hg : w.heap.size ≤ g) (hB : Below w.heap.size w W) =>
      firsts_any A' c w.heap.size g eV sV l (upL l.length) lens W hR hg hB.size hz (sgE_words he))
    rw [he, orL_ok, orL_ok]
    clear he h0
    go_enter Try.func31, Try.ntmps31
    go_wp2_with fail
    refine C1.out.mono ?_
    rintro e w1 ⟨g, eV, sV, rfl, hg, b1, o1, o2, hB⟩
    go_wp2_with fail
    refine (C2.out w1 g eV sV ⟨b1, o1, o2⟩ hg hB).mono ?_
    rintro e w2 ⟨A3, c3, A4, c4, rfl, hc3, hc4, hs3, hs4, hB3⟩
    go_wp2
    go_ret3
    exact ⟨A3, c3, A4, c4, rfl, hc3, hc4, hs3, hs4, hB.trans (hB3.mono hB.size)⟩
  · have C1 := Lib.hid (rowOf_err A A' c cl l lens w h hcl k h' hc' k' he)
    have hd : (sgE l lens != 0) = true := by rw [bne_iff_ne]; exact he
    have HE := Lib.hid he
    clear he
    go_enter Try.func31, Try.ntmps31
    go_wp2_with fail
    refine C1.out.mono ?_
    rintro e w1 ⟨rfl, hB⟩
    go_wp2
    go_ret3
    rw [orL_err _ HE.out, orL_err _ HE.out]
    exact ⟨none, 0, none, 0, rfl, by simp, by simp, Sl.nil _ _, Sl.nil _ _, hB⟩
end Go.Proofs.Ytgicfgpemcagcaa
/- The chapter's examples: the calls at their literals; ranked. -/
namespace Go.Proofs.Ytgicfgpemcagcaa
set_option linter.unusedVariables false
set_option maxRecDepth 100000
open Go.RowKit Go.Shelf
def BEqRel (w : World) (xs ys : List Int) (s i : Value) (wr : World) : Prop :=
  ∃ (k m : Nat) (b : Bool), k ≤ xs.length ∧ i = .int .i64 k ∧ s = .bool b ∧ wr = w.drewN m ∧ (b = true → ∀ j, j < k → nth xs j = nth ys j) ∧ (b = false → xs ≠ ys)
set_option maxHeartbeats 1000000 in
theorem bequal_any (A A' : Option Addr) (c c' : Nat) (xs ys : List Int) (w : World) (hx : Sl w A xs) (hy : Sl w A' ys) (hl : xs.length ≤ 9223372036854775807) (hl' : ys.length ≤ 9223372036854775807) :
    Calls Try.prog 19 #[.slice A xs.length c, .slice A' ys.length c'] w (Drew w (.bool (decide (xs = ys)))) := by
  by_cases hlen : xs.length = ys.length
  · have hd : ((xs.length : Int) == (ys.length : Int)) = true := by rw [beq_iff_eq]; omega
    have Hlen := Lib.hid hlen; clear hlen
    go_enter Try.func19, Try.ntmps19
    go_wp2
    go_loopw [5, 6] (fun s i wr => BEqRel w xs ys s i wr) (fun s i _ => (xs.length - (intOf i).toNat))
    case atStart => exact ⟨0, 0, true, Nat.zero_le _, rfl, rfl, rfl, fun _ j hj => by omega, by simp⟩
    case round =>
      obtain ⟨k, m, b, hk, rfl, rfl, rfl, h1, h2⟩ := hrel
      cases b with
      | false =>
        have hne := h2 rfl
        have H := Lib.hid (show decide (xs = ys) = false by simpa using hne)
        clear h1 h2 hne
        go_wp2
        go_ret
        exact ⟨ret_bool H.out.symm, m, rfl⟩
      | true =>
        have ha := h1 rfl
        have H1 := Lib.hid ha
        clear h1 h2 ha
        by_cases hlt : k < xs.length
        · obtain ⟨b1, o1, rfl, hb1, hc1⟩ := hx.at_ hlt
          obtain ⟨b2, o2, rfl, hb2, hc2⟩ := hy.at_ (show k < ys.length by have := Hlen.out; omega)
          have hk1 : (0 : Int) ≤ (k : Int) := by omega
          have hk2 : (k : Int) < (xs.length : Int) := by omega
          have hk3 : (k : Int) < (ys.length : Int) := by have := Hlen.out; omega
          by_cases he : nth xs k = nth ys k
          · have hd1 : (nth xs k == nth ys k) = true := by rw [beq_iff_eq]; exact he
            have He := Lib.hid he; clear he
            go_wp2
            go_quiet (fail)
            go_wp2
            go_roundw
            case rel => exact ⟨k + 1, _, true, by omega, by go_num, rfl, by first | rfl | exact (World.drewN_drewN _ _ _).symm | (simp [World.drewN_add]; done), fun _ j hj => by
                by_cases e : j = k
                · subst e; exact He.out
                · exact H1.out j (by omega), by simp⟩
            case measure => simp [intOf]; omega
          · have hd1 : (nth xs k == nth ys k) = false := by rw [beq_eq_false_iff_ne]; exact he
            have He := Lib.hid he; clear he
            go_wp2
            go_quiet (fail)
            go_wp2
            go_roundw
            case rel => exact ⟨k + 1, _, false, by omega, by go_num, rfl, by first | rfl | exact (World.drewN_drewN _ _ _).symm | (simp [World.drewN_add]; done), by simp, fun _ e => He.out (by rw [e])⟩
            case measure => simp [intOf]; omega
        · obtain rfl : k = xs.length := by omega
          have H := Lib.hid (show decide (xs = ys) = true by simpa using eq_of_nth Hlen.out H1.out)
          go_wp2
          go_ret
          exact ⟨ret_bool H.out.symm, m, rfl⟩
  · have hd : ((xs.length : Int) == (ys.length : Int)) = false := by rw [beq_eq_false_iff_ne]; omega
    have H := Lib.hid (show decide (xs = ys) = false by simp; intro e; exact hlen (by rw [e]))
    clear hlen
    go_enter Try.func19, Try.ntmps19
    go_wp2
    go_loopw [5, 6] (fun s i wr => s = .bool false ∧ i = .int .i64 0 ∧ wr = w) (fun _ _ _ => 0)
    case atStart => exact ⟨rfl, rfl, rfl⟩
    case round =>
      obtain ⟨rfl, rfl, rfl⟩ := hrel
      go_wp2
      go_ret
      exact ⟨ret_bool H.out.symm, 0, rfl⟩
theorem Sl.lit (w : World) (zs : List Int) : Sl (w.alloc (.cells (zs.map (Value.int .i64)).toArray 3)) (some ⟨w.heap.size, 0, none⟩) zs :=
  Full.sl (show Full _ _ _ from Blk.new w 3 _)
theorem Sl.al {w : World} {A : Option Addr} {zs : List Int} (h : Sl w A zs) (o : Obj) : Sl (w.alloc o) A zs := h.below ((Below.refl w.heap.size w).alloc (Nat.le_refl _) o) (Nat.le_refl _)
theorem retL_lit {w w' : World} {zs : List Int} {er : Int} {e : Ending} (xs : List Int) (n : Nat) (h : RetL w zs er e w') (h1 : zs = xs) (h2 : er = 0) (h3 : xs.length = n) :
    ∃ A c, e = .returned (.tuple #[.slice A n c, .int .i64 0]) ∧ n ≤ c ∧ Sl w' A xs ∧ Below w.heap.size w w' := by
  subst h1; subst h2; subst h3; exact h
theorem retLL_lit {w w' : World} {zs zs' : List Int} {er : Int} {e : Ending} (xs ys : List Int) (n m : Nat) (h : RetLL w zs zs' er e w') (h1 : zs = xs) (h1' : zs' = ys) (h2 : er = 0) (h3 : xs.length = n) (h4 : ys.length = m) :
    ∃ A c A' c', e = .returned (.tuple #[.slice A n c, .slice A' m c', .int .i64 0]) ∧ Sl w' A xs ∧ Sl w' A' ys ∧ Below w.heap.size w w' := by
  subst h1; subst h1'; subst h2; subst h3; subst h4
  obtain ⟨A, c, A', c', e1, _, _, h5, h6, h7⟩ := h
  exact ⟨A, c, A', c', e1, h5, h6, h7⟩
theorem eq_lit (A A' : Option Addr) (c c' n : Nat) (zs : List Int) (w : World) (hn : zs.length = n) (hx : Sl w A zs) (hy : Sl w A' zs) (hl : zs.length ≤ 9223372036854775807) :
    Calls Try.prog 19 #[.slice A n c, .slice A' n c'] w fun e w' => e = .returned (.bool true) ∧ Below w.heap.size w w' := by
  subst hn
  refine (bequal_any A A' c c' zs zs w hx hy hl hl).mono ?_
  rintro e w' ⟨rfl, m, rfl⟩
  exact ⟨by simp, below_drewN' w m⟩
theorem Sl.lit' (w : World) (zs : List Int) (n : Nat) (cs : Array Value) (hn : n = w.heap.size) (hc : (zs.map (Value.int .i64)).toArray = cs) : Sl (w.alloc (.cells cs 3)) (some ⟨n, 0, none⟩) zs := by
  subst hn; subst hc; exact Sl.lit w zs
theorem kinv (A0 : Option Addr) (w : World) (h0 : Sl w A0 [2, 0, 1]) : Calls Try.prog 13 #[.slice A0 3 3] w fun e w' => ∃ B c, e = .returned (.tuple #[.slice B 3 c, .int .i64 0]) ∧ 3 ≤ c ∧ Sl w' B [1, 2, 0] ∧ Below w.heap.size w w' :=
  (Inverse_any A0 3 [2, 0, 1] w h0 (by unfold Ok; decide)).mono fun e w' H => retL_lit [1, 2, 0] 3 H (by kernel_rfl) (by kernel_rfl) rfl
theorem kcomp (A0 A1 : Option Addr) (w : World) (h0 : Sl w A0 [2, 0, 1]) (h1 : Sl w A1 [1, 2, 0]) : Calls Try.prog 15 #[.slice A0 3 3, .slice A1 3 3] w fun e w' => ∃ B c, e = .returned (.tuple #[.slice B 3 c, .int .i64 0]) ∧ 3 ≤ c ∧ Sl w' B [0, 1, 2] ∧ Below w.heap.size w w' :=
  (Compose_any A0 A1 3 3 [2, 0, 1] [1, 2, 0] w h0 h1 (by unfold Ok; decide) (by unfold Ok; decide)).mono fun e w' H => retL_lit [0, 1, 2] 3 H (by kernel_rfl) (by kernel_rfl) rfl
theorem ksplit (A0 A1 : Option Addr) (w : World) (h0 : Sl w A0 [1, 0, 1, 0]) (h1 : Sl w A1 [2, 2]) : Calls Try.prog 21 #[.slice A0 4 4, .slice A1 2 2] w fun e w' => ∃ B c, e = .returned (.tuple #[.slice B 4 c, .int .i64 0]) ∧ 4 ≤ c ∧ Sl w' B [1, 0, 3, 2] ∧ Below w.heap.size w w' :=
  (Split_any A0 A1 2 4 [1, 0, 1, 0] [2, 2] w h0 (by decide) (by unfold Ok; decide) h1 (by decide) (by unfold Ok; decide)).mono fun e w' H => retL_lit [1, 0, 3, 2] 4 H (by kernel_rfl) (by kernel_rfl) rfl
theorem korder (A0 A1 : Option Addr) (w : World) (h0 : Sl w A0 [5, -1, 5, 2]) (h1 : Sl w A1 [4]) : Calls Try.prog 25 #[.slice A0 4 4, .slice A1 1 1] w fun e w' => ∃ B c, e = .returned (.tuple #[.slice B 4 c, .int .i64 0]) ∧ 4 ≤ c ∧ Sl w' B [2, 0, 3, 1] ∧ Below w.heap.size w w' :=
  (Order_any A0 A1 1 4 [5, -1, 5, 2] [4] w h0 (by decide) (by unfold Ok; decide) h1 (by decide) (by unfold Ok; decide)).mono fun e w' H => retL_lit [2, 0, 3, 1] 4 H (by kernel_rfl) (by kernel_rfl) rfl
theorem kpass (A0 A1 : Option Addr) (w : World) (h0 : Sl w A0 [5, -1, 5, 2]) (h1 : Sl w A1 [4]) : Calls Try.prog 23 #[.slice A0 4 4, .slice A1 1 1, .int .i64 1] w fun e w' => ∃ B c, e = .returned (.tuple #[.slice B 4 c, .int .i64 0]) ∧ 4 ≤ c ∧ Sl w' B [1, 2, 3, 0] ∧ Below w.heap.size w w' :=
  (Passes_any A0 A1 1 4 [5, -1, 5, 2] [4] 1 w h0 (by decide) (by unfold Ok; decide) h1 (by decide) (by unfold Ok; decide)).mono fun e w' H => retL_lit [1, 2, 3, 0] 4 H (by kernel_rfl) (by kernel_rfl) rfl
theorem kmerge (A0 A1 : Option Addr) (w : World) (h0 : Sl w A0 [1, 3, 3]) (h1 : Sl w A1 [2, 3, 4]) : Calls Try.prog 27 #[.slice A0 3 3, .slice A1 3 3] w fun e w' => ∃ B c B' c', e = .returned (.tuple #[.slice B 3 c, .slice B' 3 c', .int .i64 0]) ∧ Sl w' B [0, 2, 3] ∧ Sl w' B' [1, 4, 5] ∧ Below w.heap.size w w' :=
  (Merge_any A0 A1 3 3 [1, 3, 3] [2, 3, 4] w h0 (by decide) (by unfold Ok; decide) h1 (by decide) (by unfold Ok; decide) (by decide)).mono fun e w' H => retLL_lit [0, 2, 3] [1, 4, 5] 3 3 H (by kernel_rfl) (by kernel_rfl) (by kernel_rfl) rfl rfl
theorem kranks (A0 A1 : Option Addr) (w : World) (h0 : Sl w A0 [2, 1, 4, 3, 3]) (h1 : Sl w A1 [2, 0, 3]) : Calls Try.prog 29 #[.slice A0 5 5, .slice A1 3 3] w fun e w' => ∃ B c, e = .returned (.tuple #[.slice B 5 c, .int .i64 0]) ∧ 5 ≤ c ∧ Sl w' B [1, 0, 1, 0, 0] ∧ Below w.heap.size w w' :=
  (Ranks_any A0 A1 3 5 [2, 1, 4, 3, 3] [2, 0, 3] w h0 (by decide) (by unfold Ok; decide) h1 (by decide) (by unfold Ok; decide)).mono fun e w' H => retL_lit [1, 0, 1, 0, 0] 5 H (by kernel_rfl) (by kernel_rfl) rfl
theorem kfirsts (A0 A1 : Option Addr) (w : World) (h0 : Sl w A0 [2, 1, 4, 3, 3]) (h1 : Sl w A1 [2, 0, 3]) : Calls Try.prog 31 #[.slice A0 5 5, .slice A1 3 3] w fun e w' => ∃ B c B' c', e = .returned (.tuple #[.slice B 4 c, .slice B' 3 c', .int .i64 0]) ∧ Sl w' B [0, 1, 2, 3] ∧ Sl w' B' [2, 0, 2] ∧ Below w.heap.size w w' :=
  (Firsts_any A0 A1 3 5 [2, 1, 4, 3, 3] [2, 0, 3] w h0 (by decide) (by unfold Ok; decide) h1 (by decide) (by unfold Ok; decide)).mono fun e w' H => retLL_lit [0, 1, 2, 3] [2, 0, 2] 4 3 H (by kernel_rfl) (by kernel_rfl) (by kernel_rfl) rfl rfl
theorem kchk1 (A : Option Addr) (w : World) (h : Sl w A [2, 0, 1]) : Calls Try.prog 17 #[.slice A 3 3] w fun e w' => e = .returned (.int .i64 0) ∧ Below w.heap.size w w' := by
  have H := chk_any A 3 [2, 0, 1] w h (by unfold Ok; decide)
  rw [show chE [2, 0, 1] = 0 from by kernel_rfl] at H
  exact H
theorem kchk2 (A : Option Addr) (w : World) (h : Sl w A [0, 0]) : Calls Try.prog 17 #[.slice A 2 2] w fun e w' => e = .returned (.int .i64 1) ∧ Below w.heap.size w w' := by
  have H := chk_any A 2 [0, 0] w h (by unfold Ok; decide)
  rw [show chE [0, 0] = 1 from by kernel_rfl] at H
  exact H
set_option maxHeartbeats 8000000 in
theorem ranked_any (w : World) : Calls Try.prog 20 #[] w (RetV w (.bool true)) := by
  have hBB := Below.refl w.heap.size w
  go_enter Try.func20, Try.ntmps20
  go_wp2_with fail
  have u0 : Sl (World.alloc w (.cells #[.int .i64 2, .int .i64 0, .int .i64 1] 3)) (some ⟨w.heap.size, 0, none⟩) [2, 0, 1] := Sl.lit' w [2, 0, 1] (w.heap.size) #[.int .i64 2, .int .i64 0, .int .i64 1] (by simp) rfl
  replace hBB := hBB.alloc hBB.size (.cells #[.int .i64 2, .int .i64 0, .int .i64 1] 3)
  refine (kinv _ _ u0).mono ?_
  clear u0
  rintro e w1 ⟨Ara, cra, rfl, hcra, ra, hB⟩
  replace hBB := hBB.trans (hB.mono hBB.size)
  clear hB
  go_wp2_with fail
  replace ra := ra.al (.cells #[.int .i64 2, .int .i64 0, .int .i64 1] 3)
  have u0 : Sl (World.alloc w1 (.cells #[.int .i64 2, .int .i64 0, .int .i64 1] 3)) (some ⟨w1.heap.size, 0, none⟩) [2, 0, 1] := Sl.lit' w1 [2, 0, 1] (w1.heap.size) #[.int .i64 2, .int .i64 0, .int .i64 1] (by simp) rfl
  replace hBB := hBB.alloc hBB.size (.cells #[.int .i64 2, .int .i64 0, .int .i64 1] 3)
  replace ra := ra.al (.cells #[.int .i64 1, .int .i64 2, .int .i64 0] 3)
  replace u0 := u0.al (.cells #[.int .i64 1, .int .i64 2, .int .i64 0] 3)
  have u1 : Sl (World.alloc (World.alloc w1 (.cells #[.int .i64 2, .int .i64 0, .int .i64 1] 3)) (.cells #[.int .i64 1, .int .i64 2, .int .i64 0] 3)) (some ⟨w1.heap.size + 1, 0, none⟩) [1, 2, 0] := Sl.lit' (World.alloc w1 (.cells #[.int .i64 2, .int .i64 0, .int .i64 1] 3)) [1, 2, 0] (w1.heap.size + 1) #[.int .i64 1, .int .i64 2, .int .i64 0] (by simp) rfl
  replace hBB := hBB.alloc hBB.size (.cells #[.int .i64 1, .int .i64 2, .int .i64 0] 3)
  refine (kcomp _ _ _ u0 u1).mono ?_
  clear u0
  clear u1
  rintro e w2 ⟨Arb, crb, rfl, hcrb, rb, hB⟩
  replace ra := ra.step hB
  replace hBB := hBB.trans (hB.mono hBB.size)
  clear hB
  go_wp2_with fail
  replace ra := ra.al (.cells #[.int .i64 1, .int .i64 0, .int .i64 1, .int .i64 0] 3)
  replace rb := rb.al (.cells #[.int .i64 1, .int .i64 0, .int .i64 1, .int .i64 0] 3)
  have u0 : Sl (World.alloc w2 (.cells #[.int .i64 1, .int .i64 0, .int .i64 1, .int .i64 0] 3)) (some ⟨w2.heap.size, 0, none⟩) [1, 0, 1, 0] := Sl.lit' w2 [1, 0, 1, 0] (w2.heap.size) #[.int .i64 1, .int .i64 0, .int .i64 1, .int .i64 0] (by simp) rfl
  replace hBB := hBB.alloc hBB.size (.cells #[.int .i64 1, .int .i64 0, .int .i64 1, .int .i64 0] 3)
  replace ra := ra.al (.cells #[.int .i64 2, .int .i64 2] 3)
  replace rb := rb.al (.cells #[.int .i64 2, .int .i64 2] 3)
  replace u0 := u0.al (.cells #[.int .i64 2, .int .i64 2] 3)
  have u1 : Sl (World.alloc (World.alloc w2 (.cells #[.int .i64 1, .int .i64 0, .int .i64 1, .int .i64 0] 3)) (.cells #[.int .i64 2, .int .i64 2] 3)) (some ⟨w2.heap.size + 1, 0, none⟩) [2, 2] := Sl.lit' (World.alloc w2 (.cells #[.int .i64 1, .int .i64 0, .int .i64 1, .int .i64 0] 3)) [2, 2] (w2.heap.size + 1) #[.int .i64 2, .int .i64 2] (by simp) rfl
  replace hBB := hBB.alloc hBB.size (.cells #[.int .i64 2, .int .i64 2] 3)
  refine (ksplit _ _ _ u0 u1).mono ?_
  clear u0
  clear u1
  rintro e w3 ⟨Arc, crc, rfl, hcrc, rc, hB⟩
  replace ra := ra.step hB
  replace rb := rb.step hB
  replace hBB := hBB.trans (hB.mono hBB.size)
  clear hB
  go_wp2_with fail
  replace ra := ra.al (.cells #[.int .i64 5, .int .i64 (-1), .int .i64 5, .int .i64 2] 3)
  replace rb := rb.al (.cells #[.int .i64 5, .int .i64 (-1), .int .i64 5, .int .i64 2] 3)
  replace rc := rc.al (.cells #[.int .i64 5, .int .i64 (-1), .int .i64 5, .int .i64 2] 3)
  have u0 : Sl (World.alloc w3 (.cells #[.int .i64 5, .int .i64 (-1), .int .i64 5, .int .i64 2] 3)) (some ⟨w3.heap.size, 0, none⟩) [5, -1, 5, 2] := Sl.lit' w3 [5, -1, 5, 2] (w3.heap.size) #[.int .i64 5, .int .i64 (-1), .int .i64 5, .int .i64 2] (by simp) rfl
  replace hBB := hBB.alloc hBB.size (.cells #[.int .i64 5, .int .i64 (-1), .int .i64 5, .int .i64 2] 3)
  replace ra := ra.al (.cells #[.int .i64 4] 3)
  replace rb := rb.al (.cells #[.int .i64 4] 3)
  replace rc := rc.al (.cells #[.int .i64 4] 3)
  replace u0 := u0.al (.cells #[.int .i64 4] 3)
  have u1 : Sl (World.alloc (World.alloc w3 (.cells #[.int .i64 5, .int .i64 (-1), .int .i64 5, .int .i64 2] 3)) (.cells #[.int .i64 4] 3)) (some ⟨w3.heap.size + 1, 0, none⟩) [4] := Sl.lit' (World.alloc w3 (.cells #[.int .i64 5, .int .i64 (-1), .int .i64 5, .int .i64 2] 3)) [4] (w3.heap.size + 1) #[.int .i64 4] (by simp) rfl
  replace hBB := hBB.alloc hBB.size (.cells #[.int .i64 4] 3)
  refine (korder _ _ _ u0 u1).mono ?_
  clear u0
  clear u1
  rintro e w4 ⟨Ard, crd, rfl, hcrd, rd, hB⟩
  replace ra := ra.step hB
  replace rb := rb.step hB
  replace rc := rc.step hB
  replace hBB := hBB.trans (hB.mono hBB.size)
  clear hB
  go_wp2_with fail
  replace ra := ra.al (.cells #[.int .i64 5, .int .i64 (-1), .int .i64 5, .int .i64 2] 3)
  replace rb := rb.al (.cells #[.int .i64 5, .int .i64 (-1), .int .i64 5, .int .i64 2] 3)
  replace rc := rc.al (.cells #[.int .i64 5, .int .i64 (-1), .int .i64 5, .int .i64 2] 3)
  replace rd := rd.al (.cells #[.int .i64 5, .int .i64 (-1), .int .i64 5, .int .i64 2] 3)
  have u0 : Sl (World.alloc w4 (.cells #[.int .i64 5, .int .i64 (-1), .int .i64 5, .int .i64 2] 3)) (some ⟨w4.heap.size, 0, none⟩) [5, -1, 5, 2] := Sl.lit' w4 [5, -1, 5, 2] (w4.heap.size) #[.int .i64 5, .int .i64 (-1), .int .i64 5, .int .i64 2] (by simp) rfl
  replace hBB := hBB.alloc hBB.size (.cells #[.int .i64 5, .int .i64 (-1), .int .i64 5, .int .i64 2] 3)
  replace ra := ra.al (.cells #[.int .i64 4] 3)
  replace rb := rb.al (.cells #[.int .i64 4] 3)
  replace rc := rc.al (.cells #[.int .i64 4] 3)
  replace rd := rd.al (.cells #[.int .i64 4] 3)
  replace u0 := u0.al (.cells #[.int .i64 4] 3)
  have u1 : Sl (World.alloc (World.alloc w4 (.cells #[.int .i64 5, .int .i64 (-1), .int .i64 5, .int .i64 2] 3)) (.cells #[.int .i64 4] 3)) (some ⟨w4.heap.size + 1, 0, none⟩) [4] := Sl.lit' (World.alloc w4 (.cells #[.int .i64 5, .int .i64 (-1), .int .i64 5, .int .i64 2] 3)) [4] (w4.heap.size + 1) #[.int .i64 4] (by simp) rfl
  replace hBB := hBB.alloc hBB.size (.cells #[.int .i64 4] 3)
  refine (kpass _ _ _ u0 u1).mono ?_
  clear u0
  clear u1
  rintro e w5 ⟨Are, cre, rfl, hcre, re, hB⟩
  replace ra := ra.step hB
  replace rb := rb.step hB
  replace rc := rc.step hB
  replace rd := rd.step hB
  replace hBB := hBB.trans (hB.mono hBB.size)
  clear hB
  go_wp2_with fail
  replace ra := ra.al (.cells #[.int .i64 1, .int .i64 2, .int .i64 0] 3)
  replace rb := rb.al (.cells #[.int .i64 1, .int .i64 2, .int .i64 0] 3)
  replace rc := rc.al (.cells #[.int .i64 1, .int .i64 2, .int .i64 0] 3)
  replace rd := rd.al (.cells #[.int .i64 1, .int .i64 2, .int .i64 0] 3)
  replace re := re.al (.cells #[.int .i64 1, .int .i64 2, .int .i64 0] 3)
  have z : Sl (World.alloc w5 (.cells #[.int .i64 1, .int .i64 2, .int .i64 0] 3)) (some ⟨w5.heap.size, 0, none⟩) [1, 2, 0] := Sl.lit' w5 [1, 2, 0] (w5.heap.size) #[.int .i64 1, .int .i64 2, .int .i64 0] (by simp) rfl
  replace hBB := hBB.alloc hBB.size (.cells #[.int .i64 1, .int .i64 2, .int .i64 0] 3)
  refine (eq_lit _ _ _ _ 3 [1, 2, 0] _ rfl ra z (by decide)).mono ?_
  clear z
  clear ra
  rintro e w6 ⟨rfl, hB⟩
  replace rb := rb.step hB
  replace rc := rc.step hB
  replace rd := rd.step hB
  replace re := re.step hB
  replace hBB := hBB.trans (hB.mono hBB.size)
  clear hB
  go_wp2_with fail
  replace rb := rb.al (.cells #[.int .i64 0, .int .i64 1, .int .i64 2] 3)
  replace rc := rc.al (.cells #[.int .i64 0, .int .i64 1, .int .i64 2] 3)
  replace rd := rd.al (.cells #[.int .i64 0, .int .i64 1, .int .i64 2] 3)
  replace re := re.al (.cells #[.int .i64 0, .int .i64 1, .int .i64 2] 3)
  have z : Sl (World.alloc w6 (.cells #[.int .i64 0, .int .i64 1, .int .i64 2] 3)) (some ⟨w6.heap.size, 0, none⟩) [0, 1, 2] := Sl.lit' w6 [0, 1, 2] (w6.heap.size) #[.int .i64 0, .int .i64 1, .int .i64 2] (by simp) rfl
  replace hBB := hBB.alloc hBB.size (.cells #[.int .i64 0, .int .i64 1, .int .i64 2] 3)
  refine (eq_lit _ _ _ _ 3 [0, 1, 2] _ rfl rb z (by decide)).mono ?_
  clear z
  clear rb
  rintro e w7 ⟨rfl, hB⟩
  replace rc := rc.step hB
  replace rd := rd.step hB
  replace re := re.step hB
  replace hBB := hBB.trans (hB.mono hBB.size)
  clear hB
  go_wp2_with fail
  replace rc := rc.al (.cells #[.int .i64 1, .int .i64 0, .int .i64 3, .int .i64 2] 3)
  replace rd := rd.al (.cells #[.int .i64 1, .int .i64 0, .int .i64 3, .int .i64 2] 3)
  replace re := re.al (.cells #[.int .i64 1, .int .i64 0, .int .i64 3, .int .i64 2] 3)
  have z : Sl (World.alloc w7 (.cells #[.int .i64 1, .int .i64 0, .int .i64 3, .int .i64 2] 3)) (some ⟨w7.heap.size, 0, none⟩) [1, 0, 3, 2] := Sl.lit' w7 [1, 0, 3, 2] (w7.heap.size) #[.int .i64 1, .int .i64 0, .int .i64 3, .int .i64 2] (by simp) rfl
  replace hBB := hBB.alloc hBB.size (.cells #[.int .i64 1, .int .i64 0, .int .i64 3, .int .i64 2] 3)
  refine (eq_lit _ _ _ _ 4 [1, 0, 3, 2] _ rfl rc z (by decide)).mono ?_
  clear z
  clear rc
  rintro e w8 ⟨rfl, hB⟩
  replace rd := rd.step hB
  replace re := re.step hB
  replace hBB := hBB.trans (hB.mono hBB.size)
  clear hB
  go_wp2_with fail
  replace rd := rd.al (.cells #[.int .i64 2, .int .i64 0, .int .i64 3, .int .i64 1] 3)
  replace re := re.al (.cells #[.int .i64 2, .int .i64 0, .int .i64 3, .int .i64 1] 3)
  have z : Sl (World.alloc w8 (.cells #[.int .i64 2, .int .i64 0, .int .i64 3, .int .i64 1] 3)) (some ⟨w8.heap.size, 0, none⟩) [2, 0, 3, 1] := Sl.lit' w8 [2, 0, 3, 1] (w8.heap.size) #[.int .i64 2, .int .i64 0, .int .i64 3, .int .i64 1] (by simp) rfl
  replace hBB := hBB.alloc hBB.size (.cells #[.int .i64 2, .int .i64 0, .int .i64 3, .int .i64 1] 3)
  refine (eq_lit _ _ _ _ 4 [2, 0, 3, 1] _ rfl rd z (by decide)).mono ?_
  clear z
  clear rd
  rintro e w9 ⟨rfl, hB⟩
  replace re := re.step hB
  replace hBB := hBB.trans (hB.mono hBB.size)
  clear hB
  go_wp2_with fail
  replace re := re.al (.cells #[.int .i64 1, .int .i64 2, .int .i64 3, .int .i64 0] 3)
  have z : Sl (World.alloc w9 (.cells #[.int .i64 1, .int .i64 2, .int .i64 3, .int .i64 0] 3)) (some ⟨w9.heap.size, 0, none⟩) [1, 2, 3, 0] := Sl.lit' w9 [1, 2, 3, 0] (w9.heap.size) #[.int .i64 1, .int .i64 2, .int .i64 3, .int .i64 0] (by simp) rfl
  replace hBB := hBB.alloc hBB.size (.cells #[.int .i64 1, .int .i64 2, .int .i64 3, .int .i64 0] 3)
  refine (eq_lit _ _ _ _ 4 [1, 2, 3, 0] _ rfl re z (by decide)).mono ?_
  clear z
  clear re
  rintro e w10 ⟨rfl, hB⟩
  replace hBB := hBB.trans (hB.mono hBB.size)
  clear hB
  go_wp2_with fail
  have u0 : Sl (World.alloc w10 (.cells #[.int .i64 1, .int .i64 3, .int .i64 3] 3)) (some ⟨w10.heap.size, 0, none⟩) [1, 3, 3] := Sl.lit' w10 [1, 3, 3] (w10.heap.size) #[.int .i64 1, .int .i64 3, .int .i64 3] (by simp) rfl
  replace hBB := hBB.alloc hBB.size (.cells #[.int .i64 1, .int .i64 3, .int .i64 3] 3)
  replace u0 := u0.al (.cells #[.int .i64 2, .int .i64 3, .int .i64 4] 3)
  have u1 : Sl (World.alloc (World.alloc w10 (.cells #[.int .i64 1, .int .i64 3, .int .i64 3] 3)) (.cells #[.int .i64 2, .int .i64 3, .int .i64 4] 3)) (some ⟨w10.heap.size + 1, 0, none⟩) [2, 3, 4] := Sl.lit' (World.alloc w10 (.cells #[.int .i64 1, .int .i64 3, .int .i64 3] 3)) [2, 3, 4] (w10.heap.size + 1) #[.int .i64 2, .int .i64 3, .int .i64 4] (by simp) rfl
  replace hBB := hBB.alloc hBB.size (.cells #[.int .i64 2, .int .i64 3, .int .i64 4] 3)
  refine (kmerge _ _ _ u0 u1).mono ?_
  clear u0
  clear u1
  rintro e w11 ⟨Arx, crx, Ary, cry, rfl, rx, ry, hB⟩
  replace hBB := hBB.trans (hB.mono hBB.size)
  clear hB
  go_wp2_with fail
  replace rx := rx.al (.cells #[.int .i64 2, .int .i64 1, .int .i64 4, .int .i64 3, .int .i64 3] 3)
  replace ry := ry.al (.cells #[.int .i64 2, .int .i64 1, .int .i64 4, .int .i64 3, .int .i64 3] 3)
  have u0 : Sl (World.alloc w11 (.cells #[.int .i64 2, .int .i64 1, .int .i64 4, .int .i64 3, .int .i64 3] 3)) (some ⟨w11.heap.size, 0, none⟩) [2, 1, 4, 3, 3] := Sl.lit' w11 [2, 1, 4, 3, 3] (w11.heap.size) #[.int .i64 2, .int .i64 1, .int .i64 4, .int .i64 3, .int .i64 3] (by simp) rfl
  replace hBB := hBB.alloc hBB.size (.cells #[.int .i64 2, .int .i64 1, .int .i64 4, .int .i64 3, .int .i64 3] 3)
  replace rx := rx.al (.cells #[.int .i64 2, .int .i64 0, .int .i64 3] 3)
  replace ry := ry.al (.cells #[.int .i64 2, .int .i64 0, .int .i64 3] 3)
  replace u0 := u0.al (.cells #[.int .i64 2, .int .i64 0, .int .i64 3] 3)
  have u1 : Sl (World.alloc (World.alloc w11 (.cells #[.int .i64 2, .int .i64 1, .int .i64 4, .int .i64 3, .int .i64 3] 3)) (.cells #[.int .i64 2, .int .i64 0, .int .i64 3] 3)) (some ⟨w11.heap.size + 1, 0, none⟩) [2, 0, 3] := Sl.lit' (World.alloc w11 (.cells #[.int .i64 2, .int .i64 1, .int .i64 4, .int .i64 3, .int .i64 3] 3)) [2, 0, 3] (w11.heap.size + 1) #[.int .i64 2, .int .i64 0, .int .i64 3] (by simp) rfl
  replace hBB := hBB.alloc hBB.size (.cells #[.int .i64 2, .int .i64 0, .int .i64 3] 3)
  refine (kranks _ _ _ u0 u1).mono ?_
  clear u0
  clear u1
  rintro e w12 ⟨Arl, crl, rfl, hcrl, rl, hB⟩
  replace rx := rx.step hB
  replace ry := ry.step hB
  replace hBB := hBB.trans (hB.mono hBB.size)
  clear hB
  go_wp2_with fail
  replace rx := rx.al (.cells #[.int .i64 2, .int .i64 1, .int .i64 4, .int .i64 3, .int .i64 3] 3)
  replace ry := ry.al (.cells #[.int .i64 2, .int .i64 1, .int .i64 4, .int .i64 3, .int .i64 3] 3)
  replace rl := rl.al (.cells #[.int .i64 2, .int .i64 1, .int .i64 4, .int .i64 3, .int .i64 3] 3)
  have u0 : Sl (World.alloc w12 (.cells #[.int .i64 2, .int .i64 1, .int .i64 4, .int .i64 3, .int .i64 3] 3)) (some ⟨w12.heap.size, 0, none⟩) [2, 1, 4, 3, 3] := Sl.lit' w12 [2, 1, 4, 3, 3] (w12.heap.size) #[.int .i64 2, .int .i64 1, .int .i64 4, .int .i64 3, .int .i64 3] (by simp) rfl
  replace hBB := hBB.alloc hBB.size (.cells #[.int .i64 2, .int .i64 1, .int .i64 4, .int .i64 3, .int .i64 3] 3)
  replace rx := rx.al (.cells #[.int .i64 2, .int .i64 0, .int .i64 3] 3)
  replace ry := ry.al (.cells #[.int .i64 2, .int .i64 0, .int .i64 3] 3)
  replace rl := rl.al (.cells #[.int .i64 2, .int .i64 0, .int .i64 3] 3)
  replace u0 := u0.al (.cells #[.int .i64 2, .int .i64 0, .int .i64 3] 3)
  have u1 : Sl (World.alloc (World.alloc w12 (.cells #[.int .i64 2, .int .i64 1, .int .i64 4, .int .i64 3, .int .i64 3] 3)) (.cells #[.int .i64 2, .int .i64 0, .int .i64 3] 3)) (some ⟨w12.heap.size + 1, 0, none⟩) [2, 0, 3] := Sl.lit' (World.alloc w12 (.cells #[.int .i64 2, .int .i64 1, .int .i64 4, .int .i64 3, .int .i64 3] 3)) [2, 0, 3] (w12.heap.size + 1) #[.int .i64 2, .int .i64 0, .int .i64 3] (by simp) rfl
  replace hBB := hBB.alloc hBB.size (.cells #[.int .i64 2, .int .i64 0, .int .i64 3] 3)
  refine (kfirsts _ _ _ u0 u1).mono ?_
  clear u0
  clear u1
  rintro e w13 ⟨Arm, crm, Arn, crn, rfl, rm, rn, hB⟩
  replace rx := rx.step hB
  replace ry := ry.step hB
  replace rl := rl.step hB
  replace hBB := hBB.trans (hB.mono hBB.size)
  clear hB
  go_wp2_with fail
  replace rx := rx.al (.cells #[.int .i64 0, .int .i64 2, .int .i64 3] 3)
  replace ry := ry.al (.cells #[.int .i64 0, .int .i64 2, .int .i64 3] 3)
  replace rl := rl.al (.cells #[.int .i64 0, .int .i64 2, .int .i64 3] 3)
  replace rm := rm.al (.cells #[.int .i64 0, .int .i64 2, .int .i64 3] 3)
  replace rn := rn.al (.cells #[.int .i64 0, .int .i64 2, .int .i64 3] 3)
  have z : Sl (World.alloc w13 (.cells #[.int .i64 0, .int .i64 2, .int .i64 3] 3)) (some ⟨w13.heap.size, 0, none⟩) [0, 2, 3] := Sl.lit' w13 [0, 2, 3] (w13.heap.size) #[.int .i64 0, .int .i64 2, .int .i64 3] (by simp) rfl
  replace hBB := hBB.alloc hBB.size (.cells #[.int .i64 0, .int .i64 2, .int .i64 3] 3)
  refine (eq_lit _ _ _ _ 3 [0, 2, 3] _ rfl rx z (by decide)).mono ?_
  clear z
  clear rx
  rintro e w14 ⟨rfl, hB⟩
  replace ry := ry.step hB
  replace rl := rl.step hB
  replace rm := rm.step hB
  replace rn := rn.step hB
  replace hBB := hBB.trans (hB.mono hBB.size)
  clear hB
  go_wp2_with fail
  replace ry := ry.al (.cells #[.int .i64 1, .int .i64 4, .int .i64 5] 3)
  replace rl := rl.al (.cells #[.int .i64 1, .int .i64 4, .int .i64 5] 3)
  replace rm := rm.al (.cells #[.int .i64 1, .int .i64 4, .int .i64 5] 3)
  replace rn := rn.al (.cells #[.int .i64 1, .int .i64 4, .int .i64 5] 3)
  have z : Sl (World.alloc w14 (.cells #[.int .i64 1, .int .i64 4, .int .i64 5] 3)) (some ⟨w14.heap.size, 0, none⟩) [1, 4, 5] := Sl.lit' w14 [1, 4, 5] (w14.heap.size) #[.int .i64 1, .int .i64 4, .int .i64 5] (by simp) rfl
  replace hBB := hBB.alloc hBB.size (.cells #[.int .i64 1, .int .i64 4, .int .i64 5] 3)
  refine (eq_lit _ _ _ _ 3 [1, 4, 5] _ rfl ry z (by decide)).mono ?_
  clear z
  clear ry
  rintro e w15 ⟨rfl, hB⟩
  replace rl := rl.step hB
  replace rm := rm.step hB
  replace rn := rn.step hB
  replace hBB := hBB.trans (hB.mono hBB.size)
  clear hB
  go_wp2_with fail
  replace rl := rl.al (.cells #[.int .i64 1, .int .i64 0, .int .i64 1, .int .i64 0, .int .i64 0] 3)
  replace rm := rm.al (.cells #[.int .i64 1, .int .i64 0, .int .i64 1, .int .i64 0, .int .i64 0] 3)
  replace rn := rn.al (.cells #[.int .i64 1, .int .i64 0, .int .i64 1, .int .i64 0, .int .i64 0] 3)
  have z : Sl (World.alloc w15 (.cells #[.int .i64 1, .int .i64 0, .int .i64 1, .int .i64 0, .int .i64 0] 3)) (some ⟨w15.heap.size, 0, none⟩) [1, 0, 1, 0, 0] := Sl.lit' w15 [1, 0, 1, 0, 0] (w15.heap.size) #[.int .i64 1, .int .i64 0, .int .i64 1, .int .i64 0, .int .i64 0] (by simp) rfl
  replace hBB := hBB.alloc hBB.size (.cells #[.int .i64 1, .int .i64 0, .int .i64 1, .int .i64 0, .int .i64 0] 3)
  refine (eq_lit _ _ _ _ 5 [1, 0, 1, 0, 0] _ rfl rl z (by decide)).mono ?_
  clear z
  clear rl
  rintro e w16 ⟨rfl, hB⟩
  replace rm := rm.step hB
  replace rn := rn.step hB
  replace hBB := hBB.trans (hB.mono hBB.size)
  clear hB
  go_wp2_with fail
  replace rm := rm.al (.cells #[.int .i64 0, .int .i64 1, .int .i64 2, .int .i64 3] 3)
  replace rn := rn.al (.cells #[.int .i64 0, .int .i64 1, .int .i64 2, .int .i64 3] 3)
  have z : Sl (World.alloc w16 (.cells #[.int .i64 0, .int .i64 1, .int .i64 2, .int .i64 3] 3)) (some ⟨w16.heap.size, 0, none⟩) [0, 1, 2, 3] := Sl.lit' w16 [0, 1, 2, 3] (w16.heap.size) #[.int .i64 0, .int .i64 1, .int .i64 2, .int .i64 3] (by simp) rfl
  replace hBB := hBB.alloc hBB.size (.cells #[.int .i64 0, .int .i64 1, .int .i64 2, .int .i64 3] 3)
  refine (eq_lit _ _ _ _ 4 [0, 1, 2, 3] _ rfl rm z (by decide)).mono ?_
  clear z
  clear rm
  rintro e w17 ⟨rfl, hB⟩
  replace rn := rn.step hB
  replace hBB := hBB.trans (hB.mono hBB.size)
  clear hB
  go_wp2_with fail
  replace rn := rn.al (.cells #[.int .i64 2, .int .i64 0, .int .i64 2] 3)
  have z : Sl (World.alloc w17 (.cells #[.int .i64 2, .int .i64 0, .int .i64 2] 3)) (some ⟨w17.heap.size, 0, none⟩) [2, 0, 2] := Sl.lit' w17 [2, 0, 2] (w17.heap.size) #[.int .i64 2, .int .i64 0, .int .i64 2] (by simp) rfl
  replace hBB := hBB.alloc hBB.size (.cells #[.int .i64 2, .int .i64 0, .int .i64 2] 3)
  refine (eq_lit _ _ _ _ 3 [2, 0, 2] _ rfl rn z (by decide)).mono ?_
  clear z
  clear rn
  rintro e w18 ⟨rfl, hB⟩
  replace hBB := hBB.trans (hB.mono hBB.size)
  clear hB
  go_wp2_with fail
  have z : Sl (World.alloc w18 (.cells #[.int .i64 2, .int .i64 0, .int .i64 1] 3)) (some ⟨w18.heap.size, 0, none⟩) [2, 0, 1] := Sl.lit' w18 [2, 0, 1] (w18.heap.size) #[.int .i64 2, .int .i64 0, .int .i64 1] (by simp) rfl
  replace hBB := hBB.alloc hBB.size (.cells #[.int .i64 2, .int .i64 0, .int .i64 1] 3)
  refine (kchk1 _ _ z).mono ?_
  clear z
  rintro e w19 ⟨rfl, hB⟩
  replace hBB := hBB.trans (hB.mono hBB.size)
  clear hB
  go_wp2_with fail
  have z : Sl (World.alloc w19 (.cells #[.int .i64 0, .int .i64 0] 3)) (some ⟨w19.heap.size, 0, none⟩) [0, 0] := Sl.lit' w19 [0, 0] (w19.heap.size) #[.int .i64 0, .int .i64 0] (by simp) rfl
  replace hBB := hBB.alloc hBB.size (.cells #[.int .i64 0, .int .i64 0] 3)
  refine (kchk2 _ _ z).mono ?_
  clear z
  rintro e w20 ⟨rfl, hB⟩
  replace hBB := hBB.trans (hB.mono hBB.size)
  clear hB
  go_wp2
  go_ret
  exact ⟨rfl, hBB⟩
end Go.Proofs.Ytgicfgpemcagcaa
