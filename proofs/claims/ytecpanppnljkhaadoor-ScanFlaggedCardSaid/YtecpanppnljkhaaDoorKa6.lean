/- Flags where segments begin, an array of flagged words as an argument, a law for drawn regions that store. -/
import Derived.Test.YtecpanppnljkhaaDoorKa3
import Derived.Test.YtecpanppnljkhaaDoorKa4
import Derived.Test.YtecpanppnljkhaaDoorPa
import Derived.Test.YtecpanppnljkhaaDoorRows
import Derived.Test.YtecpanppnljkhaaDoorBa
import Derived.ProofKit
import Derived.OpenShut
import Derived.Test.YtecpanppnljkhaaDoorQv
namespace Go.Proofs.YtecpanppnljkhaaDoor
set_option linter.unusedVariables false
open Go.RowKit Go.Shelf
theorem flc_snoc (ps : List (Bool × Int)) (x : Bool × Int) : flc (ps ++ [x]) = flc ps ++ [.bool x.1, .int .i64 x.2] := by simp [flc, encF]
/-- A row of flagged words of the call's own. -/
def OwnF (w : World) (base : Nat) (v : Value) (ps : List (Bool × Int)) : Prop := w.ownsRow base 49 2 v ps.length (flc ps)
theorem OwnF.alloc {w : World} {base : Nat} {v : Value} {ps : List (Bool × Int)} (h : OwnF w base v ps) (o : Obj) : OwnF (w.alloc o) base v ps := World.ownsRow.alloc h o
theorem OwnF.drew {w : World} {base : Nat} {v : Value} {ps : List (Bool × Int)} (h : OwnF w base v ps) : OwnF w.drew base v ps := h
theorem OwnF.lt {w : World} {base : Nat} {v : Value} {ps : List (Bool × Int)} (h : OwnF w base v ps) : ∀ k, v.ownBlock = some k → base ≤ k ∧ k < w.heap.size := World.ownsRow.lt h
theorem OwnF.kept {w w' : World} {base : Nat} {v : Value} {ps : List (Bool × Int)} {row : Option Nat} (h : OwnF w base v ps) (hg : w.grownBy w' row) (hne : v.ownBlock = none ∨ v.ownBlock ≠ row) : OwnF w' base v ps := World.ownsRow.kept h hg hne
theorem OwnF.snoc {w : World} {base : Nat} {v : Value} {ps : List (Bool × Int)} {a : Bool} {b : Int} (h : w.ownsRow base 49 2 v (ps.length + 1) (flc ps ++ [.bool a, .int .i64 b])) : OwnF w base v (ps ++ [(a, b)]) := by
  unfold OwnF
  rw [flc_snoc, List.length_append]
  exact h
theorem OwnF.empty (w : World) (base : Nat) (hb : base ≤ w.heap.size) : OwnF (w.alloc (.cells #[] 49)) base (.slice (some ⟨w.heap.size, 0, none⟩) 0 0) [] :=
  World.ownsRow_lit w #[] 0 hb (by simp [maxLen]) rfl
theorem OwnF.sl {w : World} {base : Nat} {v : Value} {ps : List (Bool × Int)} (h : OwnF w base v ps) : ∃ A c, v = .slice A ps.length c ∧ ps.length ≤ c ∧ SlF w A ps := by
  have hr := h
  rcases h.2 with ⟨rfl, h0⟩ | ⟨g, cap, cur, rfl, hb, hh, hnc, _⟩
  · obtain rfl := List.eq_nil_of_length_eq_zero h0
    exact ⟨none, 0, rfl, Nat.zero_le _, SlF.nil _ _⟩
  · refine ⟨_, cap, rfl, hnc, fun hl => ⟨g, 0, rfl, (hr.lt g rfl).2, fun j hj => ?_⟩⟩
    have hf := flc_at ps j hj
    have h1 := World.ownsRow.cellAt hr (j * 2) (by omega)
    have h2 := World.ownsRow.cellAt hr (j * 2 + 1) (by omega)
    rw [hf.1] at h1
    rw [hf.2] at h2
    rw [Nat.zero_add]
    exact ⟨h1, h2⟩
theorem below_appF {w wr w1 : World} {base : Nat} {v : Value} {ps : List (Bool × Int)} (hB : Below base w wr) (hb : base ≤ wr.heap.size) (h : OwnF wr base v ps) (hg : wr.grownBy w1 v.ownBlock) : Below base w w1 :=
  hB.grown hg hb (fun k e => (h.lt k e).1)

/-! ### joining -/
theorem both_jo {f : Int → Int → Int} {x : Int} (M : Mon f x) (a b : Bool × Int) (hb : isW b.2) : bothN f x a b = joF f a b := by
  obtain ⟨p, m⟩ := a
  obtain ⟨q, n⟩ := b
  unfold bothN joF
  cases q with
  | true => simp
  | false =>
    by_cases h : (p, m) = (false, x)
    · obtain ⟨rfl, rfl⟩ := Prod.mk.inj h
      simp [M.left n hb]
    · simp [h]
theorem jo_word {f : Int → Int → Int} {x : Int} (M : Mon f x) {a b : Bool × Int} (ha : isW a.2) (hb : isW b.2) : isW (joF f a b).2 := by
  unfold joF
  split
  · exact hb
  · exact M.word _ _ ha hb
theorem jE_ok {op m n : Int} (h : aB op = true) (hm : isW m) (hn : isW n) : jE op m n = 0 := by
  unfold jE
  rw [if_pos (aB_neE h), if_pos ⟨isWb_of m hm, isWb_of n hn⟩]
theorem jV_ok {op : Int} {a b : Bool × Int} (h : aB op = true) (ha : isW a.2) (hb : isW b.2) : jV op a b = joF (doN op) a b := by
  unfold jV
  rw [if_pos (jE_ok h ha hb), both_jo (mon_op h) a b hb]

/-! ### flags where segments begin -/
theorem ofs_next {Z : List Int} (hp : posB Z = true) (i : Nat) (hi : i < Z.length) : ((ofs Z (i + 1) : Nat) : Int) = ofs Z i + nth Z i ∧ 0 ≤ nth Z i := by
  have h1 := psum_mono Z hp 0 i (by omega) (by omega)
  have h4 := psum_succ Z i hi
  have h5 := posB_of hp i hi
  rw [psum_zero] at h1
  unfold ofs
  omega
theorem ofs_up {Z : List Int} (hp : posB Z = true) (i j : Nat) (hij : i ≤ j) (hj : j ≤ Z.length) : ofs Z i ≤ ofs Z j := by
  have := psum_mono Z hp i j hij hj
  unfold ofs
  omega
/-- Flags so far: of the lengths Z, and of j words more. -/
structure FLags (a Z : List Int) (F : List (Bool × Int)) (j : Nat) : Prop where
  pos : posB Z = true
  len : F.length = ofs Z Z.length + j
  old : ∀ i, i < Z.length → ∀ k : Nat, (k : Int) < nth Z i → fth F (ofs Z i + k) = (decide (k = 0), nth a (ofs Z i + k))
  now : ∀ k, k < j → fth F (ofs Z Z.length + k) = (decide (k = 0), nth a (ofs Z Z.length + k))
theorem FLags.empty (a : List Int) : FLags a [] [] 0 := ⟨rfl, rfl, fun i h => absurd h (by simp), fun k h => absurd h (by omega)⟩
theorem fth_app_eq (a : List (Bool × Int)) (x : Bool × Int) (k : Nat) (h : k = a.length) : fth (a ++ [x]) k = x := by
  subst h
  rw [fth_eq _ _ (by simp)]
  simp
theorem FLags.more {a Z : List Int} {F : List (Bool × Int)} {j : Nat} (h : FLags a Z F j) : FLags a Z (F ++ [(decide (j = 0), nth a (ofs Z Z.length + j))]) (j + 1) := by
  refine ⟨h.pos, by rw [List.length_append, h.len]; rfl, fun i hi k hk => ?_, fun k hk => ?_⟩
  · have h1 := ofs_next h.pos i hi
    have h2 := ofs_up h.pos (i + 1) Z.length (by omega) (Nat.le_refl _)
    rw [fth_app_lt _ _ _ (by rw [h.len]; omega)]
    exact h.old i hi k hk
  · by_cases e : k < j
    · rw [fth_app_lt _ _ _ (by rw [h.len]; omega)]
      exact h.now k e
    · obtain rfl : k = j := by omega
      exact fth_app_eq _ _ _ h.len.symm
theorem FLags.close {a Z : List Int} {F : List (Bool × Int)} {n : Nat} (h : FLags a Z F n) : FLags a (Z ++ [(n : Int)]) F 0 := by
  have hp : posB (Z ++ [(n : Int)]) = true := by
    have := h.pos
    unfold posB at *
    rw [List.all_append, this]
    simp
  have e0 : ∀ i, i ≤ Z.length → ofs (Z ++ [(n : Int)]) i = ofs Z i := fun i hi => ofs_app_le Z _ i hi
  have e1 : ofs (Z ++ [(n : Int)]) (Z.length + 1) = ofs Z Z.length + n := by
    have := (ofs_next hp Z.length (by simp)).1
    rw [e0 _ (Nat.le_refl _), show nth (Z ++ [(n : Int)]) Z.length = n from by rw [nth_app_ge _ _ _ (Nat.le_refl _), Nat.sub_self]; rfl] at this
    omega
  refine ⟨hp, by rw [List.length_append, List.length_singleton, e1]; exact h.len, fun i hi k hk => ?_, fun k hk => absurd hk (by omega)⟩
  rw [List.length_append, List.length_singleton] at hi
  rw [e0 i (by omega)]
  by_cases e : i < Z.length
  · rw [nth_app_lt _ _ _ e] at hk
    exact h.old i e k hk
  · obtain rfl : i = Z.length := by omega
    rw [show nth (Z ++ [(n : Int)]) Z.length = n from by rw [nth_app_ge _ _ _ (Nat.le_refl _), Nat.sub_self]; rfl] at hk
    exact h.now k (by omega)
theorem ofs_sum {Z : List Int} (hp : posB Z = true) : ((ofs Z Z.length : Nat) : Int) = Z.sum := by
  have h := psum_mono Z hp 0 Z.length (by omega) (Nat.le_refl _)
  rw [psum_zero, psum_all] at h
  unfold ofs
  rw [psum_all]
  omega
theorem FLags.segs {a Z : List Int} {F : List (Bool × Int)} (h : FLags a Z F 0) (hF : F.length = a.length) (h1 : Z.length ≤ 1048576) (h2 : a.length ≤ 1048576) : Segs a Z :=
  ⟨h.pos, h1, h2, by have := ofs_sum h.pos; have := h.len; omega⟩
/-- Each place lies in a segment. -/
theorem seg_find {l lens : List Int} (h : Segs l lens) : ∀ m, m ≤ lens.length → ∀ p, p < ofs lens m → ∃ i k, i < lens.length ∧ k < (sgL l lens i).length ∧ p = ofs lens i + k
  | 0, _, p, hp => by rw [ofs_zero] at hp; omega
  | m + 1, hm, p, hp => by
    by_cases e : p < ofs lens m
    · exact seg_find h m (by omega) p e
    · have := h.step m (by omega)
      exact ⟨m, p - ofs lens m, by omega, by rw [h.seg_length m (by omega)]; omega, by omega⟩
theorem flag_at {f : Int → Int → Int} {x : Int} (M : Mon f x) {a Z : List Int} {F : List (Bool × Int)} (hw : Wds a) (hz : Segs a Z) (h : FLags a Z F 0) (i : Nat) (hi : i < Z.length) :
    ∀ k, k < (sgL a Z i).length → scB (bothN f x) (false, x) F (ofs Z i + k + 1) = (true, scN f x (sgL a Z i) (k + 1))
  | 0, hk => by
    have hs := hz.seg_length i hi
    have e2 := h.old i hi 0 (by omega)
    show bothN f x (scB (bothN f x) (false, x) F (ofs Z i + 0)) (fth F (ofs Z i + 0)) = (true, f x (nth (sgL a Z i) 0))
    rw [e2, seg_nth _ _ _ _ hk, M.left _ (hw.at _)]
    unfold bothN
    rw [if_pos (.inr (by simp))]
    simp
  | k + 1, hk => by
    have hs := hz.seg_length i hi
    have e1 := flag_at M hw hz h i hi k (by omega)
    have e2 := h.old i hi (k + 1) (by omega)
    show bothN f x (scB (bothN f x) (false, x) F (ofs Z i + k + 1)) (fth F (ofs Z i + (k + 1))) = (true, f (scN f x (sgL a Z i) (k + 1)) (nth (sgL a Z i) (k + 1)))
    rw [e1, e2, seg_nth _ _ _ _ hk]
    unfold bothN
    rw [if_neg (by simp)]
theorem thru_at (f : Int → Int → Int) (x : Int) {a Z : List Int} (hz : Segs a Z) (i k : Nat) (hi : i < Z.length) (hk : k < (sgL a Z i).length) : nth (kpK (upL' f x) a Z Z.length) (ofs Z i + k) = scN f x (sgL a Z i) (k + 1) := by
  have hs := hz.seg_length i hi
  have h1 := hz.step i hi
  have h2 := hz.ofs_all
  rw [kp_thru f x hz _ (Nat.le_refl _), nth_mk _ _ _ (by omega), kp_ah_nth f x hz i k hi hk]
  show _ = f (scN f x (sgL a Z i) k) (nth (sgL a Z i) k)
  rw [seg_nth _ _ _ _ hk]
theorem flags_thru {f : Int → Int → Int} {x : Int} (M : Mon f x) {a Z : List Int} {F : List (Bool × Int)} (hw : Wds a) (hz : Segs a Z) (h : FLags a Z F 0) (p : Nat) (hp : p < a.length) :
    scB (bothN f x) (false, x) F (p + 1) = (true, nth (kpK (upL' f x) a Z Z.length) p) := by
  obtain ⟨i, k, hi, hk, rfl⟩ := seg_find hz Z.length (Nat.le_refl _) p (by rw [hz.ofs_all]; exact hp)
  rw [flag_at M hw hz h i hi k hk, thru_at f x hz i k hi hk]
theorem flags_words {a Z : List Int} {F : List (Bool × Int)} (hw : Wds a) (hz : Segs a Z) (h : FLags a Z F 0) : wordsF F = true := by
  rw [wordsF_iff]
  intro p hp
  obtain ⟨i, k, hi, hk, rfl⟩ := seg_find hz Z.length (Nat.le_refl _) p (by rw [h.len] at hp; omega)
  rw [h.old i hi k (by have := hz.seg_length i hi; omega)]
  exact isWb_of _ (hw.at _)
theorem fth_drop1 (l : List (Bool × Int)) (k : Nat) : fth (l.drop 1) k = fth l (k + 1) := by
  unfold fth
  rw [List.getD_eq_getElem?_getD, List.getD_eq_getElem?_getD, List.getElem?_drop, Nat.add_comm]
theorem flL_at {op : Int} {a Z : List Int} {F : List (Bool × Int)} (hB : aB op = true) (hw : Wds a) (hz : Segs a Z) (h : FLags a Z F 0) (p : Nat) (hp : p < a.length) :
    fth (flL op F) p = (true, nth (kpK (upL' (doN op) (neN op)) a Z Z.length) p) := by
  unfold flL
  have hl := hz.ofs_all
  rw [fth_drop1, fth_mkB _ _ _ (by rw [h.len]; omega)]
  exact flags_thru (mon_op hB) hw hz h p hp
theorem flE_ok {op : Int} {a Z : List Int} {F : List (Bool × Int)} (hB : aB op = true) (hw : Wds a) (hz : Segs a Z) (h : FLags a Z F 0) : flE op F = 0 := by
  unfold flE
  have hl := hz.ofs_all
  have := hz.short
  rw [if_pos (aB_neE hB), if_pos (by rw [h.len]; omega), if_pos (flags_words hw hz h)]
end Go.Proofs.YtecpanppnljkhaaDoor

namespace Go.Proofs.YtecpanppnljkhaaDoor
set_option maxRecDepth 100000
open Go.ChangeShapes Go.WideShapes Go.ChangeAt Go.RowKit
theorem c6f : Tryd.prog.cellsOf 50 = 6 := by kernel_rfl
theorem c2f : Tryd.prog.cellsOf 49 = 2 := by kernel_rfl
theorem c4b : Tryd.prog.cellsOf 4 = 1 := by kernel_rfl
theorem c3f : Tryd.prog.cellsOf 3 = 1 := by kernel_rfl
section
variable {H : Type} {enc : TypeId × Value → H} {w : World} {base : Nat} {sp : Nat → Bool} {held : Bool}
theorem trod_flag {m : Nat} {v0 v1 : Value} {y : DataW H × List MemPlace} (h : DataW.trod enc Tryd.prog w base sp held m 49 [v0, v1] = some y) :
    ∃ (b : Bool) (n : Int), v0 = .bool b ∧ v1 = .int .i64 n ∧ y = (.agg [.lit (.bool b), .lit (.int .i64 n)], []) ∧ (Lit.int .i64 n).wf = true := by
  obtain ⟨y0, y1, n, rfl, _, h0, h1⟩ := trod_struct2 Tryd.underlying49 h
  replace h0 : DataW.trod enc Tryd.prog w base sp held n 4 (([v0, v1].drop 0).take (Tryd.prog.cellsOf 4)) = some y0 := h0
  replace h1 : DataW.trod enc Tryd.prog w base sp held n 3 (([v0, v1].drop 1).take (Tryd.prog.cellsOf 3)) = some y1 := h1
  rw [c4b] at h0
  rw [c3f] at h1
  obtain ⟨b, e0, rfl⟩ := DataW.trod_bool Tryd.underlying4 h0
  obtain ⟨k, e1, rfl, wk⟩ := DataW.trod_int Tryd.underlying3 h1
  simp at e0 e1
  exact ⟨b, k, e0, e1, rfl, wk⟩
theorem open_arr3f {r : Reach} {b0 : Nat} {v : Value} {d : DataW H} {ps : List MemPlace} (hv : Value.okWide Tryd.prog w r b0 50 v) (h : DataW.Trod enc Tryd.prog w base sp held 50 v d ps) :
    ∃ (p0 p1 p2 : Bool) (x0 x1 x2 : Int), v = .agg #[.bool p0, .int .i64 x0, .bool p1, .int .i64 x1, .bool p2, .int .i64 x2] ∧ d = .agg [.agg [.lit (.bool p0), .lit (.int .i64 x0)], .agg [.lit (.bool p1), .lit (.int .i64 x1)], .agg [.lit (.bool p2), .lit (.int .i64 x2)]] ∧ ps = [] ∧ (Lit.int .i64 x0).wf = true ∧ (Lit.int .i64 x1).wf = true ∧ (Lit.int .i64 x2).wf = true := by
  have hv' : ∃ cs, v = .agg cs ∧ cs.size = Tryd.prog.cellsOf 50 ∧ Row.okWide Tryd.prog w r b0 50 cs := by
    unfold Value.okWide at hv; rw [Tryd.underlying50] at hv; exact hv
  obtain ⟨cs, rfl, hsz, _⟩ := hv'
  rw [c6f] at hsz
  obtain ⟨fuel, hf⟩ := h
  obtain ⟨xs, m, rfl, hx, hl, hn, hel⟩ := DataW.trod_array Tryd.underlying50 hf
  obtain ⟨l⟩ := cs
  match l, hsz with
  | [v0, v1, v2, v3, v4, v5], _ =>
  match xs, hn, hx with
  | [y0, y1, y2], _, hx =>
    have e0 := hel 0 (by decide)
    have e1 := hel 1 (by decide)
    have e2 := hel 2 (by decide)
    rw [c2f] at e0 e1 e2
    obtain ⟨p0, x0, rfl, rfl, rfl, w0⟩ := trod_flag (y := y0) e0
    obtain ⟨p1, x1, rfl, rfl, rfl, w1⟩ := trod_flag (y := y1) e1
    obtain ⟨p2, x2, rfl, rfl, rfl, w2⟩ := trod_flag (y := y2) e2
    simp at hx
    exact ⟨p0, p1, p2, x0, x1, x2, rfl, hx.1, hx.2, w0, w1, w2⟩
theorem shut_arr3f {p0 p1 p2 : Bool} {x0 x1 x2 : Int} (w0 : (Lit.int .i64 x0).wf = true) (w1 : (Lit.int .i64 x1).wf = true) (w2 : (Lit.int .i64 x2).wf = true) :
    DataW.Trod enc Tryd.prog w base sp held 50 (.agg #[.bool p0, .int .i64 x0, .bool p1, .int .i64 x1, .bool p2, .int .i64 x2]) (.agg [.agg [.lit (.bool p0), .lit (.int .i64 x0)], .agg [.lit (.bool p1), .lit (.int .i64 x1)], .agg [.lit (.bool p2), .lit (.int .i64 x2)]]) [] :=
  ⟨3, by simp [DataW.trod, Value.cells, Tryd.underlying50, Tryd.underlying49, Tryd.underlying3, Tryd.underlying4, c6f, c2f, c4b, c3f, w0, w1, w2, List.range_succ]⟩
end
end Go.Proofs.YtecpanppnljkhaaDoor

namespace Go.Proofs.YtecpanppnljkhaaDoor
theorem thru_segs {op : Int} (haB : aB op = true) (l lens : List Int) (n k : Nat) (hn : l.length = n) (hk : lens.length = k) (hw : Wds l) (hz : Segs l lens) (A A' : Option Addr) (c cl : Nat) (W : World) (hI : Inv W) (hA : Sl W A l) (hcl : n ≤ cl) (hA' : Sl W A' lens) (hc' : k ≤ c) :
    Calls Tryd.prog 27 #[.int .i64 op, .slice A n cl, .slice A' k c] W (RetL W (kpK (upL' (doN op) (neN op)) l lens lens.length) 0) := by
  subst hn; subst hk
  have := through_any op A A' c cl l lens W hI hA hcl (by have := hz.short; unfold Ok; omega) hA' hc' (by have := hz.few; unfold Ok; omega)
  rw [fsE_good haB hw hz, orL_ok] at this
  exact this
end Go.Proofs.YtecpanppnljkhaaDoor

namespace Go.Proofs.YtecpanppnljkhaaDoor
open Go Go.RowKit
section
variable {P : Program} {Q : Exit → Act → World → Prop}
/-- An operation goes on without a value, or with one. -/
def Steps3 (P : Program) (o : Oper) (a : Act) (w : World) (R : Value → World → Prop) : Prop :=
  (∃ w', (execOp a.eval o).run P w = .ok .skip w' ∧ R undef w') ∨ Steps' P o a w R
theorem Steps3.wp {o : Oper} {a : Act} {w : World} {R : Value → World → Prop} (h : Steps3 P o a w R) {K : Act → World → Prop} (hK : ∀ v w', R v w' → K (a.put o.dst v) w') : o.wp P a w K Q := by
  rcases h with ⟨w', h, hr⟩ | h
  · unfold Oper.wp
    rw [h]
    exact hK undef w' hr
  · exact h.wp hK
def owS (l : List Oper) (n : Nat) : Bool :=
  Region.noSelect l.toArray &&
  ((List.range l.length).all fun k => match l[k]? with
    | some o => notDefer o && (o.after.all fun e => !Region.binds .any e || decide (e.on < k)) &&
      (match o.guard with | some (j, _) => Region.waitsFor .any l.toArray k j && (dstAt l j).isSome | none => true) &&
      (match o.dst with | some t => decide (t < n) && !(o.looksAt l.toArray).contains t | none => true) &&
      ((List.range l.length).all fun j => j == k || match dstAt l j with
        | some t => (dstAt l k != some t) && (!(o.looksAt l.toArray).contains t || Region.waitsFor .any l.toArray k j)
        | none => true)
    | none => false)
/-- Between the operations. -/
structure SwInv (B : Nat) (R : Nat → Value → World → Prop) (S : Array Bool → Act → World → Prop) (l : List Oper) (w0 : World) (a0 : Act) (listed : Array Bool) (a : Act) (W : World) : Prop where
  size : listed.size = l.length
  near : ∀ j, listed.getD j false = true → ∀ t, dstAt l j = some t → R j (a.tmps.getD t undef) W
  far : ∀ t, (∀ j, listed.getD j false = true → dstAt l j ≠ some t) → a.tmps[t]? = a0.tmps[t]?
  tsize : a.tmps.size = a0.tmps.size
  defers : a.defers = a0.defers
  base : Below B w0 W
  side : S listed a W
theorem wpAny_sw {B : Nat} {l : List Oper} {R : Nat → Value → World → Prop} {S : Array Bool → Act → World → Prop} {w0 : World} {a0 : Act} (hB : owS l a0.tmps.size = true)
    (hmono : ∀ k v W W', R k v W → Below B W W' → R k v W')
    (hguard : ∀ (k : Nat) (o : Oper) (j : Nat) (b : Bool), l[k]? = some o → o.guard = some (j, b) → ∀ v W, R j v W → v = .bool b)
    (hstep : ∀ (k : Nat) (o : Oper), l[k]? = some o → ∀ (listed : Array Bool) (a : Act) (W : World), listed.size = l.length → listed.getD k false = false → (∀ j, Region.waitsFor .any l.toArray k j = true → listed.getD j false = true) → a.tmps.size = a0.tmps.size → Below B w0 W → a.defers = a0.defers →
      (∀ j t, dstAt l j = some t → listed.getD j false = true → R j (a.tmps.getD t undef) W) → (∀ t, (∀ j, dstAt l j ≠ some t) → a.tmps.getD t undef = a0.tmps.getD t undef) → S listed a W →
      Steps3 P o a W (fun v W' => Below B W W' ∧ R k v W' ∧ S (listed.setIfInBounds k true) (a.put o.dst v) W'))
    (hQ : ∀ listed a W, (∀ j, j < l.length → listed.getD j false = true) → Below B w0 W → (∀ k t, dstAt l k = some t → R k (a.tmps.getD t undef) W) → (∀ t, (∀ j, dstAt l j ≠ some t) → a.tmps[t]? = a0.tmps[t]?) → a.tmps.size = a0.tmps.size → a.defers = a0.defers → S listed a W → Q .normal a W) :
    ∀ (fuel : Nat) (listed : Array Bool) (a : Act) (W : World), listed.toList.count false = fuel → SwInv B R S l w0 a0 listed a W → wpAny P .any l.toArray Q fuel listed a W := by
  simp only [owS, Bool.and_eq_true] at hB
  obtain ⟨hsel, hall⟩ := hB
  have hk : ∀ k, k < l.length → ∃ o, l[k]? = some o ∧ (∀ e ∈ o.after, Region.binds .any e = true → e.on < k) ∧ (∀ j b, o.guard = some (j, b) → Region.waitsFor .any l.toArray k j = true ∧ (dstAt l j).isSome = true) ∧
      (∀ t, o.dst = some t → t < a0.tmps.size ∧ ¬ t ∈ o.looksAt l.toArray) ∧ ∀ j, j < l.length → j ≠ k → ∀ t, dstAt l j = some t → dstAt l k ≠ some t ∧ (t ∈ o.looksAt l.toArray → Region.waitsFor .any l.toArray k j = true) := by
    intro k hkn
    have := List.all_eq_true.1 hall k (List.mem_range.2 hkn)
    cases ho : l[k]? with
    | none => rw [ho] at this; simp at this
    | some o =>
      rw [ho] at this
      simp only [Bool.and_eq_true] at this
      obtain ⟨⟨⟨⟨_, h2⟩, h3⟩, h4⟩, h5⟩ := this
      refine ⟨o, rfl, fun e he hb => by have h6 := Array.all_eq_true_iff_forall_mem.1 h2 e he; rw [hb] at h6; simpa using h6, fun j b hg => ?_, fun t ht => ?_, fun j hj hjk t ht => ?_⟩
      · rw [hg] at h3; simpa using h3
      · rw [ht] at h4
        simp only [Bool.and_eq_true, decide_eq_true_eq, Bool.not_eq_true'] at h4
        exact ⟨h4.1, fun hm => by rw [List.contains_iff_mem.2 hm] at h4; exact absurd h4.2 (by decide)⟩
      · have h6 := List.all_eq_true.1 h5 j (List.mem_range.2 hj)
        simp only [Bool.or_eq_true, beq_iff_eq, hjk, false_or, ht, Bool.and_eq_true, bne_iff_ne, ne_eq, Bool.not_eq_true'] at h6
        refine ⟨h6.1, fun hm => ?_⟩
        rcases h6.2 with h7 | h7
        · rw [List.contains_iff_mem.2 hm] at h7; cases h7
        · exact h7
  have dlt : ∀ j t, dstAt l j = some t → j < l.length := fun j t h => by
    rcases Nat.lt_or_ge j l.length with h1 | h1
    · exact h1
    · unfold dstAt at h; rw [List.getElem?_eq_none h1] at h; cases h
  have hdone : ∀ (listed : Array Bool) (a : Act) (W : World), SwInv B R S l w0 a0 listed a W → (∀ j, j < l.length → listed.getD j false = true) → Q .normal a W := fun listed a W inv hd =>
    hQ listed a W hd inv.base (fun k t ht => inv.near k (hd k (dlt k t ht)) t ht) (fun t hno => inv.far t fun j _ => hno j) inv.tsize inv.defers inv.side
  have hready : ∀ (listed : Array Bool), listed.size = l.length → Region.ready .any l.toArray listed = [] → ∀ j, j < l.length → listed.getD j false = true := by
    intro listed hs h0
    have : ∀ d j, j ≤ d → j < l.length → listed.getD j false = true := by
      intro d
      induction d with
      | zero =>
        intro j hjd hj
        obtain rfl : j = 0 := by omega
        cases hx : listed.getD 0 false with
        | true => rfl
        | false =>
          obtain ⟨o, ho, h2, _⟩ := hk 0 hj
          have : 0 ∈ Region.ready .any l.toArray listed := mem_ready.2 ⟨getD_in (by omega) hx, o, by simpa using ho, fun e he hb => by have := h2 e he hb; omega⟩
          rw [h0] at this; cases this
      | succ d ihd =>
        intro j hjd hj
        by_cases hjd' : j ≤ d
        · exact ihd j hjd' hj
        · cases hx : listed.getD j false with
          | true => rfl
          | false =>
            obtain ⟨o, ho, h2, _⟩ := hk j hj
            have : j ∈ Region.ready .any l.toArray listed := mem_ready.2 ⟨getD_in (by omega) hx, o, by simpa using ho, fun e he hb => by have := h2 e he hb; exact ihd e.on (by omega) (by omega)⟩
            rw [h0] at this; cases this
    exact fun j hj => this j j (Nat.le_refl _) hj
  intro fuel
  induction fuel with
  | zero =>
    intro listed a W hc inv
    have hd : ∀ j, j < l.length → listed.getD j false = true := fun j hj => by
      cases hx : listed.getD j false with
      | true => rfl
      | false =>
        have hlt : j < listed.size := by rw [inv.size]; exact hj
        have hm : false ∈ listed.toList := by
          have e : listed[j] = false := by simpa [Array.getD_eq_getD_getElem?, hlt] using hx
          rw [← e]; exact Array.mem_toList_iff.2 (Array.getElem_mem hlt)
        have := List.count_pos_iff.2 hm
        omega
    refine ⟨?_, hdone listed a W inv hd⟩
    refine List.eq_nil_iff_forall_not_mem.2 fun i hi => ?_
    obtain ⟨hun, o, ho, _⟩ := mem_ready.1 hi
    have hi' : i < l.length := by
      have := (Array.getElem?_eq_some_iff.1 ho).1
      simpa using this
    have := getD_both hun
    rw [hd i hi'] at this; cases this
  | succ fuel ih =>
    intro listed a W hc inv
    refine ⟨fun h0 => hdone listed a W inv (hready listed inv.size h0), fun i hi => ?_⟩
    obtain ⟨hun, o, hoi, hafter⟩ := mem_ready.1 hi
    have hin : i < l.length := by
      have := (Array.getElem?_eq_some_iff.1 hoi).1
      simpa using this
    obtain ⟨o', ho, h2, hg, hdst, h3⟩ := hk i hin
    obtain rfl : o' = o := by
      have : l.toArray[i]? = some o' := by simpa using ho
      exact Option.some.inj (this.symm.trans hoi)
    have hunl : listed.getD i false = false := getD_both hun
    have hlisted : ∀ j, Region.waitsFor .any l.toArray i j = true → listed.getD j false = true := by
      intro j hw
      obtain ⟨oj, hoj, e, he, hb, hon⟩ := Region.waitsFor_spec hw
      obtain rfl : o' = oj := Option.some.inj (hoi.symm.trans hoj)
      have hlj := hafter e he hb
      rwa [hon] at hlj
    have hwant : Region.wanted o' (yielded l.toArray a.tmps) = true := by
      cases hgd : o'.guard with
      | none => simp [Region.wanted, hgd]
      | some p =>
        obtain ⟨j, b⟩ := p
        obtain ⟨hw, hs⟩ := hg j b hgd
        obtain ⟨t, ht⟩ := Option.isSome_iff_exists.1 hs
        have hv := hguard i o' j b ho hgd _ _ (inv.near j (hlisted j hw) t ht)
        have hy : yielded l.toArray a.tmps j = some b := by
          have e1 : (l.toArray[j]?).bind (·.dst) = some t := by simpa [dstAt] using ht
          have e2 : a.tmps[t]? = some (.bool b) := by
            rw [Array.getD_eq_getD_getElem?] at hv
            cases hx : a.tmps[t]? with
            | none => rw [hx] at hv; cases hv
            | some u => rw [hx] at hv; simpa using hv
          unfold yielded
          rw [e1]
          simp [e2]
        simp [Region.wanted, hgd, hy]
    have hsz : i < listed.size := by rw [inv.size]; exact hin
    have hst := hstep i o' ho listed a W inv.size hunl hlisted inv.tsize inv.base inv.defers (fun j t ht hl => inv.near j hl t ht) (fun t hno => getD_tmps (inv.far t fun j _ => hno j)) inv.side
    unfold wpOp
    simp only [hoi, hwant, if_true]
    refine .inl (hst.wp ?_)
    rintro v W' ⟨hBW, hRv, hSv⟩
    refine ih _ _ _ (count_set_true hun hc) ⟨by simpa using inv.size, fun j hj t ht => ?_, fun t hno => ?_, by rw [put_size, inv.tsize], by rw [put_defers', inv.defers], inv.base.trans hBW, hSv⟩
    · by_cases hij : i = j
      · subst hij
        have hd' : o'.dst = some t := by simpa [dstAt, ho] using ht
        have hlt : t < a.tmps.size := by rw [inv.tsize]; exact (hdst t hd').1
        have : (a.put o'.dst v).tmps.getD t undef = v := by rw [hd']; simp [Act.put, hlt]
        rw [this]; exact hRv
      · rw [getD_set_ne false hij] at hj
        have hd' : o'.dst ≠ some t := by
          have := (h3 j (dlt j t ht) (Ne.symm hij) t ht).1
          simpa [dstAt, ho] using this
        have e : (a.put o'.dst v).tmps.getD t undef = a.tmps.getD t undef := by
          rw [Array.getD_eq_getD_getElem?, Array.getD_eq_getD_getElem?, put_far _ _ _ _ hd']
        rw [e]
        exact hmono _ _ _ _ (inv.near j hj t ht) hBW
    · have hd' : o'.dst ≠ some t := by
        have := hno i (by simp [hsz])
        simpa [dstAt, ho] using this
      rw [put_far _ _ _ _ hd']
      exact inv.far t fun j hj => hno j (getD_set_true hj)
theorem wp_region_sw (B : Nat) {id : Nat} {a : Act} {w : World} {l : List Oper} (R : Nat → Value → World → Prop) (S : Array Bool → Act → World → Prop) (hm : P.follows .mixedOrders = true) (hB : owS l a.tmps.size = true)
    (hmono : ∀ k v W W', R k v W → Below B W W' → R k v W')
    (hguard : ∀ (k : Nat) (o : Oper) (j : Nat) (b : Bool), l[k]? = some o → o.guard = some (j, b) → ∀ v W, R j v W → v = .bool b)
    (hS : ∀ n, S (Array.replicate n false) a w.drew)
    (hstep : ∀ (k : Nat) (o : Oper), l[k]? = some o → ∀ (listed : Array Bool) (a' : Act) (W : World), listed.size = l.length → listed.getD k false = false → (∀ j, Region.waitsFor .any l.toArray k j = true → listed.getD j false = true) → a'.tmps.size = a.tmps.size → Below B w W → a'.defers = a.defers →
      (∀ j t, dstAt l j = some t → listed.getD j false = true → R j (a'.tmps.getD t undef) W) → (∀ t, (∀ j, dstAt l j ≠ some t) → a'.tmps.getD t undef = a.tmps.getD t undef) → S listed a' W →
      Steps3 P o a' W (fun v W' => Below B W W' ∧ R k v W' ∧ S (listed.setIfInBounds k true) (a'.put o.dst v) W'))
    (hQ : ∀ listed a' W, (∀ j, j < l.length → listed.getD j false = true) → Below B w W → (∀ k t, dstAt l k = some t → R k (a'.tmps.getD t undef) W) → (∀ t, (∀ j, dstAt l j ≠ some t) → a'.tmps[t]? = a.tmps[t]?) → a'.tmps.size = a.tmps.size → a'.defers = a.defers → S listed a' W → Q .normal a' W) :
    (Code.region id l.toArray true).wp P Q a w := by
  refine wp_region_any hm ?_
  refine wpAny_sw (B := B) (R := R) (S := S) (w0 := w) (a0 := a) hB hmono hguard hstep hQ _ _ _ _ (by simp) ⟨by simp, fun j hj => (by rw [getD_replicate_false] at hj; cases hj), fun t _ => rfl, rfl, rfl, (Below.refl _ _).drew, hS _⟩
/-- The frame behind a region is known by the values that its operations left. -/
theorem frame_eq {a a' : Act} {l : List Oper} (vs : List Value) (hB : owS l a.tmps.size = true) (hlen : l.length = vs.length) (hR : ∀ j t, dstAt l j = some t → a'.tmps.getD t undef = vs.getD j undef)
    (hout : ∀ t, (∀ j, dstAt l j ≠ some t) → a'.tmps[t]? = a.tmps[t]?) (hsz : a'.tmps.size = a.tmps.size) (hdf : a'.defers = a.defers) : a' = putAll l vs a := by
  have hB' := hB
  simp only [owS, Bool.and_eq_true] at hB'
  have hdist : ∀ j i t, dstAt l j = some t → j < i → dstAt l i ≠ some t := fun j i t hj hji hi => by
    have hil : i < l.length := by
      rcases Nat.lt_or_ge i l.length with h1 | h1
      · exact h1
      · unfold dstAt at hi; rw [List.getElem?_eq_none h1] at hi; cases hi
    have := List.all_eq_true.1 hB'.2 i (List.mem_range.2 hil)
    cases ho : l[i]? with
    | none => rw [ho] at this; simp at this
    | some o =>
      rw [ho] at this
      simp only [Bool.and_eq_true] at this
      have h5 := List.all_eq_true.1 this.2 j (List.mem_range.2 (by omega))
      have hne : ¬ j = i := by omega
      simp only [Bool.or_eq_true, beq_iff_eq, hne, false_or, hj, Bool.and_eq_true, bne_iff_ne, ne_eq] at h5
      exact h5.1 hi
  have hlt : ∀ j t, dstAt l j = some t → t < a.tmps.size := fun j t hj => by
    have hjl : j < l.length := by
      rcases Nat.lt_or_ge j l.length with h1 | h1
      · exact h1
      · unfold dstAt at hj; rw [List.getElem?_eq_none h1] at hj; cases hj
    have := List.all_eq_true.1 hB'.2 j (List.mem_range.2 hjl)
    cases ho : l[j]? with
    | none => rw [ho] at this; simp at this
    | some o =>
      rw [ho] at this
      have hd : o.dst = some t := by simpa [dstAt, ho] using hj
      simp only [Bool.and_eq_true, hd, decide_eq_true_eq] at this
      exact this.1.2.1
  have ht : a'.tmps = (putAll l vs a).tmps := by
    apply Array.ext_getElem?
    intro t
    by_cases hex : ∃ j, dstAt l j = some t
    · obtain ⟨j, hj⟩ := hex
      rw [putAll_near t l vs a j hlen hj (fun i hi => hdist j i t hj hi) (hlt j t hj)]
      have h1 := hR j t hj
      have h2 : t < a'.tmps.size := by rw [hsz]; exact hlt j t hj
      rw [Array.getD_eq_getD_getElem?, Array.getElem?_eq_getElem h2] at h1
      rw [Array.getElem?_eq_getElem h2]
      exact congrArg some h1
    · have hno : ∀ j, dstAt l j ≠ some t := fun j hj => hex ⟨j, hj⟩
      rw [putAll_far t l vs a hno, hout t hno]
  cases a' with
  | mk t' d' =>
    have h2 := (putAll_size l vs a).2
    simp only at ht hdf
    cases hp : putAll l vs a with
    | mk t2 d2 =>
      rw [hp] at ht h2
      simp only at ht h2
      rw [ht, hdf, h2]

/-! ### new boxes that are filled -/
def gOf : Value → Nat
  | .pointer (some p) => p.block
  | _ => 0
/-- n boxes, made by the operations from nA on (their slots from nT on), filled by those from nS on. -/
structure Boxes (T : TypeId) (C : Nat → Bool → Array Value) (nA nS nT n : Nat) (listed : Array Bool) (a : Act) (W : World) : Prop where
  ord : ∀ i, i < n → listed.getD (nS + i) false = true → listed.getD (nA + i) false = true
  ptr : ∀ i, i < n → listed.getD (nA + i) false = true → a.tmps.getD (nT + i) undef = .pointer (some ⟨gOf (a.tmps.getD (nT + i) undef), 0, none⟩)
  blk : ∀ i, i < n → listed.getD (nA + i) false = true → Blk W (gOf (a.tmps.getD (nT + i) undef)) T (C i (listed.getD (nS + i) false))
  apart : ∀ i j, i < n → j < n → i ≠ j → listed.getD (nA + i) false = true → listed.getD (nA + j) false = true → gOf (a.tmps.getD (nT + i) undef) ≠ gOf (a.tmps.getD (nT + j) undef)
theorem put_getD_ne {a : Act} {d : Option Tmp} {v : Value} {t : Nat} (h : d ≠ some t) : (a.put d v).tmps.getD t undef = a.tmps.getD t undef := by
  rw [Array.getD_eq_getD_getElem?, Array.getD_eq_getD_getElem?, put_far _ _ _ _ h]
theorem put_getD_eq {a : Act} {v : Value} {t : Nat} (h : t < a.tmps.size) : (a.put (some t) v).tmps.getD t undef = v := by simp [Act.put, h]
variable {T : TypeId} {C : Nat → Bool → Array Value} {nA nS nT n : Nat} {listed : Array Bool} {a : Act} {W W' : World}
theorem Boxes.none (m : Nat) : Boxes T C nA nS nT n (Array.replicate m false) a W :=
  ⟨fun i _ h => (by rw [getD_replicate_false] at h; cases h), fun i _ h => (by rw [getD_replicate_false] at h; cases h), fun i _ h => (by rw [getD_replicate_false] at h; cases h), fun i j _ _ _ h => (by rw [getD_replicate_false] at h; cases h)⟩
theorem Boxes.same (h : Boxes T C nA nS nT n listed a W) {k : Nat} {d : Option Tmp} {v : Value} (hA : ∀ i, i < n → k ≠ nA + i) (hS : ∀ i, i < n → k ≠ nS + i) (hT : ∀ i, i < n → d ≠ some (nT + i)) : Boxes T C nA nS nT n (listed.setIfInBounds k true) (a.put d v) W := by
  refine ⟨fun i hi hl => ?_, fun i hi hl => ?_, fun i hi hl => ?_, fun i j hi hj hij hl hl' => ?_⟩
  · rw [getD_set_ne false (hS i hi)] at hl; rw [getD_set_ne false (hA i hi)]; exact h.ord i hi hl
  · rw [getD_set_ne false (hA i hi)] at hl; rw [put_getD_ne (hT i hi)]; exact h.ptr i hi hl
  · rw [getD_set_ne false (hA i hi)] at hl; rw [put_getD_ne (hT i hi), getD_set_ne false (hS i hi)]; exact h.blk i hi hl
  · rw [getD_set_ne false (hA i hi)] at hl; rw [getD_set_ne false (hA j hj)] at hl'; rw [put_getD_ne (hT i hi), put_getD_ne (hT j hj)]; exact h.apart i j hi hj hij hl hl'
theorem Boxes.alloc (h : Boxes T C nA nS nT n listed a W) {i0 : Nat} (hi0 : i0 < n) (hd : ∀ i, i < n → nA + i0 ≠ nS + i) (hun : listed.getD (nA + i0) false = false) (hsz : nT + i0 < a.tmps.size) :
    Boxes T C nA nS nT n (listed.setIfInBounds (nA + i0) true) (a.put (some (nT + i0)) (.pointer (some ⟨W.heap.size, 0, Option.none⟩))) (W.alloc (.cells (C i0 false) T)) := by
  have hne : ∀ i, i ≠ i0 → nA + i0 ≠ nA + i := fun i e => by omega
  have hnt : ∀ i, i ≠ i0 → (some (nT + i0) : Option Tmp) ≠ some (nT + i) := fun i e h => by injection h with h; omega
  have hun' : listed.getD (nS + i0) false = false := by
    cases hx : listed.getD (nS + i0) false with
    | false => rfl
    | true => rw [h.ord i0 hi0 hx] at hun; cases hun
  refine ⟨fun i hi hl => ?_, fun i hi hl => ?_, fun i hi hl => ?_, fun i j hi hj hij hl hl' => ?_⟩
  · rw [getD_set_ne false (hd i hi)] at hl
    by_cases e : i = i0
    · subst e; rw [h.ord i hi hl] at hun; cases hun
    · rw [getD_set_ne false (hne i e)]; exact h.ord i hi hl
  · by_cases e : i = i0
    · subst e; rw [put_getD_eq hsz]; rfl
    · rw [getD_set_ne false (hne i e)] at hl; rw [put_getD_ne (hnt i e)]; exact h.ptr i hi hl
  · rw [getD_set_ne false (hd i hi)]
    by_cases e : i = i0
    · subst e; rw [put_getD_eq hsz, hun']; exact Blk.new W T _
    · rw [getD_set_ne false (hne i e)] at hl; rw [put_getD_ne (hnt i e)]; exact (h.blk i hi hl).alloc _
  · have key : ∀ i, i < n → i ≠ i0 → (listed.setIfInBounds (nA + i0) true).getD (nA + i) false = true → gOf ((a.put (some (nT + i0)) (.pointer (some ⟨W.heap.size, 0, Option.none⟩))).tmps.getD (nT + i) undef) < W.heap.size := fun i hi e hl => by
      rw [getD_set_ne false (hne i e)] at hl; rw [put_getD_ne (hnt i e)]; exact (h.blk i hi hl).lt
    by_cases e : i = i0
    · subst e
      have := key j hj (Ne.symm hij) hl'
      rw [put_getD_eq hsz]
      show W.heap.size ≠ _
      omega
    · by_cases e' : j = i0
      · subst e'
        have := key i hi e hl
        rw [put_getD_eq hsz]
        show _ ≠ W.heap.size
        omega
      · rw [getD_set_ne false (hne i e)] at hl; rw [getD_set_ne false (hne j e')] at hl'; rw [put_getD_ne (hnt i e), put_getD_ne (hnt j e')]
        exact h.apart i j hi hj hij hl hl'
theorem Boxes.store (h : Boxes T C nA nS nT n listed a W) {i0 : Nat} (hi0 : i0 < n) (hd : ∀ i, i < n → nS + i0 ≠ nA + i) (hl0 : listed.getD (nA + i0) false = true) (hs0 : nS + i0 < listed.size)
    (hb : Blk W' (gOf (a.tmps.getD (nT + i0) undef)) T (C i0 true)) (ho : ∀ g t cs, g ≠ gOf (a.tmps.getD (nT + i0) undef) → Blk W g t cs → Blk W' g t cs) :
    Boxes T C nA nS nT n (listed.setIfInBounds (nS + i0) true) (a.put Option.none undef) W' := by
  have hne : ∀ i, i ≠ i0 → nS + i0 ≠ nS + i := fun i e => by omega
  refine ⟨fun i hi hl => ?_, fun i hi hl => ?_, fun i hi hl => ?_, fun i j hi hj hij hl hl' => ?_⟩
  · rw [getD_set_ne false (hd i hi)]
    by_cases e : i = i0
    · subst e; exact hl0
    · rw [getD_set_ne false (hne i e)] at hl; exact h.ord i hi hl
  · rw [getD_set_ne false (hd i hi)] at hl; exact h.ptr i hi hl
  · rw [getD_set_ne false (hd i hi)] at hl
    show Blk W' (gOf (a.tmps.getD (nT + i) undef)) T _
    by_cases e : i = i0
    · subst e
      rw [show (listed.setIfInBounds (nS + i) true).getD (nS + i) false = true by simp [hs0]]
      exact hb
    · rw [getD_set_ne false (hne i e)]
      exact ho _ _ _ (h.apart i i0 hi hi0 e hl hl0) (h.blk i hi hl)
  · rw [getD_set_ne false (hd i hi)] at hl; rw [getD_set_ne false (hd j hj)] at hl'
    exact h.apart i j hi hj hij hl hl'
/-- n boxes whose cells are changed by the operation st i, not ahead of ld i. -/
structure Upd (T : TypeId) (g : Nat → Nat) (C : Nat → Bool → Array Value) (ld st : Nat → Nat) (n : Nat) (listed : Array Bool) (W : World) : Prop where
  ord : ∀ i, i < n → listed.getD (st i) false = true → listed.getD (ld i) false = true
  blk : ∀ i, i < n → Blk W (g i) T (C i (listed.getD (st i) false))
variable {g ld st : Nat → Nat}
theorem Upd.first (m : Nat) (h : ∀ i, i < n → Blk W (g i) T (C i false)) : Upd T g C ld st n (Array.replicate m false) W :=
  ⟨fun i _ h => (by rw [getD_replicate_false] at h; cases h), fun i hi => (by rw [getD_replicate_false]; exact h i hi)⟩
theorem Upd.same (h : Upd T g C ld st n listed W) {k : Nat} (hs : ∀ i, i < n → k ≠ st i) (hk : k < listed.size) : Upd T g C ld st n (listed.setIfInBounds k true) W := by
  refine ⟨fun i hi hl => ?_, fun i hi => by rw [getD_set_ne false (hs i hi)]; exact h.blk i hi⟩
  rw [getD_set_ne false (hs i hi)] at hl
  by_cases e : k = ld i
  · subst e; simp [hk]
  · rw [getD_set_ne false e]; exact h.ord i hi hl
theorem Upd.store (h : Upd T g C ld st n listed W) {i0 : Nat} (hi0 : i0 < n) (hst : ∀ i, i < n → i ≠ i0 → st i0 ≠ st i) (hsl : ∀ i, i < n → st i0 ≠ ld i) (hg : ∀ i, i < n → i ≠ i0 → g i ≠ g i0) (hl0 : listed.getD (ld i0) false = true) (hs0 : st i0 < listed.size)
    (hb : Blk W' (g i0) T (C i0 true)) (ho : ∀ b t cs, b ≠ g i0 → Blk W b t cs → Blk W' b t cs) : Upd T g C ld st n (listed.setIfInBounds (st i0) true) W' := by
  refine ⟨fun i hi hl => ?_, fun i hi => ?_⟩
  · rw [getD_set_ne false (hsl i hi)]
    by_cases e : i = i0
    · subst e; exact hl0
    · rw [getD_set_ne false (hst i hi e)] at hl; exact h.ord i hi hl
  · by_cases e : i = i0
    · subst e
      rw [show (listed.setIfInBounds (st i) true).getD (st i) false = true by simp [hs0]]
      exact hb
    · rw [getD_set_ne false (hst i hi e)]
      exact ho _ _ _ (hg i hi e) (h.blk i hi)
end
end Go.Proofs.YtecpanppnljkhaaDoor
