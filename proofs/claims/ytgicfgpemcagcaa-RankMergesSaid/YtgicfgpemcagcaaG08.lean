/- Walks and mathematics of rank, part 8. -/
import Derived.Test.YtgicfgpemcagcaaG07
import Derived.WalkMore
import Derived.Laws.CopyOwn
import Derived.WalkSpells
import Derived.OwnWalk
/- Walks of prim: areSet, Trap, Pack. -/
namespace Go.Proofs.Ytgicfgpemcagcaa
set_option linter.unusedVariables false
open Go.RowKit Go.Shelf

attribute [local go_sem] Oper.semAt_some
theorem wpIn_scope {n : Nat} {P : Program} {c : Code} {Q : Exit → Act → World → Prop} {a : Act} {w : World} (h : c.wpIn Fence.wide n P (Exit.noGoto Q) a w) : (Code.scope c).wpIn Fence.wide n P Q a w :=
  wpIn_wide.2 (wp_scope_straight (wpIn_wide.1 h))

end Go.Proofs.Ytgicfgpemcagcaa
/- Walks of prim: Grow, addAll, an add that fits; Trap. -/
namespace Go.Proofs.Ytgicfgpemcagcaa
set_option linter.unusedVariables false
open Go.RowKit Go.Shelf

/-- What the copy leaves is the list and the part. -/
theorem row_splice {w : World} {base r cap : Nat} {zs part : List Int} {cur : List Value} {w' : World} (h : OwnI w base (.slice (some ⟨r, 0, none⟩) zs.length cap) zs) (hcur : w.heap[r]? = some (.cells cur.toArray 3 (0, 0)))
    (hfit : zs.length + part.length ≤ cap) (h' : w'.heap[r]? = some (.cells (splice cur zs.length (part.map (Value.int .i64))).toArray 3 (0, 0))) :
    OwnI w' base (.slice (some ⟨r, 0, none⟩) (zs.length + part.length) cap) (zs ++ part) := by
  rcases h.2 with ⟨h0, _⟩ | ⟨g, c', cur', e, hb, hg, h1, h2, h3, h4⟩
  · cases h0
  · injection e with e1 e2 e3
    injection e1 with e1
    injection e1 with e1
    subst e1; subst e3
    rw [hcur] at hg
    injection hg with hg
    injection hg with hg
    subst hg
    simp at h3 h4
    refine ⟨by simp, .inr ⟨r, cap, _, by rw [List.length_append], hb, h', by simpa using hfit, h2, ?_, ?_⟩⟩
    · rw [List.size_toArray, length_splice _ _ _ (by simp; omega), h3]; simp
    · unfold splice
      simp only [Nat.mul_one, List.length_append]
      rw [h4, List.map_append, ← List.append_assoc, List.take_left' (by simp)]
theorem own_cur {w : World} {base r cap n : Nat} {zs : List Int} (h : OwnI w base (.slice (some ⟨r, 0, none⟩) n cap) zs) : ∃ cur : List Value, w.heap[r]? = some (.cells cur.toArray 3 (0, 0)) ∧ cur.length = cap ∧ base ≤ r := by
  rcases h.2 with ⟨h0, _⟩ | ⟨g, c', cur', e, hb, hg, h1, h2, h3, h4⟩
  · cases h0
  · injection e with e1 e2 e3
    injection e1 with e1
    injection e1 with e1
    subst e1; subst e3
    exact ⟨cur'.toList, by simpa using hg, by simpa using h3, hb⟩
theorem grownBy_setRow (W : World) (r : Nat) (cs : Array Value) : W.grownBy (W.setRow r cs) (some r) :=
  ⟨rfl, rfl, rfl, by simp [World.setRow], fun k _ hk => setRow_other W r k cs (fun e => hk (by rw [e]))⟩
theorem grownBy_then {A B C : World} {r1 r2 : Option Nat} (h1 : A.grownBy B r1) (h2 : B.grownBy C r2) (k : Nat) (hk : k < A.heap.size) (n1 : some k ≠ r1) (n2 : some k ≠ r2) : C.heap[k]? = A.heap[k]? :=
  (h2.block k (Nat.lt_of_lt_of_le hk h1.size) n2).trans (h1.block k hk n1)
/-- Behind a copy into the row. -/
theorem added_copy {w : World} {base g i r cap : Nat} {t : TypeId} {cs : Array Value} {zs part : List Int} {cur : List Value} (hv : Blk w g t cs) (ht : t ≠ 3) (hrow : OwnI w base (.slice (some ⟨r, 0, none⟩) zs.length cap) zs)
    (hcur : w.heap[r]? = some (.cells cur.toArray 3 (0, 0))) (hfit : zs.length + part.length ≤ cap) (v' : Value) (hv' : v' = .slice (some ⟨r, 0, none⟩) (zs.length + part.length) cap) :
    Added w ((w.setCell ⟨g, i, none⟩ v').setRow r (cur.take zs.length ++ (part.map (Value.int .i64) ++ cur.drop (zs.length + (part.map (Value.int .i64)).length))).toArray) base g i t cs (.slice (some ⟨r, 0, none⟩) zs.length cap) v' zs part := by
  subst hv'
  obtain ⟨_, _, _, hbr⟩ := own_cur hrow
  have hne : r ≠ g := fun e => hv.not_row ht hrow (by rw [e]; rfl)
  have hcur' : (w.setCell ⟨g, i, none⟩ (.slice (some ⟨r, 0, none⟩) (zs.length + part.length) cap)).heap[r]? = some (.cells cur.toArray 3 (0, 0)) := (Below.heap_setCell w ⟨g, i, none⟩ _ r hne).trans hcur
  have g1 := grownBy_set w ⟨g, i, none⟩ (.slice (some ⟨r, 0, none⟩) (zs.length + part.length) cap)
  have g2 := grownBy_setRow (w.setCell ⟨g, i, none⟩ (.slice (some ⟨r, 0, none⟩) (zs.length + part.length) cap)) r (cur.take zs.length ++ (part.map (Value.int .i64) ++ cur.drop (zs.length + (part.map (Value.int .i64)).length))).toArray
  refine ⟨(hv.set_ i _).grown g2 (fun e => hne (by cases e; rfl)), ?_, ?_, fun n hn hg hw => ?_, fun b t' cs' h hb hnr => ?_⟩
  · refine row_splice hrow hcur hfit ?_
    rw [setRow_heap _ r _ _ _ _ hcur']
    rfl
  · refine (KeepsOthers.setCell _ _ _).trans (KeepsOthers.of_grownBy g2 fun j o ej hj => ?_)
    cases ej
    rw [hcur'] at hj; cases hj; rfl
  · exact ((Below.refl n w).setCell (p := ⟨g, i, none⟩) hg _).grown g2 (by simpa using hw) (fun k e => by cases e; omega)
  · exact (h.far (p := ⟨g, i, none⟩) hb _).grown g2 hnr
theorem added_none {w : World} {base g i r cap : Nat} {t : TypeId} {cs : Array Value} {zs : List Int} (hv : Blk w g t cs) (ht : t ≠ 3) (hrow : OwnI w base (.slice (some ⟨r, 0, none⟩) zs.length cap) zs) (v' : Value) (hv' : v' = .slice (some ⟨r, 0, none⟩) zs.length cap) :
    Added w (w.setCell ⟨g, i, none⟩ v') base g i t cs (.slice (some ⟨r, 0, none⟩) zs.length cap) v' zs [] := by
  subst hv'
  have hn := hv.not_row ht hrow
  refine ⟨hv.set_ i _, ?_, KeepsOthers.setCell _ _ _, fun n hn hg hw => (Below.refl n w).setCell (p := ⟨g, i, none⟩) hg _, fun b t' cs' h hb hnr => h.far (p := ⟨g, i, none⟩) hb _⟩
  rw [List.append_nil]
  exact hrow.kept (grownBy_set w ⟨g, i, none⟩ _) (.inr hn.symm)
def AddAll (w : World) (base g i r cap : Nat) (t : TypeId) (cs : Array Value) (zs part : List Int) (e : Ending) (w' : World) : Prop :=
  (∃ u, e = .returned u) ∧ Added w w' base g i t cs (.slice (some ⟨r, 0, none⟩) zs.length cap) (.slice (some ⟨r, 0, none⟩) (zs.length + part.length) cap) zs part
theorem words_elem : (Try.prog.info? 3).map (·.size) = some 1 := by kernel_rfl
end Go.Proofs.Ytgicfgpemcagcaa
/- A range over a function whose body is told that what comes is what comes next: for an iterator whose elements hang on those ahead of them. The body always goes on. -/
namespace Go.Proofs.Ytgicfgpemcagcaa
set_option linter.unusedVariables false
open Go.RowKit Go.Shelf

/-- An iterator that hands out just what may come next, as long as rounds go on. -/
def Nexts {α : Type} (F : Fence) (n : Nat) (P : Program) (g : Nat) (lb : Array Value) (encs : α → Array Value) (B : Nat) (Nx : List α → α → Prop) (S : List α → Prop) (w : World) : Prop :=
  ∀ (l : Nat) (J : List α → World → Prop) (W : World), Below w.heap.size w W →
    (∀ pre x W1, Nx pre x → J pre W1 → YieldAt F (n - 1) P l (encs x) W1 fun e W' => e = .returned (.bool true) ∧ J (pre ++ [x]) W' ∧ Below B W1 W') →
    J [] W → CallsIn F n P g (#[.func (.yield l) #[] #[]] ++ lb) W fun e W' => (∃ v, e = .returned v) ∧ ∃ xs, S xs ∧ J xs W'

section
variable {α : Type} {F : Fence} {n : Nat} {P : Program}
/-- The loop's own two blocks: its record, and the rounds' deferred calls. -/
def Own2 (w W : World) (st : Loop) : Prop := W.heap[w.heap.size + 1]? = some (.loop st) ∧ W.heap[w.heap.size]? = some (.deferred (some []))
theorem Own2.lt {w W : World} {st : Loop} (h : Own2 w W st) : w.heap.size + 1 < W.heap.size := (Array.getElem?_eq_some_iff.1 h.1).1
theorem Own2.put {w W : World} {st : Loop} (h : Own2 w W st) (st' : Loop) : Own2 w (W.putObj (w.heap.size + 1) (.loop st')) st' :=
  ⟨World.putObj_heap_same h.lt, (World.putObj_heap_other (by omega)).trans h.2⟩
theorem Own2.kept {w W W' : World} {st : Loop} (h : Own2 w W st) (hk : KeepsFrom w.heap.size W W') : Own2 w W' st :=
  ⟨hk.same _ _ (by omega) h.1 rfl, hk.same _ _ (Nat.le_refl _) h.2 rfl⟩
theorem below_putObj {B l : Nat} {W : World} (o : Obj) (h : B ≤ l) : Below B W (W.putObj l o) :=
  have g := grownBy_putObj' W l o
  ⟨g.os, rfl, rfl, g.size, fun k hk => World.putObj_heap_other (by omega)⟩

theorem range_next {g : Operand} {ps : Array Tmp} {assign body : Code} {Q : Exit → Act → World → Prop} {a : Act} {w : World}
    (hro : F.round = none) (h1 : 1 ≤ n) {gf : Nat} {lb : Array Value} (hg : a.eval g = .func (.func gf) #[] lb) (hFg : F.fn gf) (eg : ∀ args w, (callFunc gf args).run P w = .ok (.enter gf args) w)
    {encs : α → Array Value} {B : Nat} {Nx : List α → α → Prop} {S : List α → Prop} (hseq : Nexts F (n - 1) P gf lb encs B Nx S w) (hB : B ≤ w.heap.size) (hps : ∀ x, (encs x).size = ps.size)
    (I : List α → World → Prop) (hI : OwnFrom w.heap.size I) (h0 : I [] w) (fr : α → Act)
    (hassign : ∀ (l : Nat) (x : α) (W : World) (K : Act → World → Prop), K (fr x) W →
      assign.wpIn (F.inRound l) (n - 1 - 1) P (Exit.then K (fun _ _ _ => False)) { tmps := (ps.zip (encs x)).foldl (fun t (p, v) => t.setIfInBounds p v) a.tmps, defers := [] } W)
    (hbody : ∀ (l : Nat) (pre : List α) (x : α) (W : World), Nx pre x → I pre W →
      body.wpIn (F.inRound l) (n - 1 - 1) P (ownPostG w.heap.size (Below B) I (fun _ _ _ => False) (pre ++ [x]) W) (fr x) W)
    (hdone : ∀ (D : Nat) (xs : List α) (W : World), w.heap.size ≤ D → S xs → I xs W → W.heap[D]? = some (.deferred (some [])) → Q .normal { a with defers := { target := .collected D, args := #[] } :: a.defers } W) :
    (Code.rangeFunc g ps assign body).wpIn F n P Q a w := by
  refine wpIn_rangeFunc fun fn hfn => ?_
  rw [hro]
  let rec_ : LoopState → Option Code → Loop := fun st pe => { state := st, pending := pe, fn := fn, tmps := a.tmps, params := ps, assign := assign, body := body, defers := w.heap.size }
  have o1 : Own2 w ((w.alloc (.deferred (some []))).alloc (.loop (rec_ .ready none))) (rec_ .ready none) :=
    ⟨by have := World.alloc_heap_new (w.alloc (.deferred (some []))) (.loop (rec_ .ready none)); rwa [World.size_alloc] at this, (Below.heap_alloc _ _ _ (by simp)).trans (World.alloc_heap_new w _)⟩
  have i1 : I [] ((w.alloc (.deferred (some []))).alloc (.loop (rec_ .ready none))) := hI.alloc _ (hI.alloc _ h0)
  have b1 : Below w.heap.size w ((w.alloc (.deferred (some []))).alloc (.loop (rec_ .ready none))) := al2 w _ _
  refine ⟨w.heap.size + 1, [{ target := .collected w.heap.size, args := #[] }], (w.alloc (.deferred (some []))).alloc (.loop (rec_ .ready none)), { target := .fn (.func gf) lb, args := #[.func (.yield (w.heap.size + 1)) #[] #[]] }, (w.alloc (.deferred (some []))).alloc (.loop (rec_ .ready none)), gf,
    #[.func (.yield (w.heap.size + 1)) #[] #[]] ++ lb, (w.alloc (.deferred (some []))).alloc (.loop (rec_ .ready none)), run_enterLoop_outer fn a.tmps ps assign body, ?_, ?_, ?_, fun _ => h1, ?_⟩
  · simp only [resolve, hg]; simp [go_sem]
  · intro f' hf'; simp [Target.leads] at hf'; subst hf'; exact hFg
  · simp [invoke, go_sem, eg]
  · refine (hseq (w.heap.size + 1) (fun pre W => I pre W ∧ Own2 w W (rec_ .ready none)) _ b1 ?_ ⟨i1, o1⟩).mono ?_
    · rintro pre x W hx ⟨hi, ho⟩
      refine ⟨fn, _, assign, body, run_yield (P := P) (args := encs x) ho.1 (hps x), roundIn_of_wpIn hfn (hassign _ x W _ ?_)⟩
      have ho2 := ho.put { rec_ .ready none with state := .busy }
      refine ⟨_, run_beginRound ho.1 rfl, ?_⟩
      refine wpIn_mono (hbody _ pre x _ hx (hI.putObj _ hi (by omega) ho.1 rfl)) ?_
      rintro e a3 W3 hp
      cases e with
      | normal =>
        obtain ⟨hk3, hkp3, hi3⟩ := hp
        have ho3 := ho2.kept hk3
        refine ⟨_, _, run_endRound (P := P) none ho3.1, rfl, ⟨hI.putObj _ hi3 (by omega) ho3.1 rfl, ho3.put _⟩, ?_⟩
        exact ((below_putObj _ (by omega)).trans hkp3).trans (below_putObj _ (by omega))
      | ret => exact hp.2.elim
      | exit id => exact hp.2.elim
      | goto t => exact hp.2.elim
      | panic ch => exact hp.elim
      | outgrown => exact hp.elim
    · rintro e W2 ⟨⟨v, rfl⟩, xs, hS, hi, ho⟩
      exact ⟨none, _, run_endLoop (P := P) ho.1 (by simp [rec_]), hdone _ xs _ (Nat.le_refl _) hS (hI.putObj _ hi (by omega) ho.1 rfl) ((World.putObj_heap_other (by omega)).trans ho.2)⟩
end
end Go.Proofs.Ytgicfgpemcagcaa
