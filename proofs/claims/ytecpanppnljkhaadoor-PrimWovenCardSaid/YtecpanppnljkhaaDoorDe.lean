/- A range over a function whose body is told that what comes is what comes next: for an iterator whose elements hang on those ahead of them. The body always goes on. -/
import Derived.Test.YtecpanppnljkhaaDoorDc
namespace Go.Proofs.YtecpanppnljkhaaDoor
set_option linter.unusedVariables false
open Go.RowKit Go.Shelf

/-- An iterator that hands out just what may come next, as long as rounds go on. -/
def Nexts {α : Type} (F : Fence) (n : Nat) (P : Program) (g : Nat) (lb : Array Value) (encs : α → Array Value) (B : Nat) (Nx : List α → α → Prop) (S : List α → Prop) (w : World) : Prop :=
  ∀ (l : Nat) (J : List α → World → Prop) (W : World), Below w.heap.size w W →
    (∀ pre x W1, Nx pre x → J pre W1 → YieldAt F (n - 1) P l (encs x) W1 fun e W' => e = .returned (.bool true) ∧ J (pre ++ [x]) W' ∧ Below B W1 W') →
    J [] W → CallsIn F n P g (#[.func (.yield l) #[] #[]] ++ lb) W fun e W' => (∃ v, e = .returned v) ∧ ∃ xs, S xs ∧ J xs W'

section
variable {α : Type} {F : Fence} {n : Nat} {P : Program}
/-- The loop's own two blocks: its record, and the rounds' deferred calls. -/
def Own2 (w W : World) (st : Loop) : Prop := W.heap[w.heap.size + 1]? = some (.loop st) ∧ W.heap[w.heap.size]? = some (.deferred (some []))
theorem Own2.lt {w W : World} {st : Loop} (h : Own2 w W st) : w.heap.size + 1 < W.heap.size := (Array.getElem?_eq_some_iff.1 h.1).1
theorem Own2.put {w W : World} {st : Loop} (h : Own2 w W st) (st' : Loop) : Own2 w (W.putObj (w.heap.size + 1) (.loop st')) st' :=
  ⟨World.putObj_heap_same h.lt, (World.putObj_heap_other (by omega)).trans h.2⟩
theorem Own2.kept {w W W' : World} {st : Loop} (h : Own2 w W st) (hk : KeepsFrom w.heap.size W W') : Own2 w W' st :=
  ⟨hk.same _ _ (by omega) h.1 rfl, hk.same _ _ (Nat.le_refl _) h.2 rfl⟩
theorem below_putObj {B l : Nat} {W : World} (o : Obj) (h : B ≤ l) : Below B W (W.putObj l o) :=
  have g := grownBy_putObj' W l o
  ⟨g.os, rfl, rfl, g.size, fun k hk => World.putObj_heap_other (by omega)⟩

theorem range_next {g : Operand} {ps : Array Tmp} {assign body : Code} {Q : Exit → Act → World → Prop} {a : Act} {w : World}
    (hro : F.round = none) (h1 : 1 ≤ n) {gf : Nat} {lb : Array Value} (hg : a.eval g = .func (.func gf) #[] lb) (hFg : F.fn gf) (eg : ∀ args w, (callFunc gf args).run P w = .ok (.enter gf args) w)
    {encs : α → Array Value} {B : Nat} {Nx : List α → α → Prop} {S : List α → Prop} (hseq : Nexts F (n - 1) P gf lb encs B Nx S w) (hB : B ≤ w.heap.size) (hps : ∀ x, (encs x).size = ps.size)
    (I : List α → World → Prop) (hI : OwnFrom w.heap.size I) (h0 : I [] w) (fr : α → Act)
    (hassign : ∀ (l : Nat) (x : α) (W : World) (K : Act → World → Prop), K (fr x) W →
      assign.wpIn (F.inRound l) (n - 1 - 1) P (Exit.then K (fun _ _ _ => False)) { tmps := (ps.zip (encs x)).foldl (fun t (p, v) => t.setIfInBounds p v) a.tmps, defers := [] } W)
    (hbody : ∀ (l : Nat) (pre : List α) (x : α) (W : World), Nx pre x → I pre W →
      body.wpIn (F.inRound l) (n - 1 - 1) P (ownPostG w.heap.size (Below B) I (fun _ _ _ => False) (pre ++ [x]) W) (fr x) W)
    (hdone : ∀ (D : Nat) (xs : List α) (W : World), w.heap.size ≤ D → S xs → I xs W → W.heap[D]? = some (.deferred (some [])) → Q .normal { a with defers := { target := .collected D, args := #[] } :: a.defers } W) :
    (Code.rangeFunc g ps assign body).wpIn F n P Q a w := by
  refine wpIn_rangeFunc fun fn hfn => ?_
  rw [hro]
  let rec_ : LoopState → Option Code → Loop := fun st pe => { state := st, pending := pe, fn := fn, tmps := a.tmps, params := ps, assign := assign, body := body, defers := w.heap.size }
  have o1 : Own2 w ((w.alloc (.deferred (some []))).alloc (.loop (rec_ .ready none))) (rec_ .ready none) :=
    ⟨by have := World.alloc_heap_new (w.alloc (.deferred (some []))) (.loop (rec_ .ready none)); rwa [World.size_alloc] at this, (Below.heap_alloc _ _ _ (by simp)).trans (World.alloc_heap_new w _)⟩
  have i1 : I [] ((w.alloc (.deferred (some []))).alloc (.loop (rec_ .ready none))) := hI.alloc _ (hI.alloc _ h0)
  have b1 : Below w.heap.size w ((w.alloc (.deferred (some []))).alloc (.loop (rec_ .ready none))) := al2 w _ _
  refine ⟨w.heap.size + 1, [{ target := .collected w.heap.size, args := #[] }], (w.alloc (.deferred (some []))).alloc (.loop (rec_ .ready none)), { target := .fn (.func gf) lb, args := #[.func (.yield (w.heap.size + 1)) #[] #[]] }, (w.alloc (.deferred (some []))).alloc (.loop (rec_ .ready none)), gf,
    #[.func (.yield (w.heap.size + 1)) #[] #[]] ++ lb, (w.alloc (.deferred (some []))).alloc (.loop (rec_ .ready none)), run_enterLoop_outer fn a.tmps ps assign body, ?_, ?_, ?_, fun _ => h1, ?_⟩
  · simp only [resolve, hg]; simp [go_sem]
  · intro f' hf'; simp [Target.leads] at hf'; subst hf'; exact hFg
  · simp [invoke, go_sem, eg]
  · refine (hseq (w.heap.size + 1) (fun pre W => I pre W ∧ Own2 w W (rec_ .ready none)) _ b1 ?_ ⟨i1, o1⟩).mono ?_
    · rintro pre x W hx ⟨hi, ho⟩
      refine ⟨fn, _, assign, body, run_yield (P := P) (args := encs x) ho.1 (hps x), roundIn_of_wpIn hfn (hassign _ x W _ ?_)⟩
      have ho2 := ho.put { rec_ .ready none with state := .busy }
      refine ⟨_, run_beginRound ho.1 rfl, ?_⟩
      refine wpIn_mono (hbody _ pre x _ hx (hI.putObj _ hi (by omega) ho.1 rfl)) ?_
      rintro e a3 W3 hp
      cases e with
      | normal =>
        obtain ⟨hk3, hkp3, hi3⟩ := hp
        have ho3 := ho2.kept hk3
        refine ⟨_, _, run_endRound (P := P) none ho3.1, rfl, ⟨hI.putObj _ hi3 (by omega) ho3.1 rfl, ho3.put _⟩, ?_⟩
        exact ((below_putObj _ (by omega)).trans hkp3).trans (below_putObj _ (by omega))
      | ret => exact hp.2.elim
      | exit id => exact hp.2.elim
      | goto t => exact hp.2.elim
      | panic ch => exact hp.elim
      | outgrown => exact hp.elim
    · rintro e W2 ⟨⟨v, rfl⟩, xs, hS, hi, ho⟩
      exact ⟨none, _, run_endLoop (P := P) ho.1 (by simp [rec_]), hdone _ xs _ (Nat.le_refl _) hS (hI.putObj _ hi (by omega) ho.1 rfl) ((World.putObj_heap_other (by omega)).trans ho.2)⟩
end
end Go.Proofs.YtecpanppnljkhaaDoor
