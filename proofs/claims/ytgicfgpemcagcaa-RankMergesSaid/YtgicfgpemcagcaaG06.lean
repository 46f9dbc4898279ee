/- Walks and mathematics of rank, part 6. -/
import Derived.Test.YtgicfgpemcagcaaG05
import Derived.Deep.QuietTactic
import Derived.BigQuiet
/- Walks of prim: what is done at each place. -/
namespace Go.Proofs.Ytgicfgpemcagcaa
set_option linter.unusedVariables false
open Go.RowKit

theorem keep5 {w W W' : World} {p1 p2 p3 p4 p5 : Addr} {v1 v2 v3 v4 v5 : Value} (h1 : p1.block < w.heap.size) (h2 : p2.block < w.heap.size) (h3 : p3.block < w.heap.size) (h4 : p4.block < w.heap.size) (h5 : p5.block < w.heap.size)
    (h : W.cell? p1 = some v1 ∧ W.cell? p2 = some v2 ∧ W.cell? p3 = some v3 ∧ W.cell? p4 = some v4 ∧ W.cell? p5 = some v5 ∧ Below w.heap.size w W) (hb : Below W.heap.size W W') :
    W'.cell? p1 = some v1 ∧ W'.cell? p2 = some v2 ∧ W'.cell? p3 = some v3 ∧ W'.cell? p4 = some v4 ∧ W'.cell? p5 = some v5 ∧ Below w.heap.size w W' := by
  obtain ⟨a1, a2, a3, a4, a5, a6⟩ := h
  have hs := a6.size
  exact ⟨(hb.cell (by omega)).trans a1, (hb.cell (by omega)).trans a2, (hb.cell (by omega)).trans a3, (hb.cell (by omega)).trans a4, (hb.cell (by omega)).trans a5, below_step a6 hb⟩
theorem keep3 {w W W' : World} {p1 p2 p3 : Addr} {v1 v2 v3 : Value} (h1 : p1.block < w.heap.size) (h2 : p2.block < w.heap.size) (h3 : p3.block < w.heap.size)
    (h : W.cell? p1 = some v1 ∧ W.cell? p2 = some v2 ∧ W.cell? p3 = some v3 ∧ Below w.heap.size w W) (hb : Below W.heap.size W W') :
    W'.cell? p1 = some v1 ∧ W'.cell? p2 = some v2 ∧ W'.cell? p3 = some v3 ∧ Below w.heap.size w W' := by
  obtain ⟨a1, a2, a3, a6⟩ := h
  have hs := a6.size
  exact ⟨(hb.cell (by omega)).trans a1, (hb.cell (by omega)).trans a2, (hb.cell (by omega)).trans a3, below_step a6 hb⟩
theorem do_add (x m : Int) (hx : isW x) (h0 : 0 ≤ m) (hm : m ≤ 1048576) : doN 0 x m = wrap32 (x + m) ∧ doE 0 x m = 0 := by
  have h1 : isWb x = true := isWb_of _ hx
  have h2 : isWb m = true := isWb_of _ (by unfold isW; omega)
  have h3 : trapsb 0 m = false := by rw [← Bool.not_eq_true, trapsb_iff]; omega
  have h4 : isOpb 0 = true := by decide
  simp [doN, doE, h1, h2, h3, h4, V0]
end Go.Proofs.Ytgicfgpemcagcaa
/- Walks of prim: Fill, Bin, Pick, Off, Gather. -/
namespace Go.Proofs.Ytgicfgpemcagcaa
set_option linter.unusedVariables false
open Go.RowKit

theorem al1 (w : World) (o1 : Obj) : Below w.heap.size w (w.alloc o1) := (Below.refl _ _).alloc (Nat.le_refl _) _
theorem al2 (w : World) (o1 o2 : Obj) : Below w.heap.size w ((w.alloc o1).alloc o2) := (al1 w o1).alloc (by simp) _
theorem al3 (w : World) (o1 o2 o3 : Obj) : Below w.heap.size w (((w.alloc o1).alloc o2).alloc o3) := (al2 w o1 o2).alloc (by simp; omega) _
theorem al4 (w : World) (o1 o2 o3 o4 : Obj) : Below w.heap.size w ((((w.alloc o1).alloc o2).alloc o3).alloc o4) := (al3 w o1 o2 o3).alloc (by simp; omega) _
theorem Blk.at {w : World} {g : Nat} {t : TypeId} {cs : Array Value} (h : w.heap.size = g) : Blk (w.alloc (.cells cs t)) g t cs := h ▸ Blk.new w t cs
theorem Blk.sl1 {w : World} {g : Nat} {n : Int} (h : Blk w g 3 #[.int .i64 n]) : Sl w (some ⟨g, 0, none⟩) [n] := fun _ => ⟨g, 0, rfl, h.lt, fun j hj => by
  match j, hj with
  | 0, _ => exact h.cell 0⟩
theorem RetL.mono {w w0 : World} {zs : List Int} {er : Int} {e : Ending} {w' : World} (h : RetL w0 zs er e w') (hb : Below w.heap.size w w0) : RetL w zs er e w' := by
  obtain ⟨A, c, h1, h2, h3, h4⟩ := h
  exact ⟨A, c, h1, h2, h3, below_step hb h4⟩
theorem retL_none {w w' : World} {er : Int} {l : List Int} (he : er ≠ 0) (h : Below w.heap.size w w') : RetL w (orL er l) er (.returned (.tuple #[.slice none 0 0, .int .i64 er])) w' := by
  rw [orL_err l he]
  exact ⟨none, 0, rfl, Nat.le_refl _, Sl.nil _ _, h⟩

def gatV (a p : List Int) (k : Nat) : Int := if plB (nth p k) a.length = true then nth a (nth p k).toNat else 0
def gatR (a p : List Int) (k : Nat) : Int := if plB (nth p k) a.length = true then 0 else 14
theorem gat_list {a p : List Int} (h : fe (gatR a p) p.length = 0) : mk (gatV a p) p.length = gatL a p := by
  refine mk_congr fun k hk => ?_
  have := fe_all h k hk
  unfold gatV gatR at *
  split at this
  · rename_i h; rw [if_pos h]
  · simp at this
theorem gat_err {a p : List Int} (h : lsE [a, p] = 0) : gatE a p = fe (gatR a p) p.length := by unfold gatE; rw [if_pos h]; rfl
theorem gat_or {a p : List Int} (h : lsE [a, p] = 0) : orL (fe (gatR a p) p.length) (mk (gatV a p) p.length) = orL (gatE a p) (gatL a p) := by
  rw [gat_err h]
  by_cases he : fe (gatR a p) p.length = 0
  · rw [gat_list he]
  · rw [orL_err _ he, orL_err _ he]
end Go.Proofs.Ytgicfgpemcagcaa
/- Walks of prim: Bin. -/
namespace Go.Proofs.Ytgicfgpemcagcaa
set_option linter.unusedVariables false
open Go.RowKit

theorem Inv.step {w w' : World} (h : Inv w) (hb : Below w.heap.size w w') : Inv w' := h.below hb
def binF (op : Int) (a b : List Int) (k : Nat) : Int := doN op (nth a k) (nth b k)
def binR (op : Int) (a b : List Int) (k : Nat) : Int := doE op (nth a k) (nth b k)
theorem bin_err {op : Int} {a b : List Int} (ho : isOpb op = true) (h : evE [a, b] = 0) : binE op a b = fe (binR op a b) a.length := by unfold binE; rw [if_pos ho, if_pos h]; rfl
theorem bin_ev {op : Int} {a b : List Int} (ho : isOpb op = true) (h : evE [a, b] ≠ 0) : binE op a b = evE [a, b] := by unfold binE; rw [if_pos ho, if_neg h]
theorem bin_no {op : Int} {a b : List Int} (ho : isOpb op = false) : binE op a b = 1 := by unfold binE; rw [ho]; rfl
end Go.Proofs.Ytgicfgpemcagcaa
