/- Walks and mathematics of rank, part 18. -/
import Derived.Test.YtgicfgpemcagcaaG17
import Derived.Deep.RegionHeld3
import Derived.BigQuiet
/- Walks of rank: rowOf's drawn region that makes the row. -/
namespace Go.Proofs.Ytgicfgpemcagcaa
set_option linter.unusedVariables false
set_option maxRecDepth 100000
open Go.RowKit Go.Shelf
theorem el_info : (Try.prog.info? 72).map (fun i => (i.zero, i.size, i.bytes)) = some (some (.agg #[.int .i64 0, .int .i64 0]), 2, 16) := by kernel_rfl
/-- What is made: a box of a pointer to a row. -/
structure RowBox (base : Nat) (W : World) (B g : Nat) (eV sV lV : Value) (ps : List (Int × Int)) (S : List Int) : Prop where
  box : Blk W B 48 #[.pointer (some ⟨g, 0, none⟩)]
  row : Blk W g 67 #[eV, sV, lV]
  els : OwnP W base eV ps
  std : OwnI W base sV S
  boxN : base ≤ B
  rowN : base ≤ g
def elCells (n : Nat) : Array Value := madeCells (Value.agg #[.int .i64 0, .int .i64 0]).cells (n * 2)
theorem make_els (n : Nat) (hn : n ≤ 1048576) (W : World) : (Instr.makeSlice 65 (.int .i64 0) (.int .i64 (n : Int))).run Try.prog W = .ok (.slice (some ⟨W.heap.size, 0, none⟩) 0 n) (W.alloc (.cells (elCells n) 72)) := by
  obtain ⟨i1, hi, hz0, hz1, hz2⟩ := info_parts el_info
  have := run_make W 65 72 i1 _ Try.underlying65 hi hz0 .i64 .i64 0 (n : Int) (Int.le_refl _) (by omega) (by rw [hz2]; omega) (by omega)
  rw [hz1] at this
  exact this
theorem own_els {base n g : Nat} {W : World} (hn : n ≤ 1048576) (hb : base ≤ W.heap.size) (hg : g = W.heap.size) : OwnP (W.alloc (.cells (elCells n) 72)) base (.slice (some ⟨g, 0, none⟩) 0 n) [] := by
  subst hg
  exact World.ownsRow_made W _ n hb (by unfold maxLen; omega) (by unfold elCells; rw [size_madeCells])
theorem make_std (n : Nat) (hn : n ≤ 1048576) (W : World) : (Instr.makeSlice 22 (.int .i64 0) (.int .i64 (n : Int))).run Try.prog W = .ok (.slice (some ⟨W.heap.size, 0, none⟩) 0 n) (W.alloc (.cells (madeCells #[.int .i64 0] n) 3)) := by
  obtain ⟨i1, hi, hz0, hz1, hz2⟩ := info_parts int_info
  have := run_make W 22 3 i1 _ Try.underlying22 hi hz0 .i64 .i64 0 (n : Int) (Int.le_refl _) (by omega) (by rw [hz2]; omega) (by omega)
  rw [hz1, Nat.mul_one] at this
  exact this
theorem own_std {base n g : Nat} {W : World} (hn : n ≤ 1048576) (hb : base ≤ W.heap.size) (hg : g = W.heap.size) : OwnI (W.alloc (.cells (madeCells #[.int .i64 0] n) 3)) base (.slice (some ⟨g, 0, none⟩) 0 n) [] := by
  subst hg
  exact World.ownsRow_made W _ n hb (by unfold maxLen; omega) (by rw [size_madeCells, Nat.mul_one])
theorem Blk.new' {W : World} {t : TypeId} {cs : Array Value} {g : Nat} (hg : g = W.heap.size) : Blk (W.alloc (.cells cs t)) g t cs := by subst hg; exact Blk.new W t cs
theorem Blk.set0 {W : World} {g : Nat} {t : TypeId} {u v : Value} (h : Blk W g t #[u]) : Blk (W.setCell ⟨g, 0, none⟩ v) g t #[v] := h.set_ 0 v
theorem make_els' (base n : Nat) (hn : n ≤ 1048576) : ∃ o : Obj, (∀ W : World, (Instr.makeSlice 65 (.int .i64 0) (.int .i64 (n : Int))).run Try.prog W = .ok (.slice (some ⟨W.heap.size, 0, none⟩) 0 n) (W.alloc o)) ∧ ∀ (W : World) (g : Nat), base ≤ W.heap.size → g = W.heap.size → OwnP (W.alloc o) base (.slice (some ⟨g, 0, none⟩) 0 n) [] := ⟨_, make_els n hn, fun W g hb hg => own_els hn hb hg⟩
theorem make_std' (base n : Nat) (hn : n ≤ 1048576) : ∃ o : Obj, (∀ W : World, (Instr.makeSlice 22 (.int .i64 0) (.int .i64 (n : Int))).run Try.prog W = .ok (.slice (some ⟨W.heap.size, 0, none⟩) 0 n) (W.alloc o)) ∧ ∀ (W : World) (g : Nat), base ≤ W.heap.size → g = W.heap.size → OwnI (W.alloc o) base (.slice (some ⟨g, 0, none⟩) 0 n) [] := ⟨_, make_std n hn, fun W g hb hg => own_std hn hb hg⟩
set_option maxHeartbeats 4000000 in
theorem rowOf_r7 (Q : Exit → Act → World → Prop) (w : World) (base gL : Nat) (hb : base ≤ w.heap.size) (v0 v3 v4 v5 v6 v7 v8 v10 v11 v12 v13 v14 v15 v16 v17 v18 v19 v20 v21 v22 v23 v24 v25 v26 v27 v28 v29 v30 v31 v32 v33 : Value) (A A1 : Option Addr) (n cl m1 c1 : Nat) (hn : n ≤ 1048576)
    (bL : Blk w gL 22 #[.slice A n cl])
    (hQ : ∀ (B g : Nat) (eV sV : Value) (W : World), RowBox base W B g eV sV (.slice A1 m1 c1) [] [] → Below w.heap.size w W → Q .normal ⟨#[v0, .slice A1 m1 c1, .pointer (some ⟨gL, 0, none⟩), v3, v4, v5, v6, v7, v8, .pointer (some ⟨B, 0, none⟩), v10, v11, v12, v13, v14, v15, v16, v17, v18, v19, v20, v21, v22, v23, v24, v25, v26, v27, v28, v29, v30, v31, v32, v33, .slice A n cl, .int .i64 (n : Int), eV, .slice A n cl, .int .i64 (n : Int), sV, .slice A1 m1 c1, .agg #[eV, sV, .slice A1 m1 c1], .pointer (some ⟨g, 0, none⟩), undef, undef, undef, undef, undef, undef, undef, undef, undef, undef, undef, undef, undef, undef, undef, undef, undef, undef, undef, undef, undef, undef, undef, undef, undef, undef, undef, undef, undef, undef, undef, undef, undef, undef, undef, undef, undef, undef, undef, undef, undef, undef, undef, undef, undef, undef, undef], []⟩ W) :
    Code.wp Try.prog (Code.region 7
                    #[{ dst := some 34, op := Op.load 22 (Operand.tmp 2), type := 22, pos := "row.go:31", after := #[],
                        guard := none },
                      { dst := some 35,
                        op :=
                          Op.call
                            { callee := Callee.builtin Builtin.len, args := #[Operand.tmp 34], argTypes := #[22] },
                        type := 3, pos := "row.go:31", after := #[{ on := 0, ground := Ground.data }], guard := none },
                      { dst := some 36,
                        op := Op.makeSlice 65 (Operand.const (Value.int IntKind.i64 0)) (Operand.tmp 35), type := 65,
                        pos := "row.go:31", after := #[{ on := 1, ground := Ground.data }], guard := none },
                      { dst := some 37, op := Op.load 22 (Operand.tmp 2), type := 22, pos := "row.go:31", after := #[],
                        guard := none },
                      { dst := some 38,
                        op :=
                          Op.call
                            { callee := Callee.builtin Builtin.len, args := #[Operand.tmp 37], argTypes := #[22] },
                        type := 3, pos := "row.go:31", after := #[{ on := 3, ground := Ground.data }], guard := none },
                      { dst := some 39,
                        op := Op.makeSlice 22 (Operand.const (Value.int IntKind.i64 0)) (Operand.tmp 38), type := 22,
                        pos := "row.go:31", after := #[{ on := 4, ground := Ground.data }], guard := none },
                      { dst := some 40, op := Op.move (Operand.tmp 1), type := 22, pos := "row.go:31", after := #[],
                        guard := none },
                      { dst := some 41,
                        op := Op.build 67 #[(0, Operand.tmp 36), (1, Operand.tmp 39), (2, Operand.tmp 40)], type := 67,
                        pos := "row.go:31",
                        after :=
                          #[{ on := 2, ground := Ground.data }, { on := 5, ground := Ground.data },
                            { on := 6, ground := Ground.data }],
                        guard := none },
                      { dst := some 42, op := Op.box 67 (Operand.tmp 41), type := 48, pos := "row.go:31",
                        after := #[{ on := 7, ground := Ground.data }], guard := none },
                      { dst := some 9, op := Op.alloc 48, type := 0, pos := "row.go:31", after := #[], guard := none },
                      { dst := none, op := Op.store 48 (Operand.tmp 9) (Operand.tmp 42), type := 0, pos := "row.go:31",
                        after :=
                          #[{ on := 9, ground := Ground.data }, { on := 8, ground := Ground.data },
                            { on := 0, ground := Ground.phase }, { on := 1, ground := Ground.phase },
                            { on := 2, ground := Ground.phase }, { on := 3, ground := Ground.phase },
                            { on := 4, ground := Ground.phase }, { on := 5, ground := Ground.phase },
                            { on := 6, ground := Ground.phase }, { on := 7, ground := Ground.phase },
                            { on := 8, ground := Ground.phase }, { on := 9, ground := Ground.phase }],
                        guard := none }]
                    true) Q ⟨#[v0, .slice A1 m1 c1, .pointer (some ⟨gL, 0, none⟩), v3, v4, v5, v6, v7, v8, undef, v10, v11, v12, v13, v14, v15, v16, v17, v18, v19, v20, v21, v22, v23, v24, v25, v26, v27, v28, v29, v30, v31, v32, v33, undef, undef, undef, undef, undef, undef, undef, undef, undef, undef, undef, undef, undef, undef, undef, undef, undef, undef, undef, undef, undef, undef, undef, undef, undef, undef, undef, undef, undef, undef, undef, undef, undef, undef, undef, undef, undef, undef, undef, undef, undef, undef, undef, undef, undef, undef, undef, undef, undef, undef, undef, undef, undef, undef, undef, undef], []⟩ w := by
  have c0 := bL.cell 0
  simp at c0
  obtain ⟨oE, hmE, hoE⟩ := make_els' base n hn
  obtain ⟨oS, hmS, hoS⟩ := make_std' base n hn
  have HE := Lib.hid hoE
  have HS := Lib.hid hoS
  clear hoE hoS
  have hgL := bL.lt
  have KS : ∀ (W : World) (o : Obj), (gL < W.heap.size ∧ W.cell? ⟨gL, 0, none⟩ = some (.slice A n cl)) → (gL < (W.alloc o).heap.size ∧ (W.alloc o).cell? ⟨gL, 0, none⟩ = some (.slice A n cl)) := fun W o h => ⟨by simp; omega, (World.cell?_of_block (Below.heap_alloc W o gL h.1)).trans h.2⟩
  have KT : ∀ (W : World) (p : Addr) (v : Value), gL ≠ p.block → (gL < W.heap.size ∧ W.cell? ⟨gL, 0, none⟩ = some (.slice A n cl)) → (gL < (W.setCell p v).heap.size ∧ (W.setCell p v).cell? ⟨gL, 0, none⟩ = some (.slice A n cl)) := fun W p v hp h => ⟨by simp; omega, (World.cell?_of_block (Below.heap_setCell W p v gL hp)).trans h.2⟩
  go_region_held3 (fun W => gL < W.heap.size ∧ W.cell? ⟨gL, 0, none⟩ = some (.slice A n cl)) (first | exact ⟨hgL, c0⟩ | assumption | exact KS _ _ (KS _ _ (KS _ _ (KS _ _ ⟨hgL, c0⟩))) | exact KS _ _ (by assumption) | exact KS _ _ (KS _ _ (by assumption)) | exact KT _ _ _ (by simp; omega) (by assumption)) (fail)
  all_goals refine hQ _ _ _ _ _ ⟨(by repeat' (first | exact Blk.new' (by simp) | refine Blk.drew ?_ | refine Blk.alloc ?_ _)), (by repeat' (first | exact Blk.new' (by simp) | refine Blk.drew ?_ | refine Blk.alloc ?_ _)), (by repeat' (first | exact HE.out _ _ (by (try simp); omega) (by simp) | refine OwnP.drew ?_ | refine OwnP.alloc ?_ _)), (by repeat' (first | exact HS.out _ _ (by (try simp); omega) (by simp) | refine OwnI.drew ?_ | refine OwnI.alloc ?_ _)), by omega, by omega⟩ (by repeat' (first | exact Below.refl _ _ | refine Below.drew ?_ | refine Below.alloc ?_ (by (try simp); try omega) _))
end Go.Proofs.Ytgicfgpemcagcaa
/- A row in memory: its box, its three slices; what an append to one of them, stored back, makes of it. -/
namespace Go.Proofs.Ytgicfgpemcagcaa
set_option linter.unusedVariables false
set_option maxRecDepth 100000
open Go.RowKit Go.Shelf
theorem own_apart {W : World} {base base' : Nat} {eV sV : Value} {ps : List (Int × Int)} {S : List Int} (h : OwnP W base eV ps) (h' : OwnI W base' sV S) : (sV.ownBlock = none ∨ sV.ownBlock ≠ eV.ownBlock) ∧ (eV.ownBlock = none ∨ eV.ownBlock ≠ sV.ownBlock) := by
  rcases h.2 with ⟨rfl, _⟩ | ⟨p, cp, cu, rfl, _, hp, _⟩
  · refine ⟨?_, .inl rfl⟩
    rcases h'.2 with ⟨rfl, _⟩ | ⟨q, cq, cu', rfl, _, hq, _⟩
    · exact .inl rfl
    · exact .inr (by simp [Value.ownBlock])
  · rcases h'.2 with ⟨rfl, _⟩ | ⟨q, cq, cu', rfl, _, hq, _⟩
    · exact ⟨.inl rfl, .inr (by simp [Value.ownBlock])⟩
    · have hne : q ≠ p := fun e => by subst e; rw [hp] at hq; cases hq
      exact ⟨.inr (by simpa [Value.ownBlock] using hne), .inr (by simpa [Value.ownBlock] using hne.symm)⟩
theorem OwnI.cellsBlock {W : World} {base : Nat} {v : Value} {zs : List Int} (h : OwnI W base v zs) : ∀ j o, v.ownBlock = some j → W.heap[j]? = some o → o.isCells = true := fun j o ej hj => by
  rcases h.2 with ⟨rfl, _⟩ | ⟨q, cap, cur, rfl, _, hgb, _⟩
  · simp [Value.ownBlock] at ej
  · obtain rfl : q = j := by simpa [Value.ownBlock] using ej
    rw [hgb] at hj; cases hj; rfl
theorem OwnP.cellsBlock {W : World} {base : Nat} {v : Value} {zs : List (Int × Int)} (h : OwnP W base v zs) : ∀ j o, v.ownBlock = some j → W.heap[j]? = some o → o.isCells = true := fun j o ej hj => by
  rcases h.2 with ⟨rfl, _⟩ | ⟨q, cap, cur, rfl, _, hgb, _⟩
  · simp [Value.ownBlock] at ej
  · obtain rfl : q = j := by simpa [Value.ownBlock] using ej
    rw [hgb] at hj; cases hj; rfl
/-- A row at g. -/
structure RowAt (W : World) (base g : Nat) (eV sV lV : Value) (ps : List (Int × Int)) (S : List Int) : Prop where
  row : Blk W g 67 #[eV, sV, lV]
  els : OwnP W base eV ps
  std : OwnI W base sV S
section
variable {W W1 : World} {base g : Nat} {eV sV lV : Value} {ps : List (Int × Int)} {S : List Int}
theorem RowAt.aside {Y : World} {B : Nat} {row : Option Nat} (h : RowAt W base g eV sV lV ps S) (hg : W.grownBy Y row) (hr : Aside B W row) : RowAt Y base g eV sV lV ps S := ⟨h.row.aside hg hr, h.els.aside hg hr, h.std.aside hg hr⟩
theorem RowAt.alloc (h : RowAt W base g eV sV lV ps S) (o : Obj) : RowAt (W.alloc o) base g eV sV lV ps S := ⟨h.row.alloc o, h.els.alloc o, h.std.alloc o⟩
theorem OwnP.below {w w' : World} {base B : Nat} {v : Value} {zs : List (Int × Int)} (h : OwnP w base v zs) (hb : Below B w w') (hB : w.heap.size ≤ B) : OwnP w' base v zs := by
  refine ⟨h.1, ?_⟩
  rcases h.2 with h0 | ⟨g, cap, cur, e, h1, h2, h3⟩
  · exact .inl h0
  · exact .inr ⟨g, cap, cur, e, h1, (hb.block g (Nat.lt_of_lt_of_le (Array.getElem?_eq_some_iff.1 h2).1 hB)).trans h2, h3⟩
theorem RowAt.step (h : RowAt W base g eV sV lV ps S) (hb : Below W.heap.size W W1) : RowAt W1 base g eV sV lV ps S := ⟨h.row.below hb h.row.lt, h.els.below hb (Nat.le_refl _), h.std.below hb (Nat.le_refl _)⟩
/-- What is known behind an append to one of its slices, stored back. -/
structure RowStep (W W2 : World) (base g : Nat) (eV sV lV : Value) (ps : List (Int × Int)) (S : List Int) : Prop where
  at_ : RowAt W2 base g eV sV lV ps S
  others : KeepsOthers W W2
  below : Below base W W2
  keep : ∀ b t cs, Blk W b t cs → b ≠ g → t ≠ 3 → t ≠ 72 → Blk W2 b t cs
  size : W.heap.size ≤ W2.heap.size
theorem RowAt.stdStep {o : Obj} {v' : Value} {y : Int} (h : RowAt W base g eV sV lV ps S) (hb : base ≤ W.heap.size) (hgb : base ≤ g) (hown : W1.ownsRow base 3 1 v' (S.length + 1) (S.map (Value.int .i64) ++ [.int .i64 y])) (hgr : (W.alloc o).grownBy W1 sV.ownBlock) :
    Blk W1 g 67 #[eV, sV, lV] ∧ RowStep W (W1.setCell ⟨g, 1, none⟩ v') base g eV v' lV ps (S ++ [y]) := by
  have hr := h.row.alloc o
  have hne : some g ≠ sV.ownBlock := h.row.not_row (by decide) h.std
  have k1 : Blk W1 g 67 #[eV, sV, lV] := hr.grown hgr hne
  have o1 := OwnI.snoc hown
  have hB1 := below_append (Below.refl base W) hb h.std hgr
  have hvb : v'.ownBlock ≠ some g := fun e => k1.not_row (by decide) o1 e.symm
  have e1 : OwnP W1 base eV ps := (h.els.alloc o).kept hgr (own_apart h.els h.std).2
  refine ⟨k1, ⟨by simpa using k1.set_ 1 v', e1.kept (grownBy_set _ _ _) ?_, o1.kept (grownBy_set _ _ _) (.inr hvb)⟩, ((KeepsOthers.alloc W o).trans (KeepsOthers.of_grownBy hgr (fun j o' ej hj => (h.std.alloc o).cellsBlock j o' ej hj))).trans (KeepsOthers.setCell W1 _ _), hB1.setCell (p := ⟨g, 1, none⟩) hgb _, fun b t cs hbk hbg h3 h72 => ?_, by have := hgr.size; simp at this ⊢; omega⟩
  · exact .inr (fun e => k1.not_rowP (by decide) e1 e.symm)
  · exact (((hbk.alloc o).grown hgr (hbk.not_row h3 h.std)).far (p := ⟨g, 1, none⟩) hbg v')
theorem RowAt.elsStep {o : Obj} {v' : Value} {y z : Int} (h : RowAt W base g eV sV lV ps S) (hb : base ≤ W.heap.size) (hgb : base ≤ g) (hown : W1.ownsRow base 72 2 v' (ps.length + 1) (fl ps ++ [.int .i64 y, .int .i64 z])) (hgr : (W.alloc o).grownBy W1 eV.ownBlock) :
    Blk W1 g 67 #[eV, sV, lV] ∧ RowStep W (W1.setCell ⟨g, 0, none⟩ v') base g v' sV lV (ps ++ [(y, z)]) S := by
  have hr := h.row.alloc o
  have hne : some g ≠ eV.ownBlock := h.row.not_rowP (by decide) h.els
  have k1 : Blk W1 g 67 #[eV, sV, lV] := hr.grown hgr hne
  have o1 := OwnP.snoc hown
  have hB1 : Below base W W1 := ((Below.refl base W).alloc hb o).grown hgr (by simp; omega) (fun k e => (h.els.lt k e).1)
  have hvb : v'.ownBlock ≠ some g := fun e => k1.not_rowP (by decide) o1 e.symm
  have e1 : OwnI W1 base sV S := (h.std.alloc o).kept hgr (own_apart h.els h.std).1
  refine ⟨k1, ⟨by simpa using k1.set_ 0 v', o1.kept (grownBy_set _ _ _) (.inr hvb), e1.kept (grownBy_set _ _ _) ?_⟩, ((KeepsOthers.alloc W o).trans (KeepsOthers.of_grownBy hgr (fun j o' ej hj => (h.els.alloc o).cellsBlock j o' ej hj))).trans (KeepsOthers.setCell W1 _ _), hB1.setCell (p := ⟨g, 0, none⟩) hgb _, fun b t cs hbk hbg h3 h72 => ?_, by have := hgr.size; simp at this ⊢; omega⟩
  · exact .inr (fun e => k1.not_row (by decide) e1 e.symm)
  · exact (((hbk.alloc o).grown hgr (hbk.not_rowP h72 h.els)).far (p := ⟨g, 0, none⟩) hbg v')
end
/-- An append of new elements, as a heavy operation of a drawn region. -/
theorem hv_append {F : Fence} {n : Nat} {P : Program} {S : World → Prop} {L : Act → World → Prop} {o : Oper} {r : List Oper} {a : Act} (X : World) (sl x : Operand) (t e : TypeId) (ho : o.op = .call { callee := .builtin .append, args := #[sl, x], argTypes := #[t, t] })
    (i : TypeInfo) (z : Value) (size bytes : Nat) (ht : P.underlying t = some (.slice e)) (hi : P.info? e = some i) (hz : i.zero = some z) (hsize : i.size = size) (hby : i.bytes = bytes) (hzs : z.cells.size = size) (hsz : 0 < size)
    (base : Nat) (u : Value) (k : Nat) (xs : List Value) (hs : a.eval sl = u) (hown : X.ownsRow base e size u k xs) (B : Addr) (m c : Nat) (news : List Value) (hx : a.eval x = .slice (some B) m c) (hl : news.length = m * size) (hnews : ∀ j u, news[j]? = some u → X.cell? (B.add j) = some u) (h1 : ∀ u ∈ news, u.oneCell' = true)
    (h63 : k + m ≤ maxLen) (hbytes : (k + m) * bytes ≤ 140737488355328) (hbase : base ≤ X.heap.size)
    (h : ∀ v' w', w'.ownsRow base e size v' (k + m) (xs ++ news) → X.grownBy w' u.ownBlock → S w' ∧ wpHvs F n P S L r (a.put o.dst v') w') : wpHvs F n P S L (o :: r) a X := by
  obtain ⟨v', w', hr, h2, h3, _, _⟩ := run_append_own_at (P := P) X base t o.type e i z size bytes ht hi hz hsize hby hzs hsz u k xs hown B m c news hl hnews h1 h63 hbytes hbase
  refine wpHvs_value v' w' ?_ (h v' w' h2 h3)
  unfold execOp
  simp only [ho, resolve, invoke, builtin, Sem.run_bind, Sem.run_pure, Result.andThen_ok, List.map_toArray, List.map_cons, List.map_nil, hs, hx, hr]
end Go.Proofs.Ytgicfgpemcagcaa
/- Walks of rank: rowOf, where it makes a row. -/
namespace Go.Proofs.Ytgicfgpemcagcaa
set_option linter.unusedVariables false
set_option maxRecDepth 100000
open Go.RowKit Go.Shelf
attribute [local go_sem] Oper.semAt_some
theorem fr_prefix (n k : Nat) : fr n k <+: List.finRange n := List.take_prefix _ _
/-- The elements of some segments. -/
def elF (l lens : List Int) (pre : List (Fin lens.length)) : List (Int × Int) := pre.flatMap fun x => (sgL l lens x.val).map fun n => (((x.val : Nat) : Int), n)
def elL (l lens : List Int) : List (Int × Int) := elF l lens (List.finRange lens.length)
theorem elF_snoc (l lens : List Int) (pre : List (Fin lens.length)) (x : Fin lens.length) : elF l lens (pre ++ [x]) = elF l lens pre ++ (sgL l lens x.val).map fun n => (((x.val : Nat) : Int), n) := by simp [elF]
theorem elF_prefix {l lens : List Int} {p q : List (Fin lens.length)} (h : p <+: q) : elF l lens p <+: elF l lens q := by
  obtain ⟨r, rfl⟩ := h
  exact ⟨elF l lens r, by simp [elF]⟩
theorem elF_fr_len {l lens : List Int} (hz : Segs l lens) : ∀ (k : Nat), k ≤ lens.length → (elF l lens (fr lens.length k)).length = ofs lens k
  | 0, _ => by rw [ofs_zero]; simp [fr, elF]
  | k + 1, hk => by
    have := hz.step k (by omega)
    rw [fr_succ _ k (by omega), elF_snoc, List.length_append, elF_fr_len hz k (by omega), List.length_map, sg_len hz k (by omega)]
    omega
theorem elL_len {l lens : List Int} (hz : Segs l lens) : (elL l lens).length = l.length := by
  have := elF_fr_len hz lens.length (Nat.le_refl _)
  rw [fr_all, hz.ofs_all] at this
  exact this
theorem el_end {l lens : List Int} {pre : List (Fin lens.length)} {x : Fin lens.length} {j : Nat} {L : List (Int × Int)} (h : L = elF l lens pre ++ ((sgL l lens x.val).take j).map fun n => (((x.val : Nat) : Int), n)) (hj : (sgL l lens x.val).length ≤ j) : L = elF l lens (pre ++ [x]) := by
  rw [elF_snoc, h, List.take_of_length_le hj]
theorem el_more {l lens : List Int} {pre : List (Fin lens.length)} {x : Fin lens.length} {j : Nat} {L : List (Int × Int)} (h : L = elF l lens pre ++ ((sgL l lens x.val).take j).map fun n => (((x.val : Nat) : Int), n)) (hj : j < (sgL l lens x.val).length) : L ++ [(((x.val : Nat) : Int), nth (sgL l lens x.val) j)] = elF l lens pre ++ ((sgL l lens x.val).take (j + 1)).map fun n => (((x.val : Nat) : Int), n) := by
  rw [h, take_snoc _ _ hj, List.map_append, List.append_assoc]; rfl
theorem el_prefix {l lens : List Int} {pre : List (Fin lens.length)} {x : Fin lens.length} {j : Nat} {L : List (Int × Int)} (h : L = elF l lens pre ++ ((sgL l lens x.val).take j).map fun n => (((x.val : Nat) : Int), n)) : L <+: elF l lens (pre ++ [x]) := by
  rw [elF_snoc, h]
  refine (List.prefix_append_right_inj _).2 ?_
  exact (List.take_prefix _ _).map _
/-- What rowOf hands back where nothing fails. -/
def RetRow (l lens : List Int) (A' : Option Addr) (c : Nat) (w : World) (e : Ending) (w' : World) : Prop :=
  ∃ (g : Nat) (eV sV : Value), e = .returned (.tuple #[.pointer (some ⟨g, 0, none⟩), .int .i64 0]) ∧ w.heap.size ≤ g ∧ Blk w' g 67 #[eV, sV, .slice A' lens.length c] ∧ OwnP w' w.heap.size eV (elL l lens) ∧ OwnI w' w.heap.size sV (upL l.length) ∧ Below w.heap.size w w'
theorem up_snoc {S : List Int} {n : Nat} (h : S = upL n) : S ++ [(S.length : Int)] = upL (n + 1) := by
  subst h
  rw [up_length]
  unfold upL
  rw [mk_succ]
theorem ckE_of_segs {l lens : List Int} (hz : Segs l lens) : ckE lens = 0 := by
  have h1 := hz.few
  have h2 := hz.short
  have h3 := hz.sum
  have h4 : isNeg lens = false := isNeg_none lens (fun j hj => posB_of hz.pos j hj)
  unfold ckE
  rw [if_neg (by omega)]
  exact (sumE_ok h4 (by omega)).1
set_option maxHeartbeats 8000000 in
theorem rowOf_ok (A A' : Option Addr) (c cl : Nat) (l lens : List Int) (w : World) (h : Sl w A l) (hcl : l.length ≤ cl) (k : Ok l) (h' : Sl w A' lens) (hc' : lens.length ≤ c) (k' : Ok lens) (he : lsE [l, lens] = 0) (hz : Segs l lens) :
    Calls Try.prog 49 #[.slice A l.length cl, .slice A' lens.length c] w (RetRow l lens A' c w) := by
  have C1 := Lib.hid (fun g W (hb : Blk W g 22 #[.slice A l.length cl, .slice A' lens.length c]) hW hW' => rkcheck2_any g A A' c cl l lens W hb hW hW' hcl hc')
  have C2 := fun W (hW : Sl W A' lens) => sgcheck_any A' c lens W hW k'
  rw [he] at C1
  have hck : ckE lens = 0 ∧ ckN lens = (l.length : Int) := by
    have h1 : ckE lens = 0 := ckE_of_segs hz
    exact ⟨h1, by rw [(ck_ok h1).2.2.2.2, hz.sum]⟩
  rw [hck.1, hck.2] at C2
  have C2 := Lib.hid C2
  have hdl : ((l.length : Int) != (l.length : Int)) = false := by simp
  clear he hck
  have hlen := hz.few
  have hll := hz.short
  refine (callsIn_wide (n := 8)).1 ?_
  refine callsIn_of_wp_marks Try.func49 rfl trivial ?_ rfl
  simp only [Try.ntmps49, List.size_toArray, List.length_cons, List.length_nil, Nat.reduceAdd, Nat.reduceSub, Array.replicate_succ, Array.replicate_zero, List.push_toArray, List.append_toArray, List.nil_append, List.cons_append]
  have hB0 : Below w.heap.size w ((w.alloc (.cells #[.slice A l.length cl] 22)).alloc (.cells #[.slice A l.length cl, .slice A' lens.length c] 22)) := ((Below.refl _ _).alloc (Nat.le_refl _) _).alloc (by simp) _
  have bL := (Blk.new w 22 #[.slice A l.length cl]).alloc (.cells #[.slice A l.length cl, .slice A' lens.length c] 22)
  have bA := Blk.new (w.alloc (.cells #[.slice A l.length cl] 22)) 22 #[.slice A l.length cl, .slice A' lens.length c]
  simp only [World.size_alloc] at bA
  gi_wp2
  refine wpIn_scope ?_
  gi_wp2_with (first | (refine ⟨trivial, ?_⟩; gi_at_call 58; refine (callsIn_wide.2 (C1.out _ _ bA (h.step hB0) (h'.step hB0))).mono ?_; rintro e w1 ⟨rfl, hB1⟩; have hB := hB0.trans (hB1.mono hB0.size); have cL := (bL.below hB1 bL.lt)) | (refine ⟨trivial, ?_⟩; gi_at_call 68; refine (callsIn_wide.2 (C2.out _ (h'.step hB))).mono ?_; rintro e w2 ⟨rfl, hB2⟩; have hBB := hB.trans (hB2.mono hB.size); have cL2 := (cL.below hB2 cL.lt); have cL3 := cL2.cell 0; simp at cL3))
  clear C1 C2 bA bL hB hB0 hB1 hB2 cL cL3
  have hs2 := hBB.size
  refine wpIn_wide.2 (rowOf_r7 _ _ w.heap.size w.heap.size (by omega) _ _ _ _ _ _ _ _ _ _ _ _ _ _ _ _ _ _ _ _ _ _ _ _ _ _ _ _ _ _ _ _ _ _ _ _ _ hll cL2 ?_)
  rintro B g eV sV W ⟨r1, r2, r3, r4, r5, r6⟩ hBr
  have hBW := hBB.trans (hBr.mono hs2)
  have bL := cL2.below hBr cL2.lt
  have cl1 := bL.cell 0
  simp at cl1
  clear cL2 hBB hBr
  gi_wp2
  refine wpIn_label ?_
  gi_wp2_with (refine ⟨trivial, ?_⟩; gi_at_call 69; refine (callsIn_wide.2 (segments_any _ _ ⟨_, _, _, rfl⟩ ⟨_, _, _, rfl⟩ _)).mono ?_; rintro e w' ⟨rfl, rfl⟩)
  have hsW : w.heap.size + 2 ≤ W.heap.size := by have := hBW.size; have := r1.lt; have := r2.lt; have := bL.lt; have hne : B ≠ g := fun e => (by subst e; unfold Blk at r1 r2; rw [r1] at r2; cases r2); omega
  have b1 := (Blk.new W 22 #[.slice A l.length cl]).alloc (.cells #[.slice A' lens.length c] 22)
  have b2 := Blk.new (W.alloc (.cells #[.slice A l.length cl] 22)) 22 #[.slice A' lens.length c]
  simp only [World.size_alloc] at b2
  have bB := (r1.alloc (.cells #[.slice A l.length cl] 22)).alloc (.cells #[.slice A' lens.length c] 22)
  have bR : RowAt ((W.alloc (.cells #[.slice A l.length cl] 22)).alloc (.cells #[.slice A' lens.length c] 22)) w.heap.size g eV sV (.slice A' lens.length c) [] [] := (RowAt.alloc ⟨r2, r3, r4⟩ _).alloc _
  have bG := (bL.alloc (.cells #[.slice A l.length cl] 22)).alloc (.cells #[.slice A' lens.length c] 22)
  have hB0 : Below w.heap.size w ((W.alloc (.cells #[.slice A l.length cl] 22)).alloc (.cells #[.slice A' lens.length c] 22)) := (hBW.alloc hBW.size _).alloc (by have := hBW.size; simp; omega) _
  have hsz : ((W.alloc (.cells #[.slice A l.length cl] 22)).alloc (.cells #[.slice A' lens.length c] 22)).heap.size = W.heap.size + 2 := by simp
  have hBn : B < W.heap.size := r1.lt
  have hgn : g < W.heap.size := r2.lt
  obtain ⟨W0, hW0⟩ : ∃ W0, (W.alloc (.cells #[.slice A l.length cl] 22)).alloc (.cells #[.slice A' lens.length c] 22) = W0 := ⟨_, rfl⟩
  rw [hW0] at b1 b2 bB bR bG hB0 hsz ⊢
  clear hW0 r1 r2 r3 r4 bL cl1
  refine wpIn_rangeFunc_ownH rfl (by omega) (gf := 82) (lb := #[.pointer (some ⟨W.heap.size + 1, 0, none⟩), .pointer (some ⟨W.heap.size, 0, none⟩)]) rfl trivial (enters_of Try.func82 (by kernel_rfl) rfl)
    (segs_stops Fence.wide (8 - 1) trivial rfl (by omega) W.heap.size (W.heap.size + 1) w.heap.size c cl A A' l lens hz hcl W0 (by omega) (by omega) (b2.cell 0) b1 (fun h0 => by
      obtain ⟨b, off, e, hb, hcs⟩ := h' h0
      exact ⟨b, off, e, hb, fun j hj => (hB0.cell (p := ⟨b, off + j, none⟩) hb).trans (hcs j hj)⟩)) kpB_t (kpB_b (by omega) (by omega)) (Below.refl _ _) (fun _ => rfl)
    (fun pre Y => ∃ (eV' sV' : Value) (S : List Int), Blk Y B 48 #[.pointer (some ⟨g, 0, none⟩)] ∧ RowAt Y w.heap.size g eV' sV' (.slice A' lens.length c) (elF l lens pre) S ∧ S = upL (elF l lens pre).length ∧ Blk Y w.heap.size 22 #[.slice A l.length cl] ∧ Blk Y W.heap.size 22 #[.slice A l.length cl] ∧ ((elF l lens pre).length < l.length ∨ (l.length = 0 ∧ elF l lens pre = [])) ∧ Below w.heap.size w Y)
    (fun cd pre Y => cd = .exit 0 ∧ ∃ (eV' sV' : Value) (S : List Int) (L : List (Int × Int)), Blk Y B 48 #[.pointer (some ⟨g, 0, none⟩)] ∧ RowAt Y w.heap.size g eV' sV' (.slice A' lens.length c) L S ∧ S = upL L.length ∧ L <+: elF l lens pre ∧ L.length = l.length ∧ Below w.heap.size w Y)
    (fun _ X Y row hs hg hr => by
      obtain ⟨eV', sV', S, h1, h2, h3, h4, h4b, h5, h6⟩ := hs
      exact ⟨eV', sV', S, h1.aside hg hr, h2.aside hg hr, h3, h4.aside hg hr, h4b.aside hg hr, h5, below_aside h6 (Nat.le_refl _) (by omega) hg hr⟩)
    (fun cd _ X Y row hs hg hr => by
      obtain ⟨h0, eV', sV', S, L, h1, h2, h3, h4, h5, h6⟩ := hs
      exact ⟨h0, eV', sV', S, L, h1.aside hg hr, h2.aside hg hr, h3, h4, h5, below_aside h6 (Nat.le_refl _) (by omega) hg hr⟩)
    ⟨eV, sV, [], bB, bR, rfl, bG, b1, by rcases Nat.eq_zero_or_pos l.length with h0 | h0; exact .inr ⟨h0, rfl⟩; exact .inl h0, hB0⟩
    (fun x' a' Y => a' = ⟨#[Value.slice A l.length cl, Value.slice A' lens.length c, .pointer (some ⟨w.heap.size, 0, none⟩), undef, .pointer none, .int .i64 0, .int .i64 0, .int .i64 (l.length : Int), .int .i64 0, .pointer (some ⟨B, 0, none⟩), .int .i64 ((x'.val : Nat) : Int), (.slice (sgA A (ofs lens x'.val) (ofs lens (x'.val + 1))) (ofs lens (x'.val + 1) - ofs lens x'.val) (ofs lens (x'.val + 1) - ofs lens x'.val)), undef, undef, .slice A l.length cl, .slice A' lens.length c, .slice (some ⟨w.heap.size + 1, 0, none⟩) 2 2, .int .i64 0, .int .i64 0, .bool false, undef, .tuple #[.int .i64 (l.length : Int), .int .i64 0], .slice A' lens.length c, .tuple #[.int .i64 (l.length : Int), .int .i64 0], .int .i64 (l.length : Int), .int .i64 0, .int .i64 0, .bool false, .bool false, .int .i64 (l.length : Int), .slice A l.length cl, .int .i64 (l.length : Int), .bool false, .bool false, .slice A l.length cl, .int .i64 (l.length : Int), eV, .slice A l.length cl, .int .i64 (l.length : Int), sV, .slice A' lens.length c, .agg #[eV, sV, .slice A' lens.length c], .pointer (some ⟨g, 0, none⟩), .slice A l.length cl, .slice A' lens.length c, .func (.func 82) #[] #[.pointer (some ⟨W.heap.size + 1, 0, none⟩), .pointer (some ⟨W.heap.size, 0, none⟩)], .int .i64 ((x'.val : Nat) : Int), (.slice (sgA A (ofs lens x'.val) (ofs lens (x'.val + 1))) (ofs lens (x'.val + 1) - ofs lens x'.val) (ofs lens (x'.val + 1) - ofs lens x'.val)), undef, undef, undef, undef, undef, undef, undef, undef, undef, undef, undef, undef, undef, undef, undef, undef, undef, undef, undef, undef, undef, undef, undef, undef, undef, undef, undef, undef, undef, undef, undef, undef, undef, undef, undef, undef, undef, undef, undef, undef, undef, undef], []⟩)
    (fun x a' _ X Y row hs hg hr => hs)
    ?assign ?body ?done ?stop
  case assign =>
    rintro i pre x' Y K hI hK
    simp only [segV]
    gi_wp2
    exact hK _ _ (KeepsFrom.refl _ _) (kpB_refl _ _ _) hI rfl
  case body =>
    rintro i pre x' a' Y hl' ⟨r, hr⟩ ⟨eV1, sV1, S1, h1, h2, h3, h4, h4b, h5, h6⟩ rfl hlt
    have hx := x'.isLt
    obtain ⟨e1, e2, e3, e4, e5⟩ := hz.step x'.val hx
    have hsgl := sg_len hz x'.val hx
    have hsl := sl_sg h e2 e3
    have hsl : Sl w (sgA A (ofs lens x'.val) (ofs lens (x'.val + 1))) (sgL l lens x'.val) := hsl
    have HEND := Lib.hid (fun (j : Nat) (L : List (Int × Int)) a b => el_end (l := l) (lens := lens) (pre := pre) (x := x') (j := j) (L := L) a b)
    have HMOR := Lib.hid (fun (j : Nat) (L : List (Int × Int)) a b => el_more (l := l) (lens := lens) (pre := pre) (x := x') (j := j) (L := L) a b)
    have HPRE := Lib.hid (fun (j : Nat) (L : List (Int × Int)) a => el_prefix (l := l) (lens := lens) (pre := pre) (x := x') (j := j) (L := L) a)
    obtain ⟨sA, hsA⟩ : ∃ sA, sgA A (ofs lens x'.val) (ofs lens (x'.val + 1)) = sA := ⟨_, rfl⟩
    obtain ⟨s, hs⟩ : ∃ s, sgL l lens x'.val = s := ⟨_, rfl⟩
    rw [hs] at hsgl hsl HEND HMOR HPRE
    rw [← hsgl, hsA]
    rw [hsA] at hsl
    have hsn : s.length ≤ l.length := by omega
    clear e1 e2 e3 e4 e5 hsgl hs hsA
    have hNs := h6.size
    gi_wp2
    gi_loopw [50] (fun i wr => ∃ (j : Nat) (L : List (Int × Int)) (eV2 sV2 : Value) (S : List Int), j ≤ s.length ∧ i = .int .i64 j ∧ Hid (L = elF l lens pre ++ (s.take j).map fun n => (((x'.val : Nat) : Int), n)) ∧ Blk wr B 48 #[.pointer (some ⟨g, 0, none⟩)] ∧ RowAt wr w.heap.size g eV2 sV2 (.slice A' lens.length c) L S ∧ Hid (S = upL L.length) ∧ Blk wr w.heap.size 22 #[.slice A l.length cl] ∧ Blk wr W.heap.size 22 #[.slice A l.length cl] ∧ Hid (L.length < l.length ∨ (l.length = 0 ∧ L = [])) ∧ KeepsFrom W0.heap.size Y wr ∧ KpB w.heap.size W.heap.size Y wr ∧ Below w.heap.size Y wr)
      (fun i _ => s.length - (intOf i).toNat)
    case atStart => exact ⟨0, elF l lens pre, eV1, sV1, S1, Nat.zero_le _, rfl, Lib.hid (by simp), h1, h2, Lib.hid h3, h4, h4b, Lib.hid h5, KeepsFrom.refl _ _, kpB_refl _ _ _, Below.refl _ _⟩
    case round =>
      obtain ⟨j, L, eV2, sV2, S, hj, rfl, HL, j1, j2, HS, j4, j4b, HM, j5, j6, j7⟩ := hrel
      by_cases hjl : j < s.length
      · have HLT : Hid (L.length < l.length) := Lib.hid (by
          rcases HM.out with h | h
          · exact h
          · omega)
        have HSL : Hid (S.length = L.length) := Lib.hid (by rw [HS.out, up_length])
        have j8 := (h6.trans j7).size
        obtain ⟨bs, os, rfl, hbs, hcs⟩ := (hsl.step (h6.trans j7)).at_ hjl
        obtain ⟨q, hq⟩ : ∃ q, nth s j = q := ⟨_, rfl⟩
        rw [hq] at hcs
        have HQ := Lib.hid hq
        clear hq
        obtain ⟨A3, c3, rfl, hc3, _⟩ := j2.std.form
        obtain ⟨i0, hi, hz0, hz1, hz2⟩ := info_parts int_info
        obtain ⟨i1, hi', hz0', hz1', hz2'⟩ := info_parts el_info
        have g0 : (0 : Int) ≤ (j : Int) := by omega
        have g1 : (j : Int) < (s.length : Int) := by omega
        have j2' := j2.step ((Below.refl _ _).drew)
        have HJ2 := Lib.hid j2
        gi_wp2
        refine wpIn_region_mix' (fun W' => Blk W' B 48 #[.pointer (some ⟨g, 0, none⟩)] ∧ Blk W' g 67 #[eV2, .slice A3 S.length c3, .slice A' lens.length c]) [false, false, false, false, false, false, false, false, false, false, true, true, false, false] (fun _ => trivial) rfl (by kernel_rfl) (by kernel_rfl) ⟨j1.drew, j2.row.drew⟩ ?_
        simp only [mixT, mixH, mixD]
        have LT : ∀ W', (Blk W' B 48 #[.pointer (some ⟨g, 0, none⟩)] ∧ Blk W' g 67 #[eV2, .slice A3 S.length c3, .slice A' lens.length c]) → W'.cell? ⟨B, 0, none⟩ = some (.pointer (some ⟨g, 0, none⟩)) ∧ W'.cell? ⟨g, 1, none⟩ = some (.slice A3 S.length c3) := fun W' hW => ⟨hW.1.cell 0, hW.2.cell 1⟩
        iterate 10 (refine wpLts_light ?_ (fun W' hW => ?_) ?_; rotate_left; (obtain ⟨q0, q1⟩ := LT W' hW; go_simp; try with_reducible rfl); simp only [Act.put, List.setIfInBounds_toArray, List.set_cons_zero, List.set_cons_succ])
        refine wpLts_heavy (wpLts_heavy ?_)
        iterate 2 (refine wpLts_light ?_ (fun W' hW => ?_) ?_; rotate_left; (obtain ⟨q0, q1⟩ := LT W' hW; go_simp; try with_reducible rfl); simp only [Act.put, List.setIfInBounds_toArray, List.set_cons_zero, List.set_cons_succ])
        refine wpLts_nil ?_
        refine wpHvs_value (.slice (some ⟨wr.drew.heap.size, 0, none⟩) 1 1) (wr.drew.alloc (.cells #[.int .i64 (S.length : Int)] 3)) (by go_simp; try with_reducible rfl) ⟨⟨j1.drew.alloc _, j2.row.drew.alloc _⟩, ?_⟩
        simp only [Act.put, List.setIfInBounds_toArray, List.set_cons_zero, List.set_cons_succ]
        refine hv_append (wr.drew.alloc (.cells #[.int .i64 (S.length : Int)] 3)) (.tmp 58) (.tmp 64) 22 3 rfl i0 (.int .i64 0) 1 8 Try.underlying22 hi hz0 hz1 hz2 rfl (by decide) w.heap.size (.slice A3 S.length c3) S.length (S.map (Value.int .i64)) (by go_simp) (j2'.std.alloc _) ⟨wr.drew.heap.size, 0, none⟩ 1 1 [.int .i64 (S.length : Int)] (by go_simp) rfl (cell_one_new _ _ _) (by simp [Value.oneCell']) (by have := HSL.out; have := HLT.out; unfold maxLen; omega) (by have := HSL.out; have := HLT.out; omega) (by simp; omega) ?_
        intro v' w1 hown hgrow
        obtain ⟨k1, st⟩ := j2'.stdStep (by simpa using j8) r6 hown hgrow
        have kB := (j1.drew.alloc (.cells #[.int .i64 (S.length : Int)] 3)).grown hgrow (j1.drew.not_row (by decide) j2'.std)
        refine ⟨⟨kB, k1⟩, ?_⟩
        simp only [Act.put, List.setIfInBounds_toArray, List.set_cons_zero, List.set_cons_succ]
        refine wpHvs_nil ?_
        have cc1 := k1.cell 1
        have ff1 := k1.frozen 1
        simp at cc1
        obtain ⟨A5, c5, rfl, hc5, _⟩ := (OwnI.snoc hown).form
        obtain ⟨S', hS'⟩ : ∃ S', S ++ [(S.length : Int)] = S' := ⟨_, rfl⟩
        rw [hS'] at st hc5 ⊢
        have HS' := Lib.hid hS'
        have hSl' : S'.length = S.length + 1 := by rw [← hS']; simp
        have HSL' := Lib.hid hSl'
        clear hS' hSl' hown hgrow k1 LT
        have bB2 := st.keep B _ _ j1.drew (by rintro rfl; have := j1; unfold Blk at this; have h9 := j2.row; unfold Blk at h9; rw [this] at h9; cases h9) (by decide) (by decide)
        gi_wp2
        obtain ⟨wb, hwb⟩ : ∃ wb, w1.setCell ⟨g, 1, none⟩ (.slice A5 S'.length c5) = wb := ⟨_, rfl⟩
        rw [hwb] at st bB2 ⊢
        clear hwb cc1 ff1 kB
        have r3 := st.at_.step ((Below.refl _ _).drew)
        have s3 := st.size
        have s4 : wr.heap.size ≤ wb.heap.size := s3
        refine wpIn_region_mix' (fun W' => Blk W' B 48 #[.pointer (some ⟨g, 0, none⟩)] ∧ Blk W' g 67 #[eV2, .slice A5 S'.length c5, .slice A' lens.length c]) [false, false, false, false, false, false, false, false, true, true, false, false] (fun _ => trivial) rfl (by kernel_rfl) (by kernel_rfl) ⟨bB2.drew, st.at_.row.drew⟩ ?_
        simp only [mixT, mixH, mixD]
        have LT : ∀ W', (Blk W' B 48 #[.pointer (some ⟨g, 0, none⟩)] ∧ Blk W' g 67 #[eV2, .slice A5 S'.length c5, .slice A' lens.length c]) → W'.cell? ⟨B, 0, none⟩ = some (.pointer (some ⟨g, 0, none⟩)) ∧ W'.cell? ⟨g, 0, none⟩ = some eV2 := fun W' hW => ⟨hW.1.cell 0, hW.2.cell 0⟩
        iterate 8 (refine wpLts_light ?_ (fun W' hW => ?_) ?_; rotate_left; (obtain ⟨q0, q1⟩ := LT W' hW; go_simp; try with_reducible rfl); simp only [Act.put, List.setIfInBounds_toArray, List.set_cons_zero, List.set_cons_succ])
        refine wpLts_heavy (wpLts_heavy ?_)
        iterate 2 (refine wpLts_light ?_ (fun W' hW => ?_) ?_; rotate_left; (obtain ⟨q0, q1⟩ := LT W' hW; go_simp; try with_reducible rfl); simp only [Act.put, List.setIfInBounds_toArray, List.set_cons_zero, List.set_cons_succ])
        refine wpLts_nil ?_
        refine wpHvs_value (.slice (some ⟨wb.drew.heap.size, 0, none⟩) 1 1) (wb.drew.alloc (.cells #[.int .i64 ((x'.val : Nat) : Int), .int .i64 q] 72)) (by go_simp; try with_reducible rfl) ⟨⟨bB2.drew.alloc _, st.at_.row.drew.alloc _⟩, ?_⟩
        simp only [Act.put, List.setIfInBounds_toArray, List.set_cons_zero, List.set_cons_succ]
        refine hv_append (wb.drew.alloc (.cells #[.int .i64 ((x'.val : Nat) : Int), .int .i64 q] 72)) (.tmp 72) (.tmp 76) 65 72 rfl i1 (.agg #[.int .i64 0, .int .i64 0]) 2 16 Try.underlying65 hi' hz0' hz1' hz2' rfl (by decide) w.heap.size eV2 L.length (fl L) (by go_simp) (r3.els.alloc _) ⟨wb.drew.heap.size, 0, none⟩ 1 1 [.int .i64 ((x'.val : Nat) : Int), .int .i64 q] (by go_simp) rfl (cell_two_new _ _ _ _) (by simp [Value.oneCell']) (by have := HLT.out; unfold maxLen; omega) (by have := HLT.out; omega) (by simp; omega) ?_
        intro v' w1' hown hgrow
        obtain ⟨k1, st2⟩ := r3.elsStep (show w.heap.size ≤ wb.drew.heap.size by simp; omega) r6 hown hgrow
        have kB := (bB2.drew.alloc (.cells #[.int .i64 ((x'.val : Nat) : Int), .int .i64 q] 72)).grown hgrow (bB2.drew.not_rowP (by decide) r3.els)
        refine ⟨⟨kB, k1⟩, ?_⟩
        simp only [Act.put, List.setIfInBounds_toArray, List.set_cons_zero, List.set_cons_succ]
        refine wpHvs_nil ?_
        have cc1 := k1.cell 0
        have ff1 := k1.frozen 0
        simp at cc1
        obtain ⟨A6, c6, rfl, hc6, _⟩ := (OwnP.snoc hown).sl
        obtain ⟨L', hL'⟩ : ∃ L', L ++ [(((x'.val : Nat) : Int), q)] = L' := ⟨_, rfl⟩
        rw [hL'] at st2 hc6 ⊢
        have HLL' := Lib.hid hL'
        have HLn : Hid (L'.length = L.length + 1) := Lib.hid (by rw [← hL']; simp)
        clear hL' hown hgrow k1 LT
        have hBg : B ≠ g := by rintro rfl; have := j1; unfold Blk at this; have h9 := j2.row; unfold Blk at h9; rw [this] at h9; cases h9
        have bB3 := st2.keep B _ _ bB2.drew hBg (by decide) (by decide)
        have hGg : w.heap.size ≠ g := by intro e; have h8 := j4; have h9 := j2.row; rw [e] at h8; unfold Blk at h8 h9; rw [h8] at h9; cases h9
        have hG2 : W.heap.size ≠ g := by intro e; have h8 := j4b; have h9 := j2.row; rw [e] at h8; unfold Blk at h8 h9; rw [h8] at h9; cases h9
        have bG2 := st.keep _ _ _ j4.drew hGg (by decide) (by decide)
        have bG3 := st2.keep _ _ _ bG2.drew hGg (by decide) (by decide)
        have bI2 := st.keep _ _ _ j4b.drew hG2 (by decide) (by decide)
        have bI3 := st2.keep _ _ _ bI2.drew hG2 (by decide) (by decide)
        have hlo := ((below_others ((Below.refl wr.heap.size wr).drew)).trans st.others).trans ((below_others ((Below.refl wb.heap.size wb).drew)).trans st2.others)
        have hbl := ((Below.refl w.heap.size wr).drew.trans st.below).trans ((Below.refl w.heap.size wb).drew.trans st2.below)
        have HEN := Lib.hid (HMOR.out j L HL.out hjl)
        have HPN := Lib.hid (HPRE.out (j + 1) L' (by rw [← HLL'.out, ← HQ.out]; exact HEN.out))
        gi_wp2
        obtain ⟨wc, hwc⟩ : ∃ wc, w1'.setCell ⟨g, 0, none⟩ (.slice A6 L'.length c6) = wc := ⟨_, rfl⟩
        rw [hwc] at st2 bB3 bG3 bI3 hlo hbl ⊢
        have r4 := st2.at_
        clear hwc cc1 ff1 kB bG2 bI2 bB2 r3 j1 j2 j2' HJ2 j4 j4b
        refine wpIn_region_mix' (fun W' => Blk W' B 48 #[.pointer (some ⟨g, 0, none⟩)] ∧ Blk W' g 67 #[.slice A6 L'.length c6, .slice A5 S'.length c5, .slice A' lens.length c] ∧ Blk W' w.heap.size 22 #[.slice A l.length cl]) [false, false, false, false, false, false, false] (fun _ => trivial) rfl (by kernel_rfl) (by kernel_rfl) ⟨bB3.drew, r4.row.drew, bG3.drew⟩ ?_
        simp only [mixT, mixH, mixD]
        have LT : ∀ W', (Blk W' B 48 #[.pointer (some ⟨g, 0, none⟩)] ∧ Blk W' g 67 #[.slice A6 L'.length c6, .slice A5 S'.length c5, .slice A' lens.length c] ∧ Blk W' w.heap.size 22 #[.slice A l.length cl]) → W'.cell? ⟨B, 0, none⟩ = some (.pointer (some ⟨g, 0, none⟩)) ∧ W'.cell? ⟨g, 0, none⟩ = some (.slice A6 L'.length c6) ∧ W'.cell? ⟨w.heap.size, 0, none⟩ = some (.slice A l.length cl) := fun W' hW => ⟨hW.1.cell 0, hW.2.1.cell 0, hW.2.2.cell 0⟩
        iterate 7 (refine wpLts_light ?_ (fun W' hW => ?_) ?_; rotate_left; (obtain ⟨q0, q1, q2⟩ := LT W' hW; go_simp; try with_reducible rfl); simp only [Act.put, List.setIfInBounds_toArray, List.set_cons_zero, List.set_cons_succ])
        refine wpLts_nil ?_
        refine wpHvs_nil ?_
        clear LT
        have HSN : Hid (S' = upL L'.length) := Lib.hid (by rw [← HS'.out, HLn.out]; exact up_snoc HS.out)
        replace r4 := r4.step ((Below.refl wc.heap.size wc).drew)
        replace hlo := hlo.trans (below_others ((Below.refl wc.heap.size wc).drew))
        replace hbl := hbl.drew
        replace bB3 := bB3.drew
        replace bG3 := bG3.drew
        replace bI3 := bI3.drew
        by_cases hm : L'.length = l.length
        · have hd : ((L'.length : Int) == (l.length : Int)) = true := by rw [beq_iff_eq]; omega
          have Hm := Lib.hid hm
          clear hm
          gi_wp2
          exact ⟨j5.trans (hlo.from _), rfl, _, _, S', L', bB3, r4, HSN.out, HPN.out, Hm.out, (h6.trans j7).trans hbl⟩
        · have hd : ((L'.length : Int) == (l.length : Int)) = false := by rw [beq_eq_false_iff_ne]; omega
          have HM2 : Hid (L'.length < l.length ∨ (l.length = 0 ∧ L' = [])) := Lib.hid (.inl (by have := HLn.out; have := HLT.out; omega))
          have HEN2 : Hid (L' = elF l lens pre ++ (s.take (j + 1)).map fun n => (((x'.val : Nat) : Int), n)) := Lib.hid (by rw [← HLL'.out, ← HQ.out]; exact HEN.out)
          clear hm
          gi_wp2
          go_roundw
          case rel => exact ⟨j + 1, L', _, _, S', by omega, by go_num, HEN2, bB3, r4, HSN, bG3, bI3, HM2, j5.trans (hlo.from _), ⟨j6.1.trans hbl, bI3.trans h4b.symm⟩, j7.trans hbl⟩
          case measure => simp [intOf]; omega
      · have hL1 := HEND.out j L HL.out (by omega)
        have HL1 := Lib.hid hL1
        clear hL1
        gi_wp2
        refine ⟨j5, j6, eV2, sV2, S, j1, ?_, ?_, j4, j4b, ?_, h6.trans j7⟩
        · rw [← HL1.out]; exact j2
        · rw [← HL1.out]; exact HS.out
        · rw [← HL1.out]; exact HM.out
  case done =>
    rintro D ys Z hD rfl ⟨eV', sV', S, h1, h2, h3, h4, h4b, h5, h6⟩ hK
    have HT := Lib.hid (elL_len hz)
    have q1 := h1.cell 0
    simp at q1
    gi_wp2
    refine ⟨by simp, .inl ⟨_, _, rfl, run_takeDeferred hK, ?_⟩⟩
    refine ⟨.tuple #[.pointer (some ⟨g, 0, none⟩), .int .i64 0], by simp [results, Try.f49, go_sem], ?_⟩
    have ha : Aside w.heap.size Z (some D) := fun r e => by cases e; exact ⟨by have := h6.size; omega, _, hK, rfl⟩
    have h2' := h2.aside (grownBy_putObj' Z D (.deferred none)) ha
    refine ⟨g, eV', sV', rfl, r6, h2'.row, h2'.els, ?_, below_aside (B := w.heap.size) h6 (Nat.le_refl _) (Nat.le_refl _) (grownBy_putObj' Z D (.deferred none)) ha⟩
    have := h2'.std
    rw [h3, show (elF l lens (List.finRange lens.length)).length = l.length from HT.out] at this
    exact this
  case stop =>
    rintro D cd pre Z hD ⟨k, hk, rfl⟩ ⟨rfl, eV', sV', S, L, h1, h2, h3, h4, h5, h6⟩ hK
    have HT := Lib.hid (elL_len hz)
    have hLL : L = elL l lens := (h4.trans (elF_prefix (fr_prefix _ k))).eq_of_length (by rw [h5]; exact HT.out.symm)
    have q1 := h1.cell 0
    simp at q1
    gi_wp2
    refine ⟨by simp, .inl ⟨_, _, rfl, run_takeDeferred hK, ?_⟩⟩
    refine ⟨.tuple #[.pointer (some ⟨g, 0, none⟩), .int .i64 0], by simp [results, Try.f49, go_sem], ?_⟩
    have ha : Aside w.heap.size Z (some D) := fun r e => by cases e; exact ⟨by have := h6.size; omega, _, hK, rfl⟩
    have h2' := h2.aside (grownBy_putObj' Z D (.deferred none)) ha
    refine ⟨g, eV', sV', rfl, r6, h2'.row, by rw [← hLL]; exact h2'.els, ?_, below_aside (B := w.heap.size) h6 (Nat.le_refl _) (Nat.le_refl _) (grownBy_putObj' Z D (.deferred none)) ha⟩
    have := h2'.std
    rw [h3, h5] at this
    exact this
end Go.Proofs.Ytgicfgpemcagcaa
