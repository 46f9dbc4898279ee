/- Walks and mathematics of rank, part 21. -/
import Derived.Test.YtgicfgpemcagcaaG18
import Derived.Test.YtgicfgpemcagcaaG20
import Derived.Maps.OwnIn
import Derived.Shelf.SlSortCmp.Whole1
import Derived.Shelf.SlSortCmp.WholeK
import Derived.Shelf.SlSortCmp.NoneTotal
import Derived.Shelf.Slices.SearchI
import Derived.Shelf.Slices.Empties
import Derived.Shelf.SlGeneric
import Derived.Ground.SlsfProg
import Derived.Ground.Names2Prog
import Derived.Test.YtgicfgpemcagcaaProg
import Derived.Test.YtgicfgpemcagcaaG16
import Derived.StillTailTactics
/- Walks of rank: (*row).split. -/
namespace Go.Proofs.Ytgicfgpemcagcaa
set_option linter.unusedVariables false
set_option maxRecDepth 100000
open Go.RowKit Go.Shelf
attribute [local go_sem] Oper.semAt_some
/-- What of some segments is kept. -/
def kpF (f : List Int → List Int) (l lens : List Int) (pre : List (Fin lens.length)) : List Int := pre.flatMap fun x => f (sgL l lens x.val)
theorem kpF_snoc (f : List Int → List Int) (l lens : List Int) (pre : List (Fin lens.length)) (x : Fin lens.length) : kpF f l lens (pre ++ [x]) = kpF f l lens pre ++ f (sgL l lens x.val) := by simp [kpF]
theorem kpF_fr (f : List Int → List Int) (l lens : List Int) : ∀ (k : Nat), k ≤ lens.length → kpF f l lens (fr lens.length k) = kpK f l lens k
  | 0, _ => by simp [fr, kpF, kpK]
  | k + 1, hk => by rw [fr_succ _ k (by omega), kpF_snoc, kpF_fr f l lens k (by omega)]; rfl
theorem kpF_all (f : List Int → List Int) (l lens : List Int) : kpF f l lens (List.finRange lens.length) = kpK f l lens lens.length := by rw [← fr_all, kpF_fr f l lens _ (Nat.le_refl _)]
/-- Nothing is appended. -/
theorem run_app_empty {P : Program} (w : World) (t ty e : TypeId) (i : TypeInfo) (ht : P.underlying t = some (.slice e)) (hi : P.info? e = some i) (base A : Option Addr) (n c d : Nat) (hle : n ≤ c) :
    (Builtin.append_ #[t, t] ty #[.slice base n c, .slice A 0 d]).run P w = .ok (.slice base n c) w := by
  cases base <;> cases A <;> simp [Builtin.append_, run_underlying ht, sizeOf, typeInfo, hi, Builtin.lenOf, hle, Builtin.firstCells, loadCells, loadCellsFrom, storeCells]
theorem kpF_len {f : List Int → List Int} (hf : ∀ s, (f s).length = s.length) (l lens : List Int) (pre : List (Fin lens.length)) : (kpF f l lens pre).length ≤ pre.length * l.length := by
  unfold kpF
  induction pre with
  | nil => simp
  | cons x xs ih =>
    rw [List.flatMap_cons, List.length_append, hf, List.length_cons, Nat.succ_mul]
    have : (sgL l lens x.val).length ≤ l.length := by unfold sgL; rw [List.length_take, List.length_drop]; omega
    omega
/-- 'behind[:0]': a row of the call's own, with nothing in it. -/
theorem OwnI.cut0 {W : World} {base n c : Nat} {A : Option Addr} {zs : List Int} (h : OwnI W base (.slice A n c) zs) : OwnI W base (.slice A 0 c) [] := by
  refine ⟨rfl, ?_⟩
  rcases h.2 with ⟨e, _⟩ | ⟨g, cap, cur, e, h1, h2, h3, h4, h5, h6⟩
  · cases e; exact .inl ⟨rfl, rfl⟩
  · cases e; exact .inr ⟨g, c, cur, rfl, h1, h2, Nat.zero_le _, h4, h5, by simp⟩
structure AppStep (W w1 : World) (base B : Nat) (v v' : Value) (zs xs : List Int) : Prop where
  box : Blk w1 B 22 #[v]
  box' : Blk (w1.setCell ⟨B, 0, none⟩ v') B 22 #[v']
  own : OwnI (w1.setCell ⟨B, 0, none⟩ v') base v' (zs ++ xs)
  others : KeepsOthers W (w1.setCell ⟨B, 0, none⟩ v')
  below : Below base W (w1.setCell ⟨B, 0, none⟩ v')
  keep : ∀ g t cs, Blk W g t cs → g ≠ B → t ≠ 3 → Blk w1 g t cs ∧ Blk (w1.setCell ⟨B, 0, none⟩ v') g t cs
  keepI : ∀ (b : Nat) (u : Value) ys, OwnI W b u ys → (u.ownBlock = none ∨ u.ownBlock ≠ v.ownBlock) → OwnI (w1.setCell ⟨B, 0, none⟩ v') b u ys
theorem app_stepG {W w1 : World} {base B m : Nat} {v v' : Value} {zs xs : List Int} (hv : Blk W B 22 #[v]) (hrow : OwnI W base v zs) (hb : base ≤ W.heap.size) (hB : base ≤ B)
    (hown' : w1.ownsRow base 3 1 v' (zs.length + m) (zs.map (Value.int .i64) ++ xs.map (Value.int .i64))) (hm : xs.length = m) (hgrow : W.grownBy w1 v.ownBlock) : AppStep W w1 base B v v' zs xs := by
  have k1 : Blk w1 B 22 #[v] := hv.grown hgrow (hv.not_row (by decide) hrow)
  have o1 : OwnI w1 base v' (zs ++ xs) := by unfold OwnI; rw [List.length_append, hm, List.map_append]; exact hown'
  have hB1 : Below base W w1 := (Below.refl base W).grown hgrow hb (fun k e => (hrow.lt k e).1)
  refine ⟨k1, k1.set_ 0 v', o1.kept (grownBy_set _ _ _) (.inr (fun e => k1.not_row (by decide) o1 e.symm)), (KeepsOthers.of_grownBy hgrow (fun j o' ej hj => hrow.cellsBlock j o' ej hj)).trans (KeepsOthers.setCell w1 _ _), hB1.setCell (p := ⟨B, 0, none⟩) hB _, fun g t cs hg hne ht => ?_, fun b u ys hu hne => ?_⟩
  · have h1 : Blk w1 g t cs := hg.grown hgrow (hg.not_row ht hrow)
    exact ⟨h1, h1.far (p := ⟨B, 0, none⟩) hne v'⟩
  · have h1 : OwnI w1 b u ys := hu.kept hgrow hne
    exact h1.kept (grownBy_set _ _ _) (.inr (fun e => k1.not_row (by decide) h1 e.symm))
theorem AppStep.alloc {W w1 : World} {o : Obj} {base B : Nat} {v v' : Value} {zs xs : List Int} (h : AppStep (W.alloc o) w1 base B v v' zs xs) (hb : base ≤ W.heap.size) : AppStep W w1 base B v v' zs xs :=
  ⟨h.box, h.box', h.own, (KeepsOthers.alloc W o).trans h.others, ((Below.refl base W).alloc hb o).trans h.below, fun g t cs hg hne ht => h.keep g t cs (hg.alloc o) hne ht, fun b u ys hu hne => h.keepI b u ys (hu.alloc o) hne⟩
theorem wpListIn_app {F : Fence} {nF : Nat} {ops : Array Oper} {rest : List Oper} {o : Oper} {a : Act} {Q : Exit → Act → World → Prop} {w : World} (hgd : o.guard = none) (s x : Operand)
    (ho : o.op = .call { callee := .builtin .append, args := #[s, x], argTypes := #[22, 22] }) (base : Nat) (v : Value) (zs : List Int) (hs : a.eval s = v) (hown : OwnI w base v zs)
    (A : Option Addr) (c : Nat) (ys : List Int) (hx : a.eval x = .slice A ys.length c) (hS : Sl w A ys) (h63 : zs.length + ys.length ≤ 17592186044416) (hb : base ≤ w.heap.size)
    (h : ∀ v' w', w'.ownsRow base 3 1 v' (zs.length + ys.length) (zs.map (Value.int .i64) ++ ys.map (Value.int .i64)) → w.grownBy w' v.ownBlock → (v'.ownBlock = v.ownBlock ∨ v'.ownBlock = some w.heap.size) → wpListIn F nF Try.prog ops Q rest (a.put o.dst v') w') : wpListIn F nF Try.prog ops Q (o :: rest) a w := by
  obtain ⟨i0, hi, hz0, hz1, hz2⟩ := info_parts int_info
  by_cases h0 : ys.length = 0
  · obtain rfl := List.eq_nil_of_length_eq_zero h0
    obtain ⟨A3, c3, rfl, hcc3, _⟩ := hown.form
    have hr := run_app_empty (P := Try.prog) w 22 o.type 3 i0 Try.underlying22 hi A3 A zs.length c3 c hcc3
    refine wpListIn_plain hgd fun K hK => ?_
    unfold Oper.wpIn
    refine ⟨by simp [Oper.about, ho, resolve, Target.leads, Sem.run_pure], ?_⟩
    rw [Oper.semAt_plain F _ _ (by rw [ho]; intro c hc'; cases hc')]
    simp only [List.length_nil] at hx
    simp [execOp, ho, resolve, invoke, builtin, hs, hx, hr, Result.andThen]
    exact hK _ _ (h _ _ (by simpa [OwnI] using hown) (World.grownBy.refl _ _) (.inl rfl))
  · obtain ⟨b, off, rfl, _, _⟩ := hS (by omega)
    exact wpListIn_append_own_at w hgd s x 22 ho base 3 i0 (.int .i64 0) 1 8 Try.underlying22 hi hz0 hz1 hz2 rfl (by decide) v zs.length _ hs hown ⟨b, off, none⟩ ys.length c (ys.map (Value.int .i64)) hx (by simp) (Sl.news hS) (by intro u hu; obtain ⟨q, _, rfl⟩ := List.mem_map.1 hu; rfl) (by unfold maxLen; omega) (by omega) hb (fun v' w' a1 a2 _ a4 => h v' w' a1 a2 a4)
theorem wpListIn_call {F : Fence} {n : Nat} {P : Program} {ops : Array Oper} {o : Oper} {rest : List Oper} {a : Act} {Q : Exit → Act → World → Prop} {w : World} (hgd : o.guard = none) (hfn : ∀ f, F.fn f) (hd : F.depth = none) (hnd : ∀ c, o.op ≠ .defer c)
    (f : FuncId) (args : Array Value) (h : (execOp a.eval o).run P w = .ok (.enter f args) w) (hc : CallsIn F (n - 1) P f args w (fun e w'' => ∃ v, e = .returned v ∧ wpListIn F n P ops Q rest (a.put o.dst v) w'')) : wpListIn F n P ops Q (o :: rest) a w :=
  wpListIn_plain hgd fun K hK => StepsIn'.wp hfn hd hnd (.inr ⟨f, args, w, h, hc⟩) (fun v w' hr => hK _ _ hr)
theorem slice_h0 (A : Option Addr) (n c : Nat) (W : World) : (Instr.sliceAt 22 (.slice A n c) none (some (.int .i64 0)) none).run Try.prog W = .ok (.slice A 0 c) W := by
  obtain ⟨i0, hi0, hz0, hz1, hz2⟩ := info_parts int_info
  have he : Try.prog.elem 22 = 3 := by kernel_rfl
  have hrun : (Instr.slice 22 (.slice A n c) none (some (.int .i64 0)) none).run Try.prog W = .ok (sliced A 0 0 c 1) W := by
    rw [run_slice_h W 22 A n c (by rw [he]; exact Try.underlying22) .i64 0 (by omega) (by omega), he]
    simp [sizeOf, typeInfo, hi0, hz1, Result.andThen]
  refine (run_sliceAt_slice W 22 _ _ _ _ (by kernel_rfl)).trans (hrun.trans ?_)
  unfold sliced
  cases A with
  | none => simp
  | some a => simp [Addr.add]
/-- What a split has in memory. -/
structure SpAt (Y : World) (n0 g : Nat) (fv lb sv bv : Value) (sl bl : List Int) : Prop where
  r : Blk Y n0 48 #[.pointer (some ⟨g, 0, none⟩)]
  f : Blk Y (n0 + 1) 52 #[fv]
  s : Blk Y (n0 + 1 + 1 + 1) 22 #[sv]
  b : Blk Y (n0 + 1 + 1 + 1 + 1) 22 #[bv]
  l : Blk Y (n0 + 5) 22 #[lb]
  os : OwnI Y n0 sv sl
  ob : OwnI Y n0 bv bl
  ap : (sv.ownBlock = none ∨ sv.ownBlock ≠ bv.ownBlock) ∧ (bv.ownBlock = none ∨ bv.ownBlock ≠ sv.ownBlock)
section
variable {W w1 : World} {n0 g N : Nat} {fv lb sv bv v' : Value} {sl bl xs : List Int}
theorem SpAt.aside {Y : World} {B : Nat} {row : Option Nat} (h : SpAt W n0 g fv lb sv bv sl bl) (hg : W.grownBy Y row) (hr : Aside B W row) : SpAt Y n0 g fv lb sv bv sl bl :=
  ⟨h.r.aside hg hr, h.f.aside hg hr, h.s.aside hg hr, h.b.aside hg hr, h.l.aside hg hr, h.os.aside hg hr, h.ob.aside hg hr, h.ap⟩
theorem SpAt.drew (h : SpAt W n0 g fv lb sv bv sl bl) : SpAt W.drew n0 g fv lb sv bv sl bl := ⟨h.r.drew, h.f.drew, h.s.drew, h.b.drew, h.l.drew, h.os.drew, h.ob.drew, h.ap⟩
theorem SpAt.stepB (h : SpAt W n0 g fv lb sv bv sl bl) (hA : AppStep W w1 n0 (n0 + 1 + 1 + 1 + 1) bv v' bl xs) (hat : v'.ownBlock = bv.ownBlock ∨ v'.ownBlock = some N) (hN : W.heap.size ≤ N) :
    SpAt (w1.setCell ⟨n0 + 1 + 1 + 1 + 1, 0, none⟩ v') n0 g fv lb sv v' sl (bl ++ xs) := by
  refine ⟨(hA.keep _ _ _ h.r (by omega) (by decide)).2, (hA.keep _ _ _ h.f (by omega) (by decide)).2, (hA.keep _ _ _ h.s (by omega) (by decide)).2, hA.box', (hA.keep _ _ _ h.l (by omega) (by decide)).2, hA.keepI _ _ _ h.os h.ap.1, hA.own, ?_⟩
  rcases hat with e | e
  · rw [e]; exact h.ap
  · have hne : sv.ownBlock ≠ some N := fun e2 => by have := (h.os.lt N e2).2; omega
    rw [e]
    exact ⟨.inr hne, .inr (fun e2 => hne e2.symm)⟩
theorem SpAt.stepS (h : SpAt W n0 g fv lb sv bv sl bl) (hA : AppStep W w1 n0 (n0 + 1 + 1 + 1) sv v' sl xs) (hat : v'.ownBlock = sv.ownBlock ∨ v'.ownBlock = some N) (hN : W.heap.size ≤ N) :
    SpAt (w1.setCell ⟨n0 + 1 + 1 + 1, 0, none⟩ v') n0 g fv lb v' bv (sl ++ xs) bl := by
  refine ⟨(hA.keep _ _ _ h.r (by omega) (by decide)).2, (hA.keep _ _ _ h.f (by omega) (by decide)).2, hA.box', (hA.keep _ _ _ h.b (by omega) (by decide)).2, (hA.keep _ _ _ h.l (by omega) (by decide)).2, hA.own, hA.keepI _ _ _ h.ob h.ap.2, ?_⟩
  rcases hat with e | e
  · rw [e]; exact h.ap
  · have hne : bv.ownBlock ≠ some N := fun e2 => by have := (h.ob.lt N e2).2; omega
    rw [e]
    exact ⟨.inr (fun e2 => hne e2.symm), .inr hne⟩
theorem SpAt.cut {A : Option Addr} {n c : Nat} (h : SpAt W n0 g fv lb sv (.slice A n c) sl bl) : SpAt (W.setCell ⟨n0 + 1 + 1 + 1 + 1, 0, none⟩ (.slice A 0 c)) n0 g fv lb sv (.slice A 0 c) sl [] := by
  have eo : (Value.slice A 0 c).ownBlock = (Value.slice A n c).ownBlock := by cases A <;> rfl
  refine ⟨h.r.far (by show n0 ≠ n0 + 1 + 1 + 1 + 1; omega) _, h.f.far (by show n0 + 1 ≠ n0 + 1 + 1 + 1 + 1; omega) _, h.s.far (by show n0 + 1 + 1 + 1 ≠ n0 + 1 + 1 + 1 + 1; omega) _, h.b.set_ 0 _, h.l.far (by show n0 + 5 ≠ n0 + 1 + 1 + 1 + 1; omega) _, h.os.kept (grownBy_set _ _ _) (.inr fun e => h.b.not_row (by decide) h.os e.symm), (h.ob.cut0).kept (grownBy_set _ _ _) (.inr fun e => h.b.not_row (by decide) h.ob.cut0 e.symm), by rw [eo]; exact h.ap⟩
end
theorem filter_take_t {b : Int → Bool} {s : List Int} {j : Nat} (hj : j < s.length) (h : b (nth s j) = true) : (s.take (j + 1)).filter b = (s.take j).filter b ++ [nth s j] ∧ (s.take (j + 1)).filter (fun x => !b x) = (s.take j).filter (fun x => !b x) := by
  rw [take_snoc s j hj, List.filter_append, List.filter_append]; simp [h]
theorem filter_take_f {b : Int → Bool} {s : List Int} {j : Nat} (hj : j < s.length) (h : b (nth s j) = false) : (s.take (j + 1)).filter b = (s.take j).filter b ∧ (s.take (j + 1)).filter (fun x => !b x) = (s.take j).filter (fun x => !b x) ++ [nth s j] := by
  rw [take_snoc s j hj, List.filter_append, List.filter_append]; simp [h]
/-- The word of the number x is set. -/
def setW (f : Int → Bool) (ps : List (Int × Int)) (x : Int) : Bool := f (pth ps x.toNat).2
/-- What is left of a row: the same, but that its numbers stand otherwise. -/
def Moved (w : World) (base g : Nat) (eV lV : Value) (ps : List (Int × Int)) (T : List Int) (e : Ending) (w' : World) : Prop :=
  e = .returned (.tuple #[]) ∧ ∃ v : Value, RowAt w' base g eV v lV ps T ∧ Below base w w'
set_option maxHeartbeats 8000000 in
theorem split_any (K : FuncId) (cb : Array Value) (f : Int → Bool) (A' : Option Addr) (c base g : Nat) (eV sV : Value) (ps : List (Int × Int)) (S lens : List Int) (w : World) (hR : RowAt w base g eV sV (.slice A' lens.length c) ps S) (hgb : base ≤ g) (hbb : base ≤ w.heap.size) (h' : Sl w A' lens) (hz : Segs S lens) (hpl : ps.length ≤ 1048576)
    (hnum : ∀ j, j < S.length → ∃ x : Nat, nth S j = (x : Int) ∧ x < ps.length)
    (hF : ∀ W, Below w.heap.size w W → ∀ j, j < ps.length → Calls Try.prog K (#[.int .i64 (pth ps j).2] ++ cb) W fun e w' => e = .returned (.bool (f (pth ps j).2)) ∧ w' = W)
    (eg : ∀ args w, (callFunc K args).run Try.prog w = .ok (.enter K args) w) :
    Calls Try.prog 50 #[.pointer (some ⟨g, 0, none⟩), .func (.func K) #[] cb] w (Moved w base g eV (.slice A' lens.length c) ps (kpK (spF (setW f ps)) S lens lens.length)) := by
  have hlen := hz.few
  have hll := hz.short
  obtain ⟨A3, c3, rfl, hc3, hs3⟩ := hR.std.form
  obtain ⟨oS, hmS, hoS⟩ := make_std' w.heap.size S.length hll
  refine (callsIn_wide (n := 8)).1 ?_
  refine callsIn_of_wp_marks Try.func50 rfl trivial ?_ rfl
  simp only [Try.ntmps50, List.size_toArray, List.length_cons, List.length_nil, Nat.reduceAdd, Nat.reduceSub, Array.replicate_succ, Array.replicate_zero, List.push_toArray, List.append_toArray, List.nil_append, List.cons_append]
  have hgl := hR.row.lt
  have cg1 := hR.row.cell 1
  have cg2 := hR.row.cell 2
  simp at cg1 cg2
  gi_wp2
  have b2 : Blk (((((w.alloc (.cells #[.pointer (some ⟨g, 0, none⟩)] 48)).alloc (.cells #[.func (.func K) #[] cb] 52)).alloc oS).alloc (.cells #[.slice (some ⟨w.heap.size + 1 + 1, 0, none⟩) 0 S.length] 22)).alloc (.cells #[.slice none 0 0] 22)) w.heap.size 48 #[.pointer (some ⟨g, 0, none⟩)] := (by repeat' (first | exact Blk.new' (by simp) | refine Blk.alloc ?_ _))
  have b3 : Blk (((((w.alloc (.cells #[.pointer (some ⟨g, 0, none⟩)] 48)).alloc (.cells #[.func (.func K) #[] cb] 52)).alloc oS).alloc (.cells #[.slice (some ⟨w.heap.size + 1 + 1, 0, none⟩) 0 S.length] 22)).alloc (.cells #[.slice none 0 0] 22)) (w.heap.size + 1) 52 #[.func (.func K) #[] cb] := (by repeat' (first | exact Blk.new' (by simp) | refine Blk.alloc ?_ _))
  have b4 : Blk (((((w.alloc (.cells #[.pointer (some ⟨g, 0, none⟩)] 48)).alloc (.cells #[.func (.func K) #[] cb] 52)).alloc oS).alloc (.cells #[.slice (some ⟨w.heap.size + 1 + 1, 0, none⟩) 0 S.length] 22)).alloc (.cells #[.slice none 0 0] 22)) (w.heap.size + 1 + 1 + 1) 22 #[.slice (some ⟨w.heap.size + 1 + 1, 0, none⟩) 0 S.length] := (by repeat' (first | exact Blk.new' (by simp) | refine Blk.alloc ?_ _))
  have b5 : Blk (((((w.alloc (.cells #[.pointer (some ⟨g, 0, none⟩)] 48)).alloc (.cells #[.func (.func K) #[] cb] 52)).alloc oS).alloc (.cells #[.slice (some ⟨w.heap.size + 1 + 1, 0, none⟩) 0 S.length] 22)).alloc (.cells #[.slice none 0 0] 22)) (w.heap.size + 1 + 1 + 1 + 1) 22 #[.slice none 0 0] := (by repeat' (first | exact Blk.new' (by simp) | refine Blk.alloc ?_ _))
  have o4 : OwnI (((((w.alloc (.cells #[.pointer (some ⟨g, 0, none⟩)] 48)).alloc (.cells #[.func (.func K) #[] cb] 52)).alloc oS).alloc (.cells #[.slice (some ⟨w.heap.size + 1 + 1, 0, none⟩) 0 S.length] 22)).alloc (.cells #[.slice none 0 0] 22)) w.heap.size (.slice (some ⟨w.heap.size + 1 + 1, 0, none⟩) 0 S.length) [] := (by repeat' (first | exact hoS _ _ (by (try simp); omega) (by simp) | refine OwnI.alloc ?_ _))
  have hB1 : Below w.heap.size w (((((w.alloc (.cells #[.pointer (some ⟨g, 0, none⟩)] 48)).alloc (.cells #[.func (.func K) #[] cb] 52)).alloc oS).alloc (.cells #[.slice (some ⟨w.heap.size + 1 + 1, 0, none⟩) 0 S.length] 22)).alloc (.cells #[.slice none 0 0] 22)) := (by repeat' (first | exact Below.refl _ _ | refine Below.alloc ?_ (by (try simp); try omega) _))
  have hz1 : (((((w.alloc (.cells #[.pointer (some ⟨g, 0, none⟩)] 48)).alloc (.cells #[.func (.func K) #[] cb] 52)).alloc oS).alloc (.cells #[.slice (some ⟨w.heap.size + 1 + 1, 0, none⟩) 0 S.length] 22)).alloc (.cells #[.slice none 0 0] 22)).heap.size = w.heap.size + 5 := by simp
  obtain ⟨W1, hW1⟩ : ∃ W1, (((((w.alloc (.cells #[.pointer (some ⟨g, 0, none⟩)] 48)).alloc (.cells #[.func (.func K) #[] cb] 52)).alloc oS).alloc (.cells #[.slice (some ⟨w.heap.size + 1 + 1, 0, none⟩) 0 S.length] 22)).alloc (.cells #[.slice none 0 0] 22)) = W1 := ⟨_, rfl⟩
  rw [hW1] at b2 b3 b4 b5 o4 hB1 hz1 ⊢
  clear hW1
  have bg : Blk W1 g 67 #[eV, .slice A3 S.length c3, .slice A' lens.length c] := hR.row.below hB1 hgl
  refine wpIn_region_mix' (fun W' => Blk W' w.heap.size 48 #[.pointer (some ⟨g, 0, none⟩)] ∧ Blk W' g 67 #[eV, .slice A3 S.length c3, .slice A' lens.length c]) [false, false, false, false, false, false, false, false] (fun _ => trivial) rfl (by kernel_rfl) (by kernel_rfl) ⟨b2.drew, bg.drew⟩ ?_
  simp only [mixT, mixH, mixD]
  have LT : ∀ W', (Blk W' w.heap.size 48 #[.pointer (some ⟨g, 0, none⟩)] ∧ Blk W' g 67 #[eV, .slice A3 S.length c3, .slice A' lens.length c]) → W'.cell? ⟨w.heap.size, 0, none⟩ = some (.pointer (some ⟨g, 0, none⟩)) ∧ W'.cell? ⟨g, 1, none⟩ = some (.slice A3 S.length c3) ∧ W'.cell? ⟨g, 2, none⟩ = some (.slice A' lens.length c) := fun W' hW => ⟨hW.1.cell 0, hW.2.cell 1, hW.2.cell 2⟩
  iterate 8 (refine wpLts_light ?_ (fun W' hW => ?_) ?_; rotate_left; (obtain ⟨q0, q1, q2⟩ := LT W' hW; go_simp; try with_reducible rfl); simp only [Act.put, List.setIfInBounds_toArray, List.set_cons_zero, List.set_cons_succ])
  refine wpLts_nil ?_
  refine wpHvs_nil ?_
  clear LT
  gi_wp2_with (refine ⟨trivial, ?_⟩; gi_at_call 69; refine (callsIn_wide.2 (segments_any _ _ ⟨_, _, _, rfl⟩ ⟨_, _, _, rfl⟩ _)).mono ?_; rintro e w' ⟨rfl, rfl⟩)
  have z1 : SpAt ((W1.alloc (.cells #[.slice A3 S.length c3] 22)).alloc (.cells #[.slice A' lens.length c] 22)).drew w.heap.size g (.func (.func K) #[] cb) (.slice A3 S.length c3) (.slice (some ⟨w.heap.size + 1 + 1, 0, none⟩) 0 S.length) (.slice none 0 0) [] [] :=
    ⟨(b2.alloc _).alloc _, (b3.alloc _).alloc _, (b4.alloc _).alloc _, (b5.alloc _).alloc _, by rw [← hz1]; exact (Blk.new W1 _ _).alloc _, (o4.alloc _).alloc _, OwnI.nil _ _, .inr (by simp [Value.ownBlock]), .inl rfl⟩
  have z2 : Blk ((W1.alloc (.cells #[.slice A3 S.length c3] 22)).alloc (.cells #[.slice A' lens.length c] 22)).drew (w.heap.size + 5 + 1) 22 #[.slice A' lens.length c] := Blk.new' (by simp [hz1])
  have hB0 : Below w.heap.size w ((W1.alloc (.cells #[.slice A3 S.length c3] 22)).alloc (.cells #[.slice A' lens.length c] 22)).drew := ((hB1.alloc hB1.size _).alloc (by simp; omega) _).drew
  have hsz : ((W1.alloc (.cells #[.slice A3 S.length c3] 22)).alloc (.cells #[.slice A' lens.length c] 22)).drew.heap.size = w.heap.size + 7 := by simp [hz1]
  obtain ⟨W0, hW0⟩ : ∃ W0, ((W1.alloc (.cells #[.slice A3 S.length c3] 22)).alloc (.cells #[.slice A' lens.length c] 22)).drew = W0 := ⟨_, rfl⟩
  rw [hW0] at z1 z2 hB0 hsz ⊢
  clear hW0 b2 b3 b4 b5 o4 bg hB1 hz1
  refine wpIn_rangeFunc_ownH rfl (by omega) (gf := 82) (lb := #[.pointer (some ⟨w.heap.size + 5 + 1, 0, none⟩), .pointer (some ⟨w.heap.size + 5, 0, none⟩)]) rfl trivial (enters_of Try.func82 (by kernel_rfl) rfl)
    (segs_stops Fence.wide (8 - 1) trivial rfl (by omega) (w.heap.size + 5) (w.heap.size + 5 + 1) w.heap.size c c3 A3 A' S lens hz hc3 W0 (by omega) (by omega) (z2.cell 0) z1.l (fun h0 => by
      obtain ⟨b, off, e, hb, hcs⟩ := h' h0
      exact ⟨b, off, e, hb, fun j hj => (hB0.cell (p := ⟨b, off + j, none⟩) hb).trans (hcs j hj)⟩)) kpB_t (kpB_b (by omega) (by omega)) (Below.refl _ _) (fun _ => rfl)
    (fun pre Y => ∃ (sv bv : Value) (bl : List Int), SpAt Y w.heap.size g (.func (.func K) #[] cb) (.slice A3 S.length c3) sv bv (kpF (spF (setW f ps)) S lens pre) bl ∧ Below w.heap.size w Y)
    (fun _ _ _ => False)
    (fun _ X Y row hs hg hr => by
      obtain ⟨sv, bv, bl, h1, h2⟩ := hs
      exact ⟨sv, bv, bl, h1.aside hg hr, below_aside h2 (Nat.le_refl _) (by omega) hg hr⟩)
    (fun _ _ _ _ _ hs _ _ => hs)
    ⟨_, _, [], z1, hB0⟩
    (fun x' a' Y => a' = ⟨#[.pointer (some ⟨g, 0, none⟩), .func (.func K) #[] cb, .pointer (some ⟨w.heap.size, 0, none⟩), .pointer (some ⟨w.heap.size + 1, 0, none⟩), .pointer (some ⟨w.heap.size + 1 + 1 + 1, 0, none⟩), .pointer (some ⟨w.heap.size + 1 + 1 + 1 + 1, 0, none⟩), undef, (.slice (sgA A3 (ofs lens x'.val) (ofs lens (x'.val + 1))) (ofs lens (x'.val + 1) - ofs lens x'.val) (ofs lens (x'.val + 1) - ofs lens x'.val)), undef, undef, .pointer (some ⟨g, 0, none⟩), .pointer (some ⟨g, 0, none⟩), .pointer (some ⟨g, 1, none⟩), .slice A3 S.length c3, .int .i64 (S.length : Int), .slice (some ⟨w.heap.size + 1 + 1, 0, none⟩) 0 S.length, .pointer (some ⟨g, 0, none⟩), .pointer (some ⟨g, 0, none⟩), .pointer (some ⟨g, 1, none⟩), .slice A3 S.length c3, .pointer (some ⟨g, 0, none⟩), .pointer (some ⟨g, 0, none⟩), .pointer (some ⟨g, 2, none⟩), .slice A' lens.length c, .func (.func 82) #[] #[.pointer (some ⟨w.heap.size + 5 + 1, 0, none⟩), .pointer (some ⟨w.heap.size + 5, 0, none⟩)], .int .i64 ((x'.val : Nat) : Int), (.slice (sgA A3 (ofs lens x'.val) (ofs lens (x'.val + 1))) (ofs lens (x'.val + 1) - ofs lens x'.val) (ofs lens (x'.val + 1) - ofs lens x'.val)), undef, undef, undef, undef, undef, undef, undef, undef, undef, undef, undef, undef, undef, undef, undef, undef, undef, undef, undef, undef, undef, undef, undef, undef, undef, undef, undef, undef, undef, undef, undef, undef, undef, undef], []⟩)
    (fun x a' _ X Y row hs hg hr => hs)
    ?assign ?body ?done ?stop
  case assign =>
    rintro i pre x' Y Q hI hK
    simp only [segV]
    gi_wp2
    exact hK _ _ (KeepsFrom.refl _ _) (kpB_refl _ _ _) hI rfl
  case body =>
    rintro i pre x' a' Y hl' ⟨r, hr⟩ ⟨sv1, bv1, bl1, h1, h6⟩ rfl hlt
    have hx := x'.isLt
    obtain ⟨e1, e2, e3, e4, e5⟩ := hz.step x'.val hx
    have hsgl := sg_len hz x'.val hx
    have hsl : Sl w (sgA A3 (ofs lens x'.val) (ofs lens (x'.val + 1))) (sgL S lens x'.val) := sl_sg hs3 e2 e3
    have HSN := Lib.hid (kpF_snoc (spF (setW f ps)) S lens pre x')
    have hkl := kpF_len (spF_len (setW f ps)) S lens pre
    have hkb : (kpF (spF (setW f ps)) S lens pre).length ≤ 1099511627776 := by
      have : pre.length * S.length ≤ 1048576 * 1048576 := Nat.mul_le_mul (by omega) hll
      omega
    have HNUM : Hid (∀ j, j < (sgL S lens x'.val).length → ∃ y : Nat, nth (sgL S lens x'.val) j = (y : Int) ∧ y < ps.length) := Lib.hid (fun j hj => by
      rw [seg_nth _ _ _ _ hj]
      exact hnum _ (by omega))
    obtain ⟨sA, hsA⟩ : ∃ sA, sgA A3 (ofs lens x'.val) (ofs lens (x'.val + 1)) = sA := ⟨_, rfl⟩
    obtain ⟨s, hs⟩ : ∃ s, sgL S lens x'.val = s := ⟨_, rfl⟩
    rw [hs] at hsgl hsl HSN HNUM
    rw [← hsgl, hsA]
    rw [hsA] at hsl
    have hsn : s.length ≤ S.length := by omega
    obtain ⟨L0, hL0⟩ : ∃ L0, kpF (spF (setW f ps)) S lens pre = L0 := ⟨_, rfl⟩
    rw [hL0] at h1 HSN hkb
    clear e1 e2 e3 e4 e5 hsgl hs hsA hkl hL0 hnum
    obtain ⟨A5, c5, rfl, hc5, _⟩ := h1.ob.form
    have hcut := slice_h0 A5 bl1.length c5
    have cb5 := h1.b.cell 0
    have fb5 := h1.b.frozen 0
    simp at cb5
    have h2 := h1.cut
    have hK0 : KeepsOthers Y (Y.setCell ⟨w.heap.size + 1 + 1 + 1 + 1, 0, none⟩ (.slice A5 0 c5)) := KeepsOthers.setCell Y _ _
    have hB5 : Below w.heap.size Y (Y.setCell ⟨w.heap.size + 1 + 1 + 1 + 1, 0, none⟩ (.slice A5 0 c5)) := (Below.refl _ _).setCell (by show w.heap.size ≤ w.heap.size + 1 + 1 + 1 + 1; omega) _
    gi_wp2
    obtain ⟨Y1, hY1⟩ : ∃ Y1, Y.setCell ⟨w.heap.size + 1 + 1 + 1 + 1, 0, none⟩ (.slice A5 0 c5) = Y1 := ⟨_, rfl⟩
    rw [hY1] at h2 hK0 hB5 ⊢
    clear hY1 cb5 fb5 hcut
    gi_loopw [31] (fun i wr => ∃ (j : Nat) (sv bv : Value) (sl bl : List Int), j ≤ s.length ∧ i = .int .i64 j ∧ Hid (sl = L0 ++ (s.take j).filter (fun x => !setW f ps x)) ∧ Hid (bl = (s.take j).filter (setW f ps)) ∧ sl.length ≤ L0.length + j ∧ bl.length ≤ j ∧ SpAt wr w.heap.size g (.func (.func K) #[] cb) (.slice A3 S.length c3) sv bv sl bl ∧ KeepsFrom W0.heap.size Y wr ∧ Below w.heap.size Y wr)
      (fun i _ => s.length - (intOf i).toNat)
    case atStart => exact ⟨0, sv1, _, L0, [], Nat.zero_le _, rfl, Lib.hid (by simp), Lib.hid (by simp), Nat.le_refl _, Nat.le_refl _, h2, hK0.from _, hB5⟩
    case round =>
      obtain ⟨j, sv, bv, sl, bl, hj, rfl, HSL, HBL, hsll, hbll, j1, j5, j7⟩ := hrel
      by_cases hjl : j < s.length
      · obtain ⟨bs, os, rfl, hbs, hcs⟩ := (hsl.step (h6.trans j7)).at_ hjl
        obtain ⟨y, hy, hyl⟩ := HNUM.out j hjl
        rw [hy] at hcs
        have HQ := Lib.hid hy
        clear hy
        have hBw := h6.trans j7
        have bg := hR.row.below hBw hgl
        have oe := hR.els.below hBw (Nat.le_refl _)
        rcases oe.form with ⟨c7, hps, _⟩ | ⟨ge, c7, hev, h71, h72, h73, h74, h75⟩
        · rw [hps] at hyl; simp at hyl
        · subst hev
          obtain ⟨q, hq⟩ : ∃ q, (pth ps y).2 = q := ⟨_, rfl⟩
          have cy := (h74 y hyl).2
          rw [hq] at cy
          have HF1 := Lib.hid (fun W hW => hF W hW y hyl)
          rw [hq] at HF1
          have HSW : Hid (setW f ps (nth s j) = f q) := Lib.hid (by unfold setW; rw [HQ.out, Int.toNat_natCast, hq])
          have g0 : (0 : Int) ≤ (j : Int) := by omega
          have g1 : (j : Int) < (s.length : Int) := by omega
          have g2 : (0 : Int) ≤ (y : Int) := by omega
          have g3 : (y : Int) < (ps.length : Int) := by omega
          have hgeW : ge < wr.heap.size := h73
          clear hq oe h74 h75 h73
          gi_wp2
          refine wpIn_region_mix' (fun W' => Blk W' w.heap.size 48 #[.pointer (some ⟨g, 0, none⟩)] ∧ Blk W' (w.heap.size + 1) 52 #[.func (.func K) #[] cb] ∧ Blk W' g 67 #[.slice (some ⟨ge, 0, none⟩) ps.length c7, .slice A3 S.length c3, .slice A' lens.length c] ∧ W'.cell? ⟨ge, y * 2 + 1, none⟩ = some (.int .i64 q)) [false, false, false, false, false, false, false, false, false] (fun _ => trivial) rfl (by kernel_rfl) (by kernel_rfl) ⟨j1.r.drew, j1.f.drew, bg.drew, cy⟩ ?_
          simp only [mixT, mixH, mixD]
          have LT : ∀ W', (Blk W' w.heap.size 48 #[.pointer (some ⟨g, 0, none⟩)] ∧ Blk W' (w.heap.size + 1) 52 #[.func (.func K) #[] cb] ∧ Blk W' g 67 #[.slice (some ⟨ge, 0, none⟩) ps.length c7, .slice A3 S.length c3, .slice A' lens.length c] ∧ W'.cell? ⟨ge, y * 2 + 1, none⟩ = some (.int .i64 q)) → W'.cell? ⟨w.heap.size, 0, none⟩ = some (.pointer (some ⟨g, 0, none⟩)) ∧ W'.cell? ⟨w.heap.size + 1, 0, none⟩ = some (.func (.func K) #[] cb) ∧ W'.cell? ⟨g, 0, none⟩ = some (.slice (some ⟨ge, 0, none⟩) ps.length c7) ∧ W'.cell? ⟨ge, y * 2 + 1, none⟩ = some (.int .i64 q) := fun W' hW => ⟨hW.1.cell 0, hW.2.1.cell 0, hW.2.2.1.cell 0, hW.2.2.2⟩
          iterate 9 (refine wpLts_light ?_ (fun W' hW => ?_) ?_; rotate_left; (obtain ⟨q0, q1, q2, q3⟩ := LT W' hW; go_simp; try with_reducible rfl); simp only [Act.put, List.setIfInBounds_toArray, List.set_cons_zero, List.set_cons_succ])
          refine wpLts_nil ?_
          refine wpHvs_nil ?_
          clear LT
          have hBd := hBw.drew
          refine wpListIn_call rfl (fun _ => trivial) rfl (by intro c; simp) K (#[.int .i64 q] ++ cb) (by unfold execOp; simp [resolve, invoke, go_sem, eg]) ?_
          refine (CallsIn.inRound i (callsIn_wide.2 (HF1.out _ hBd))).mono ?_
          rintro e w2 ⟨rfl, rfl⟩
          refine ⟨_, rfl, ?_⟩
          have j1d := j1.drew
          have hod := below_others ((Below.refl wr.heap.size wr).drew)
          have hbd : Below w.heap.size wr wr.drew := (Below.refl _ _).drew
          obtain ⟨wd, hwd⟩ : ∃ wd, wr.drew = wd := ⟨_, rfl⟩
          rw [hwd] at j1d hod hbd ⊢
          have hwds : w.heap.size ≤ wd.heap.size := (hBw.trans hbd).size
          clear hwd hBd HF1 cy bg hBw
          have cs0 := j1d.s.cell 0
          have cb0 := j1d.b.cell 0
          simp at cs0 cb0
          obtain ⟨i0, hi, hz0, hz1, hz2⟩ := info_parts int_info
          have hsll' : sl.length ≤ 1099512676352 := by omega
          have hbll' : bl.length ≤ 1048576 := by omega
          cases hfq : f q with
          | true =>
            have HT1 := Lib.hid (filter_take_t (b := setW f ps) hjl (by rw [HSW.out, hfq]))
            gi_wp2_with (gi_at_builtin; refine wpListIn_append_own_at _ rfl _ _ 22 rfl w.heap.size 3 i0 (.int .i64 0) 1 8 Try.underlying22 hi hz0 hz1 hz2 rfl (by decide) _ _ _ rfl (j1d.ob.alloc _) ⟨wd.heap.size, 0, none⟩ 1 1 [.int .i64 (y : Int)] rfl rfl (cell_one_new _ _ _) (by simp [Value.oneCell']) (by unfold maxLen; omega) (by omega) (by simp; omega) ?_; intro v' w3 hown' hgrow _ hat; obtain ⟨g', cap', rfl⟩ := ownsRow_succ hown'; have hA := (app_stepG (xs := [(y : Int)]) (j1d.b.alloc _) (j1d.ob.alloc _) (by simp; omega) (by show w.heap.size ≤ w.heap.size + 1 + 1 + 1 + 1; omega) hown' rfl hgrow).alloc hwds; have hst := j1d.stepB hA hat (by simp); have cB1 := hA.box.cell 0; have fB1 := hA.box.frozen 0; simp at cB1)
            go_roundw
            case rel => exact ⟨j + 1, _, _, sl, bl ++ [(y : Int)], by omega, by go_num, Lib.hid (by rw [HT1.out.2]; exact HSL.out), Lib.hid (by rw [HT1.out.1, HQ.out, HBL.out]), by omega, by simp; omega, hst, j5.trans ((hod.trans hA.others).from _), j7.trans (hbd.trans hA.below)⟩
            case measure => simp [intOf]; omega
          | false =>
            have HT1 := Lib.hid (filter_take_f (b := setW f ps) hjl (by rw [HSW.out, hfq]))
            gi_wp2_with (gi_at_builtin; refine wpListIn_append_own_at _ rfl _ _ 22 rfl w.heap.size 3 i0 (.int .i64 0) 1 8 Try.underlying22 hi hz0 hz1 hz2 rfl (by decide) _ _ _ rfl (j1d.os.alloc _) ⟨wd.heap.size, 0, none⟩ 1 1 [.int .i64 (y : Int)] rfl rfl (cell_one_new _ _ _) (by simp [Value.oneCell']) (by unfold maxLen; omega) (by omega) (by simp; omega) ?_; intro v' w3 hown' hgrow _ hat; obtain ⟨g', cap', rfl⟩ := ownsRow_succ hown'; have hA := (app_stepG (xs := [(y : Int)]) (j1d.s.alloc _) (j1d.os.alloc _) (by simp; omega) (by show w.heap.size ≤ w.heap.size + 1 + 1 + 1; omega) hown' rfl hgrow).alloc hwds; have hst := j1d.stepS hA hat (by simp); have cB1 := hA.box.cell 0; have fB1 := hA.box.frozen 0; simp at cB1)
            go_roundw
            case rel => exact ⟨j + 1, _, _, sl ++ [(y : Int)], bl, by omega, by go_num, Lib.hid (by rw [HT1.out.2, HQ.out, ← List.append_assoc, ← HSL.out]), Lib.hid (by rw [HT1.out.1]; exact HBL.out), by simp; omega, by omega, hst, j5.trans ((hod.trans hA.others).from _), j7.trans (hbd.trans hA.below)⟩
            case measure => simp [intOf]; omega
      · have HSN2 : Hid (kpF (spF (setW f ps)) S lens (pre ++ [x']) = sl ++ bl) := Lib.hid (by
          rw [HSN.out, HSL.out, HBL.out, List.take_of_length_le (by omega)]
          unfold spF
          rw [List.append_assoc])
        have hwrs : w.heap.size ≤ wr.heap.size := (h6.trans j7).size
        obtain ⟨A6, c6, rfl, hc6, hb6⟩ := j1.ob.form
        have cs0 := j1.s.cell 0
        have cb0 := j1.b.cell 0
        simp at cs0 cb0
        have hsll' : sl.length ≤ 1099512676352 := by omega
        have hbll' : bl.length ≤ 1048576 := by omega
        gi_wp2_with (gi_at_builtin; refine wpListIn_app rfl _ _ rfl w.heap.size sv sl rfl j1.os A6 c6 bl rfl hb6 (by omega) hwrs ?_; intro v' w3 hown' hgrow hat; have hA := app_stepG (xs := bl) j1.s j1.os hwrs (by show w.heap.size ≤ w.heap.size + 1 + 1 + 1; omega) hown' rfl hgrow; have hst := j1.stepS hA hat (Nat.le_refl _); have cB1 := hA.box.cell 0; have fB1 := hA.box.frozen 0; simp at cB1; obtain ⟨A8, c8, ev8, _, _⟩ := hA.own.form; obtain ⟨M8, hM8⟩ : ∃ M, (sl ++ bl).length = M := ⟨_, rfl⟩; rw [hM8] at ev8; clear hM8; subst ev8)
        exact ⟨j5.trans (hA.others.from _), ⟨j7.trans hA.below, hst.l.trans h1.l.symm⟩, _, _, bl, by rw [HSN2.out]; exact hst, (h6.trans j7).trans hA.below⟩
  case done =>
    rintro D ys Z hD rfl ⟨sv, bv, bl, h1, h2⟩ hK
    have HKA := Lib.hid (kpF_all (spF (setW f ps)) S lens)
    obtain ⟨A6, c6, rfl, hc6, _⟩ := h1.os.form
    obtain ⟨T, hT⟩ : ∃ T, kpF (spF (setW f ps)) S lens (List.finRange lens.length) = T := ⟨_, rfl⟩
    rw [hT] at h1 HKA hc6
    clear hT
    have bg := hR.row.below h2 hgl
    have q1 := h1.r.cell 0
    have q2 := h1.s.cell 0
    have q3 := bg.cell 1
    have q4 := bg.frozen 1
    simp at q1 q2 q3
    have hgZ := bg.lt
    have hgD : g ≠ D := by rintro rfl; unfold Blk at bg; rw [bg] at hK; cases hK
    have e1 := hR.els.below h2 (Nat.le_refl _)
    have o1 := h1.os.lower hbb
    have R1 : RowAt (Z.setCell ⟨g, 1, none⟩ (.slice A6 T.length c6)) base g eV (.slice A6 T.length c6) (.slice A' lens.length c) ps T :=
      ⟨by simpa using bg.set_ 1 (.slice A6 T.length c6), e1.kept (grownBy_set _ _ _) (.inr fun e => bg.not_rowP (by decide) e1 e.symm), o1.kept (grownBy_set _ _ _) (.inr fun e => bg.not_row (by decide) o1 e.symm)⟩
    have B1 : Below base w (Z.setCell ⟨g, 1, none⟩ (.slice A6 T.length c6)) := (h2.mono hbb).setCell (p := ⟨g, 1, none⟩) hgb _
    have K1 : (Z.setCell ⟨g, 1, none⟩ (.slice A6 T.length c6)).heap[D]? = some (.deferred (some [])) := (Below.heap_setCell Z ⟨g, 1, none⟩ _ D (fun e => hgD e.symm)).trans hK
    have hsz0 := h2.size
    gi_wp2
    refine ⟨by simp, .inl ⟨_, _, rfl, run_takeDeferred K1, ?_⟩⟩
    refine ⟨.tuple #[], by simp [results, Try.f50, go_sem], ?_⟩
    have ha : Aside base (Z.setCell ⟨g, 1, none⟩ (.slice A6 T.length c6)) (some D) := fun r e => by cases e; exact ⟨by omega, _, K1, rfl⟩
    refine ⟨rfl, .slice A6 T.length c6, ?_, below_aside (B := base) B1 hbb (Nat.le_refl _) (grownBy_putObj' _ D (.deferred none)) ha⟩
    rw [← HKA.out]
    exact R1.aside (grownBy_putObj' _ D (.deferred none)) ha
  case stop =>
    rintro D cd pre Z _ _ hh _
    exact hh.elim
end Go.Proofs.Ytgicfgpemcagcaa
/- slices.SortFunc and slices.BinarySearch at this program's numbers, in plain declarations, written by the kit's tool. -/
namespace Go.Proofs
open Go.Shelf
def Try.sortI_ren : Go.Shelf.Ren := ⟨fun | 6 => 83 | 15 => 89 | 14 => 88 | 28 => 98 | 29 => 99 | 20 => 90 | 21 => 91 | 22 => 92 | 23 => 93 | 24 => 94 | 25 => 95 | 26 => 96 | 27 => 97 | 46 => 100 | 47 => 101 | 48 => 102 | 49 => 103 | 50 => 104 | 57 => 105 | n => n, fun | 22 => 22 | 24 => 3 | 25 => 34 | 3 => 3 | 39 => 84 | 0 => 0 | 53 => 79 | 55 => 80 | 4 => 4 | 46 => 89 | 45 => 88 | 50 => 76 | 5 => 5 | 9 => 9 | 66 => 96 | 70 => 100 | 76 => 102 | 77 => 103 | n => n, fun | n => n⟩
theorem Try.sortI : Go.Proofs.SlLaysF.n6 Try.prog Try.sortI_ren := {
  mixed := by kernel_rfl
  f6 := ⟨Try.f83.name, by decide, Try.func83.trans (congrArg some (by kernel_rfl))⟩
  f14 := ⟨Try.f88.name, by decide, Try.func88.trans (congrArg some (by kernel_rfl))⟩
  f15 := Try.func89.trans (congrArg some (by kernel_rfl))
  f20 := ⟨Try.f90.name, by decide, Try.func90.trans (congrArg some (by kernel_rfl))⟩
  f21 := ⟨Try.f91.name, by decide, Try.func91.trans (congrArg some (by kernel_rfl))⟩
  f22 := ⟨Try.f92.name, by decide, Try.func92.trans (congrArg some (by kernel_rfl))⟩
  f23 := ⟨Try.f93.name, by decide, Try.func93.trans (congrArg some (by kernel_rfl))⟩
  f24 := ⟨Try.f94.name, by decide, Try.func94.trans (congrArg some (by kernel_rfl))⟩
  f25 := ⟨Try.f95.name, by decide, Try.func95.trans (congrArg some (by kernel_rfl))⟩
  f26 := ⟨Try.f96.name, by decide, Try.func96.trans (congrArg some (by kernel_rfl))⟩
  f27 := ⟨Try.f97.name, by decide, Try.func97.trans (congrArg some (by kernel_rfl))⟩
  f28 := Try.func98.trans (congrArg some (by kernel_rfl))
  f29 := Try.func99.trans (congrArg some (by kernel_rfl))
  f46 := ⟨Try.f100.name, by decide, Try.func100.trans (congrArg some (by kernel_rfl))⟩
  f47 := Try.func101.trans (congrArg some (by kernel_rfl))
  f48 := Try.func102.trans (congrArg some (by kernel_rfl))
  f49 := ⟨Try.f103.name, by decide, Try.func103.trans (congrArg some (by kernel_rfl))⟩
  f50 := ⟨Try.f104.name, by decide, Try.func104.trans (congrArg some (by kernel_rfl))⟩
  f57 := ⟨Try.f105.name, by decide, Try.func105.trans (congrArg some (by kernel_rfl))⟩
  t0 := Try.underlying0
  a0 := Try.isAgg0
  z0 := Try.sizeOf0
  v0 := Try.zeroValue0
  t3 := Try.underlying3
  a3 := Try.isAgg3
  z3 := Try.sizeOf3
  v3 := Try.zeroValue3
  t4 := Try.underlying4
  a4 := Try.isAgg4
  z4 := Try.sizeOf4
  v4 := Try.zeroValue4
  t5 := Try.underlying5
  a5 := Try.isAgg5
  z5 := Try.sizeOf5
  v5 := Try.zeroValue5
  t9 := Try.underlying9
  a9 := Try.isAgg9
  z9 := Try.sizeOf9
  v9 := Try.zeroValue9
  t22 := Try.underlying22
  a22 := Try.isAgg22
  z22 := Try.sizeOf22
  v22 := Try.zeroValue22
  a24 := Try.isAgg3
  z24 := Try.sizeOf3
  t25 := Try.underlying34
  a25 := Try.isAgg34
  z25 := Try.sizeOf34
  v25 := Try.zeroValue34
  t39 := Try.underlying84
  a39 := Try.isAgg84
  z39 := Try.sizeOf84
  v39 := Try.zeroValue84
  t45 := Try.underlying88
  a45 := Try.isAgg88
  z45 := Try.sizeOf88
  v45 := Try.zeroValue88
  t46 := Try.underlying89
  a46 := Try.isAgg89
  z46 := Try.sizeOf89
  v46 := Try.zeroValue89
  t50 := Try.underlying76
  a50 := Try.isAgg76
  z50 := Try.sizeOf76
  v50 := Try.zeroValue76
  t53 := Try.underlying79
  a53 := Try.isAgg79
  z53 := Try.sizeOf79
  v53 := Try.zeroValue79
  t55 := Try.underlying80
  a55 := Try.isAgg80
  z55 := Try.sizeOf80
  v55 := Try.zeroValue80
  t66 := Try.underlying96
  a66 := Try.isAgg96
  z66 := Try.sizeOf96
  v66 := Try.zeroValue96
  t70 := Try.underlying100
  a70 := Try.isAgg100
  z70 := Try.sizeOf100
  v70 := Try.zeroValue100
  t76 := Try.underlying102
  a76 := Try.isAgg102
  z76 := Try.sizeOf102
  v76 := Try.zeroValue102
  t77 := Try.underlying103
  a77 := Try.isAgg103
  z77 := Try.sizeOf103
  v77 := Try.zeroValue103 }
def Try.lays25_ren : Go.Shelf.Ren := ⟨fun | 25 => 78 | 31 => 77 | 32 => 87 | 37 => 86 | n => n, fun | 22 => 22 | 3 => 3 | 4 => 4 | 40 => 84 | 0 => 0 | n => n, fun | n => n⟩
theorem Try.lays25 : Go.Proofs.Lays2.n25 Try.prog Try.lays25_ren := {
  mixed := by kernel_rfl
  f25 := Try.func78.trans (congrArg some (by kernel_rfl))
  f31 := Try.func77.trans (congrArg some (by kernel_rfl))
  f32 := Try.func87.trans (congrArg some (by kernel_rfl))
  f37 := Try.func86.trans (congrArg some (by kernel_rfl))
  t0 := Try.underlying0
  a0 := Try.isAgg0
  z0 := Try.sizeOf0
  v0 := Try.zeroValue0
  t3 := Try.underlying3
  a3 := Try.isAgg3
  z3 := Try.sizeOf3
  v3 := Try.zeroValue3
  t4 := Try.underlying4
  a4 := Try.isAgg4
  z4 := Try.sizeOf4
  v4 := Try.zeroValue4
  t22 := Try.underlying22
  a22 := Try.isAgg22
  z22 := Try.sizeOf22
  v22 := Try.zeroValue22
  t40 := Try.underlying84
  a40 := Try.isAgg84
  z40 := Try.sizeOf84
  v40 := Try.zeroValue84 }
end Go.Proofs
/- Walks of rank: the comparisons of a row, and what they are put together to. -/
namespace Go.Proofs.Ytgicfgpemcagcaa
set_option linter.unusedVariables false
set_option maxRecDepth 100000
open Go.RowKit Go.Shelf
open Go.Sort (SWO)
def cmpI (a b : Int) : Int := if a < b then -1 else if b < a then 1 else 0
theorem compare_any (a b : Int) (w : World) : Calls Try.prog 85 #[.int .i64 a, .int .i64 b] w fun e w' => e = .returned (.int .i64 (cmpI a b)) ∧ w = w' := by
  by_cases h1 : a < b
  · have hd1 : decide (a < b) = true := by simpa using h1
    have HE := Lib.hid (show cmpI a b = -1 by simp [cmpI, h1])
    go_enter Try.func85, Try.ntmps85
    go_wp2_with (go_at_call 86; refine (cisNaN_any _ _).mono ?_; rintro e w' ⟨rfl, rfl⟩)
    go_ret
    rw [HE.out]; exact ⟨rfl, rfl⟩
  · have hd1 : decide (a < b) = false := by simpa using h1
    by_cases h2 : b < a
    · have hd2 : decide (b < a) = true := by simpa using h2
      have HE := Lib.hid (show cmpI a b = 1 by simp [cmpI, h1, h2])
      go_enter Try.func85, Try.ntmps85
      go_wp2_with (go_at_call 86; refine (cisNaN_any _ _).mono ?_; rintro e w' ⟨rfl, rfl⟩)
      go_ret
      rw [HE.out]; exact ⟨rfl, rfl⟩
    · have hd2 : decide (b < a) = false := by simpa using h2
      have HE := Lib.hid (show cmpI a b = 0 by simp [cmpI, h1, h2])
      go_enter Try.func85, Try.ntmps85
      go_wp2_with (go_at_call 86; refine (cisNaN_any _ _).mono ?_; rintro e w' ⟨rfl, rfl⟩)
      go_ret
      rw [HE.out]; exact ⟨rfl, rfl⟩
theorem byNumber_any (r : Value) (a b : Int) (w : World) : Calls Try.prog 75 #[r, .int .i64 a, .int .i64 b] w fun e w' => e = .returned (.int .i64 (cmpI a b)) ∧ w = w' := by
  have C := Lib.hid (compare_any a b w)
  go_enter Try.func75, Try.ntmps75
  go_wp2_with fail
  refine C.out.mono ?_
  rintro e w' ⟨rfl, rfl⟩
  go_wp2
  go_ret
  exact ⟨rfl, rfl⟩
set_option maxHeartbeats 2000000 in
theorem byWord_any (g ge n c x y : Nat) (u v : Int) (sV lV : Value) (w : World) (hg : Blk w g 67 #[.slice (some ⟨ge, 0, none⟩) n c, sV, lV]) (hx : x < n) (hy : y < n) (cx : w.cell? ⟨ge, x * 2 + 1, none⟩ = some (.int .i64 u)) (cy : w.cell? ⟨ge, y * 2 + 1, none⟩ = some (.int .i64 v)) :
    Calls Try.prog 74 #[.pointer (some ⟨g, 0, none⟩), .int .i64 (x : Int), .int .i64 (y : Int)] w fun e w' => e = .returned (.int .i64 (cmpI u v)) ∧ w' = w.drew := by
  have c0 := hg.cell 0
  simp at c0
  have g0 : (0 : Int) ≤ (x : Int) := by omega
  have g1 : (x : Int) < (n : Int) := by omega
  have g2 : (0 : Int) ≤ (y : Int) := by omega
  have g3 : (y : Int) < (n : Int) := by omega
  go_enter Try.func74, Try.ntmps74
  go_wp2
  have hmix : Try.prog.follows .mixedOrders = true := by kernel_rfl
  refine wp_region_still_tail 16 hmix (by kernel_rfl) ?_
  simp only [List.take_succ_cons, List.take_zero, List.drop_succ_cons, List.drop_zero]
  iterate 16 still_step
  refine wpStill_nil ?_
  change wpList _ _ _ _ _ w.drew
  have C := Lib.hid (compare_any u v w.drew)
  go_wp2_with fail
  refine C.out.mono ?_
  rintro e w' ⟨rfl, hw⟩
  go_wp2
  go_ret
  exact ⟨rfl, hw.symm⟩
end Go.Proofs.Ytgicfgpemcagcaa
