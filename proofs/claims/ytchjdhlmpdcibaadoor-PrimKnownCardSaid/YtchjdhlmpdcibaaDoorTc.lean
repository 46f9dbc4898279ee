/- Walks of the specification: orderOf. -/
import Derived.Test.YtchjdhlmpdcibaaDoorTa
import Derived.Test.YtchjdhlmpdcibaaDoorDf
import Derived.Test.YtchjdhlmpdcibaaDoorRm
import Derived.Laws.AppendOwnNone
import Derived.Maps.AppendAt
import Derived.Deep.RegionHeld3
import Derived.Deep.AppendLies
namespace Go.Proofs.YtchjdhlmpdcibaaDoor
set_option linter.unusedVariables false
open Go.RowKit Go.Shelf
theorem slice_to' (ad : Addr) (c p : Nat) (ys : List Int) (w : World) (h : Sl w (some ad) ys) (hp : p ≤ ys.length) (hc : ys.length ≤ c) :
    ∃ B : Addr, (∀ W, (Instr.sliceAt 22 (.slice (some ad) ys.length c) none (some (.int .i64 (p : Int))) none).run Tryd.prog W = .ok (.slice (some B) p c) W) ∧ Sl w (some B) (ys.take p) := by
  obtain ⟨i0, hi, hz0, hz1, hz2⟩ := info_parts int_info
  have he : Tryd.prog.elem 22 = 3 := by kernel_rfl
  have hrun : ∀ W, (Instr.slice 22 (.slice (some ad) ys.length c) none (some (.int .i64 (p : Int))) none).run Tryd.prog W = .ok (sliced (some ad) 0 p c 1) W := fun W => by
    rw [run_slice_h W 22 (some ad) ys.length c (by rw [he]; exact Tryd.underlying22) .i64 (p : Int) (by omega) (by omega), he]
    simp [sizeOf, typeInfo, hi, hz1, Result.andThen]
  obtain ⟨B, h1, h2⟩ := slice_to (some ad) c p ys w h hp hc
  have e := (h1 w).symm.trans ((run_sliceAt_slice w 22 _ _ _ _ (by kernel_rfl)).trans (hrun w))
  unfold sliced at e
  injection e with e _
  injection e with e _ _
  cases B with
  | none => split at e <;> cases e
  | some B => exact ⟨B, h1, h2⟩
theorem slice_from' (ad : Addr) (c lo : Nat) (ys : List Int) (w : World) (h : Sl w (some ad) ys) (hlo : lo ≤ ys.length) (hc : ys.length ≤ c) :
    ∃ B : Addr, (∀ W, (Instr.sliceAt 22 (.slice (some ad) ys.length c) (some (.int .i64 (lo : Int))) none none).run Tryd.prog W = .ok (.slice (some B) (ys.length - lo) (c - lo)) W) ∧ Sl w (some B) (ys.drop lo) := by
  obtain ⟨i0, hi, hz0, hz1, hz2⟩ := info_parts int_info
  have he : Tryd.prog.elem 22 = 3 := by kernel_rfl
  have hrun : ∀ W, (Instr.slice 22 (.slice (some ad) ys.length c) (some (.int .i64 (lo : Int))) none none).run Tryd.prog W = .ok (sliced (some ad) lo ys.length c 1) W := fun W => by
    rw [run_slice_l W 22 (some ad) ys.length c (by rw [he]; exact Tryd.underlying22) .i64 (lo : Int) (by omega) (by omega), he]
    simp [sizeOf, typeInfo, hi, hz1, Result.andThen]
  obtain ⟨B, h1, h2⟩ := slice_from (some ad) c lo ys w h hlo hc
  have e := (h1 w).symm.trans ((run_sliceAt_slice w 22 _ _ _ _ (by kernel_rfl)).trans (hrun w))
  unfold sliced at e
  injection e with e _
  injection e with e _ _
  cases B with
  | none => split at e <;> cases e
  | some B => exact ⟨B, h1, h2⟩
/-- A slice appended, at a step of a drawn region. -/
theorem step_apps {ops : Array Oper} {o : Oper} {a : Act} {K : Act → World → Prop} {Q : Exit → Act → World → Prop} {E : Prop} (X : World) (hgd : o.guard = none) (sl x : Operand)
    (ho : o.op = .call { callee := .builtin .append, args := #[sl, x], argTypes := #[22, 22] }) (i0 : TypeInfo) (hi : Tryd.prog.info? 3 = some i0) (hz0 : i0.zero = some (.int .i64 0)) (hz1 : i0.size = 1) (hz2 : i0.bytes = 8)
    (base : Nat) (u : Value) (zs : List Int) (hs : a.eval sl = u) (hown : OwnI X base u zs) (B : Addr) (m c : Nat) (ys : List Int) (hx : a.eval x = .slice (some B) m c) (hm : ys.length = m) (hB : Sl X (some B) ys)
    (hl : zs.length + m ≤ 1048576) (hb : base ≤ X.heap.size)
    (h : ∀ v' w1, OwnI w1 base v' (zs ++ ys) → X.grownBy w1 u.ownBlock → K (a.put o.dst v') w1) :
    if Region.wanted o (yielded ops a.tmps) = true then Oper.wp Tryd.prog o a X K Q else E := by
  have hw : Region.wanted o (yielded ops a.tmps) = true := by simp [Region.wanted, hgd]
  rw [if_pos hw]
  obtain ⟨v', w', hr, h2, h3, h4, h5⟩ := run_append_own_at (P := Tryd.prog) X base 22 o.type 3 i0 (.int .i64 0) 1 8 Tryd.underlying22 hi hz0 hz1 hz2 rfl (by decide) u zs.length (zs.map (Value.int .i64)) hown B m c (ys.map (Value.int .i64)) (by rw [List.length_map, hm, Nat.mul_one]) hB.news (by simp [Value.oneCell']) (by unfold maxLen; omega) (by omega) hb
  unfold Oper.wp execOp
  simp only [ho, resolve, invoke, builtin, Sem.run_bind, Sem.run_pure, Result.andThen_ok, List.map_toArray, List.map_cons, List.map_nil, hs, hx, hr]
  exact h _ _ (OwnI.app h2 rfl hm) h3
theorem perm_step (out rest u : List Int) (j : Nat) (hj : j < rest.length) (h : (out ++ rest).Perm u) : ((out ++ [nth rest j]) ++ (rest.take j ++ rest.drop (j + 1))).Perm u := by
  refine List.Perm.trans ?_ h
  rw [List.append_assoc]
  apply List.Perm.append_left
  have e : rest = rest.take j ++ nth rest j :: rest.drop (j + 1) := by
    rw [nth_eq rest j hj]
    simp
  refine List.Perm.trans ?_ (List.Perm.of_eq e.symm)
  show (nth rest j :: (rest.take j ++ rest.drop (j + 1))).Perm _
  exact List.perm_middle.symm
theorem copy_some (B : Addr) (m c : Nat) (zs : List Int) (w : World) (hm : zs.length = m) (h : Sl w (some B) zs) (hl : m ≤ 1048576) :
    Calls Tryd.prog 78 #[.slice (some B) m c] w fun e w' => ∃ v, e = .returned v ∧ OwnI w' w.heap.size v zs ∧ Below w.heap.size w w' := by
  subst hm
  exact copy_any (some B) c zs w h (fun h => by cases h) hl
end Go.Proofs.YtchjdhlmpdcibaaDoor
