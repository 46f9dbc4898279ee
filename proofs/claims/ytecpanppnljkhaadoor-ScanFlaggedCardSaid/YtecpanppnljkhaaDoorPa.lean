/- Copy of any slice; Wrap, with its row. -/
import Derived.Test.YtecpanppnljkhaaDoorKa3
import Derived.Test.YtecpanppnljkhaaDoorEl
import Derived.Test.YtecpanppnljkhaaDoorQv
namespace Go.Proofs.YtecpanppnljkhaaDoor
set_option linter.unusedVariables false
open Go.RowKit Go.Shelf
set_option maxHeartbeats 4000000 in
theorem copy_gen (A : Option Addr) (c : Nat) (zs : List Int) (w : World) (h : Sl w A zs) (hl : zs.length ≤ 1048576) :
    Calls Tryd.prog 26 #[.slice A zs.length c] w fun e w' => ∃ v, e = .returned v ∧ OwnI w' w.heap.size v zs ∧ Below w.heap.size w w' := by
  obtain ⟨i0, hi, hz0, hz1, hz2⟩ := info_parts int_info
  by_cases h0 : zs.length = 0
  · obtain rfl := List.eq_nil_of_length_eq_zero h0
    have hown := OwnI.empty w w.heap.size (Nat.le_refl _)
    have hB0 := (Below.refl w.heap.size w).alloc (Nat.le_refl _) (.cells #[] 3)
    have hr := Lib.hid (run_app_empty (P := Tryd.prog) (w.alloc (.cells #[] 3)) 22 22 3 i0 Tryd.underlying22 hi (some ⟨w.heap.size, 0, none⟩) A 0 0 c (Nat.le_refl _))
    clear h0 h
    go_enter Tryd.func26, Tryd.ntmps26
    go_wp2_with (at_builtin; refine Lib.wpList_append_run _ rfl _ _ 22 22 rfl _ _ rfl rfl _ _ hr.out ?_)
    go_ret
    exact ⟨_, rfl, hown, hB0⟩
  · cases A with
    | none =>
      obtain ⟨_, _, e, _⟩ := h (by omega)
      cases e
    | some ad => exact copy_any (some ad) c zs w h (fun e => by cases e) hl
theorem wpList_append_sl {ops : Array Oper} {rest : List Oper} {o : Oper} {a : Act} {Q : Exit → Act → World → Prop} {w0 w : World} (hgd : o.guard = none) (s x : Operand)
    (ho : o.op = .call { callee := .builtin .append, args := #[s, x], argTypes := #[22, 22] }) (base : Nat) (v : Value) (zs : List Int) (hs : a.eval s = v) (hown : OwnI w base v zs)
    (A : Option Addr) (c : Nat) (ys : List Int) (hx : a.eval x = .slice A ys.length c) (hS : Sl w A ys) (h63 : zs.length + ys.length ≤ 1000000) (hB : Below base w0 w) (hb : base ≤ w.heap.size)
    (h : ∀ v' w', OwnI w' base v' (zs ++ ys) → Below base w0 w' → wpList Tryd.prog ops Q rest (a.put o.dst v') w') : wpList Tryd.prog ops Q (o :: rest) a w := by
  obtain ⟨i0, hi, hz0, hz1, hz2⟩ := info_parts int_info
  by_cases h0 : ys.length = 0
  · obtain rfl := List.eq_nil_of_length_eq_zero h0
    obtain ⟨A3, c3, rfl, hcc3, _⟩ := hown.form
    have hr := run_app_empty (P := Tryd.prog) w 22 o.type 3 i0 Tryd.underlying22 hi A3 A zs.length c3 c hcc3
    exact Lib.wpList_append_run w hgd s x 22 22 ho _ _ hs hx _ _ hr (h _ _ (by rw [List.append_nil]; exact hown) hB)
  · obtain ⟨b, off, rfl, _, _⟩ := hS (by omega)
    refine wpList_append_own w hgd s x 22 ho base 3 i0 (.int .i64 0) 1 8 Tryd.underlying22 hi hz0 hz1 hz2 rfl (by decide) v zs.length _ hs hown ⟨b, off, none⟩ ys.length c (ys.map (Value.int .i64)) hx (by simp) (Sl.newsA hS) (by intro u hu; obtain ⟨q, _, rfl⟩ := List.mem_map.1 hu; rfl) (by unfold maxLen; omega) (by omega) hb ?_
    intro v' w' hown' hgrow _
    exact h v' w' (OwnI.app hown' rfl rfl) (below_app' hB hb hown hgrow)
def vIs : Value → Bool → Bool
  | .bool b, c => b == c
  | _, _ => false
theorem vIs_spec {v : Value} {c : Bool} (h : vIs v c = true) : v = .bool c := by
  cases v with
  | bool b =>
    have : b = c := by simpa [vIs] using h
    rw [this]
  | _ => cases h
theorem v_guard {vs : List Value} {l : List Oper} (h : ((List.range l.length).all fun k => match l[k]? with | some o => (match o.guard with | some (j, b) => vIs (vs.getD j undef) b | none => true) | none => true) = true) :
    ∀ (k : Nat) (o : Oper) (j : Nat) (b : Bool), l[k]? = some o → o.guard = some (j, b) → vs.getD j undef = .bool b := fun k o j b ho hg => by
  have hk : k < l.length := (List.getElem?_eq_some_iff.1 ho).1
  have := List.all_eq_true.1 h k (List.mem_range.2 hk)
  simp only [ho, hg] at this
  exact vIs_spec this
/-- Wds of two lists. -/
theorem wds_app {a b : List Int} (ha : Wds a) (hb : Wds b) : Wds (a ++ b) := fun j hj => by
  rw [List.length_append] at hj
  rcases Nat.lt_or_ge j a.length with h | h
  · rw [nth_app_lt _ _ _ h]; exact ha j h
  · rw [nth_app_ge _ _ _ h]; exact hb _ (by omega)
end Go.Proofs.YtecpanppnljkhaaDoor
