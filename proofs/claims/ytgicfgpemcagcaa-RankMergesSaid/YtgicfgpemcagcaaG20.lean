/- Walks and mathematics of rank, part 20. -/
import Derived.Test.YtgicfgpemcagcaaG19
import Derived.Test.YtgicfgpemcagcaaG09
import Derived.Laws.AppendOwnNone
import Derived.Maps.AppendAt
import Derived.Deep.RegionHeld3
import Derived.Deep.AppendLies
/- Walks of the specification: orderOf. -/
namespace Go.Proofs.Ytgicfgpemcagcaa
set_option linter.unusedVariables false
open Go.RowKit Go.Shelf
theorem slice_to' (ad : Addr) (c p : Nat) (ys : List Int) (w : World) (h : Sl w (some ad) ys) (hp : p ≤ ys.length) (hc : ys.length ≤ c) :
    ∃ B : Addr, (∀ W, (Instr.sliceAt 22 (.slice (some ad) ys.length c) none (some (.int .i64 (p : Int))) none).run Try.prog W = .ok (.slice (some B) p c) W) ∧ Sl w (some B) (ys.take p) := by
  obtain ⟨i0, hi, hz0, hz1, hz2⟩ := info_parts int_info
  have he : Try.prog.elem 22 = 3 := by kernel_rfl
  have hrun : ∀ W, (Instr.slice 22 (.slice (some ad) ys.length c) none (some (.int .i64 (p : Int))) none).run Try.prog W = .ok (sliced (some ad) 0 p c 1) W := fun W => by
    rw [run_slice_h W 22 (some ad) ys.length c (by rw [he]; exact Try.underlying22) .i64 (p : Int) (by omega) (by omega), he]
    simp [sizeOf, typeInfo, hi, hz1, Result.andThen]
  obtain ⟨B, h1, h2⟩ := slice_to (some ad) c p ys w h hp hc
  have e := (h1 w).symm.trans ((run_sliceAt_slice w 22 _ _ _ _ (by kernel_rfl)).trans (hrun w))
  unfold sliced at e
  injection e with e _
  injection e with e _ _
  cases B with
  | none => split at e <;> cases e
  | some B => exact ⟨B, h1, h2⟩
theorem slice_from' (ad : Addr) (c lo : Nat) (ys : List Int) (w : World) (h : Sl w (some ad) ys) (hlo : lo ≤ ys.length) (hc : ys.length ≤ c) :
    ∃ B : Addr, (∀ W, (Instr.sliceAt 22 (.slice (some ad) ys.length c) (some (.int .i64 (lo : Int))) none none).run Try.prog W = .ok (.slice (some B) (ys.length - lo) (c - lo)) W) ∧ Sl w (some B) (ys.drop lo) := by
  obtain ⟨i0, hi, hz0, hz1, hz2⟩ := info_parts int_info
  have he : Try.prog.elem 22 = 3 := by kernel_rfl
  have hrun : ∀ W, (Instr.slice 22 (.slice (some ad) ys.length c) (some (.int .i64 (lo : Int))) none none).run Try.prog W = .ok (sliced (some ad) lo ys.length c 1) W := fun W => by
    rw [run_slice_l W 22 (some ad) ys.length c (by rw [he]; exact Try.underlying22) .i64 (lo : Int) (by omega) (by omega), he]
    simp [sizeOf, typeInfo, hi, hz1, Result.andThen]
  obtain ⟨B, h1, h2⟩ := slice_from (some ad) c lo ys w h hlo hc
  have e := (h1 w).symm.trans ((run_sliceAt_slice w 22 _ _ _ _ (by kernel_rfl)).trans (hrun w))
  unfold sliced at e
  injection e with e _
  injection e with e _ _
  cases B with
  | none => split at e <;> cases e
  | some B => exact ⟨B, h1, h2⟩
/-- A slice appended, at a step of a drawn region. -/
theorem step_apps {ops : Array Oper} {o : Oper} {a : Act} {K : Act → World → Prop} {Q : Exit → Act → World → Prop} {E : Prop} (X : World) (hgd : o.guard = none) (sl x : Operand)
    (ho : o.op = .call { callee := .builtin .append, args := #[sl, x], argTypes := #[22, 22] }) (i0 : TypeInfo) (hi : Try.prog.info? 3 = some i0) (hz0 : i0.zero = some (.int .i64 0)) (hz1 : i0.size = 1) (hz2 : i0.bytes = 8)
    (base : Nat) (u : Value) (zs : List Int) (hs : a.eval sl = u) (hown : OwnI X base u zs) (B : Addr) (m c : Nat) (ys : List Int) (hx : a.eval x = .slice (some B) m c) (hm : ys.length = m) (hB : Sl X (some B) ys)
    (hl : zs.length + m ≤ 1048576) (hb : base ≤ X.heap.size)
    (h : ∀ v' w1, OwnI w1 base v' (zs ++ ys) → X.grownBy w1 u.ownBlock → K (a.put o.dst v') w1) :
    if Region.wanted o (yielded ops a.tmps) = true then Oper.wp Try.prog o a X K Q else E := by
  have hw : Region.wanted o (yielded ops a.tmps) = true := by simp [Region.wanted, hgd]
  rw [if_pos hw]
  obtain ⟨v', w', hr, h2, h3, h4, h5⟩ := run_append_own_at (P := Try.prog) X base 22 o.type 3 i0 (.int .i64 0) 1 8 Try.underlying22 hi hz0 hz1 hz2 rfl (by decide) u zs.length (zs.map (Value.int .i64)) hown B m c (ys.map (Value.int .i64)) (by rw [List.length_map, hm, Nat.mul_one]) hB.news (by simp [Value.oneCell']) (by unfold maxLen; omega) (by omega) hb
  unfold Oper.wp execOp
  simp only [ho, resolve, invoke, builtin, Sem.run_bind, Sem.run_pure, Result.andThen_ok, List.map_toArray, List.map_cons, List.map_nil, hs, hx, hr]
  exact h _ _ (OwnI.app h2 rfl hm) h3
theorem perm_step (out rest u : List Int) (j : Nat) (hj : j < rest.length) (h : (out ++ rest).Perm u) : ((out ++ [nth rest j]) ++ (rest.take j ++ rest.drop (j + 1))).Perm u := by
  refine List.Perm.trans ?_ h
  rw [List.append_assoc]
  apply List.Perm.append_left
  have e : rest = rest.take j ++ nth rest j :: rest.drop (j + 1) := by
    rw [nth_eq rest j hj]
    simp
  refine List.Perm.trans ?_ (List.Perm.of_eq e.symm)
  show (nth rest j :: (rest.take j ++ rest.drop (j + 1))).Perm _
  exact List.perm_middle.symm
theorem copy_some (B : Addr) (m c : Nat) (zs : List Int) (w : World) (hm : zs.length = m) (h : Sl w (some B) zs) (hl : m ≤ 1048576) :
    Calls Try.prog 40 #[.slice (some B) m c] w fun e w' => ∃ v, e = .returned v ∧ OwnI w' w.heap.size v zs ∧ Below w.heap.size w w' := by
  subst hm
  exact copy_any (some B) c zs w h (fun h => by cases h) hl
end Go.Proofs.Ytgicfgpemcagcaa
/- PrimRepeated: what Rep and Iota return, place by place. -/
namespace Go.Proofs.Ytgicfgpemcagcaa
set_option linter.unusedVariables false
open Go.RowKit
theorem nth_right {xs ys : List Int} (q j : Nat) (h : xs.length = q) (hj : j < ys.length) : nth (xs ++ ys) (q + j) = nth ys j := by
  unfold nth
  rw [List.getD_eq_getElem?_getD, List.getD_eq_getElem?_getD, List.getElem?_append_right (by omega), show q + j - xs.length = j by omega]
theorem nth_rep (x : Int) (m j : Nat) (h : j < m) : nth (List.replicate m x) j = x := by
  unfold nth; rw [List.getD_eq_getElem?_getD, List.getElem?_replicate, if_pos h]; rfl
theorem rep_read {x t : List Int} (hp : posB t = true) (i n : Nat) (hi : i < n) (hn : n ≤ t.length) (q j : Nat) (hq : (q : Int) = psum t i) (hj : (j : Int) < nth t i) : nth (repK x t n) (q + j) = nth x i := by
  induction n with
  | zero => omega
  | succ n ih =>
    have hl := repK_length (a := x) hp n (by omega)
    simp only [repK]
    by_cases e : i = n
    · subst e
      rw [nth_right q j (by omega) (by rw [List.length_replicate]; omega), nth_rep _ _ _ (by omega)]
    · have h1 := psum_mono t hp (i + 1) n (by omega) (by omega)
      rw [psum_succ t i (by omega)] at h1
      rw [nth_left _ (by omega)]
      exact ih (by omega) (by omega)
theorem iot_read {t : List Int} (hp : posB t = true) (i n : Nat) (hi : i < n) (hn : n ≤ t.length) (q j : Nat) (hq : (q : Int) = psum t i) (hj : (j : Int) < nth t i) : nth (iotK t n) (q + j) = j := by
  induction n with
  | zero => omega
  | succ n ih =>
    have hl := iotK_length hp n (by omega)
    simp only [iotK]
    by_cases e : i = n
    · subst e
      rw [nth_right q j (by omega) (by unfold upL; rw [mk_length]; omega)]
      unfold upL; rw [nth_mk _ _ _ (by omega)]
    · have h1 := psum_mono t hp (i + 1) n (by omega) (by omega)
      rw [psum_succ t i (by omega)] at h1
      rw [nth_left _ (by omega)]
      exact ih (by omega) (by omega)
theorem rep_map (a t : List Int) (m n : Nat) (hn : n ≤ m) : (repK (upL m) t n).map (fun x => nth a x.toNat) = repK a t n := by
  induction n with
  | zero => rfl
  | succ n ih =>
    simp only [repK, List.map_append, List.map_replicate]
    rw [ih (by omega)]
    unfold upL
    rw [nth_mk _ _ _ (by omega)]
    simp
theorem rep_in (t : List Int) (m n : Nat) (hn : n ≤ m) : ∀ x ∈ repK (upL m) t n, 0 ≤ x ∧ x < m := by
  induction n with
  | zero => intro x hx; simp [repK] at hx
  | succ n ih =>
    intro x hx
    simp only [repK] at hx
    rcases List.mem_append.1 hx with h | h
    · exact ih (by omega) x h
    · have := List.eq_of_mem_replicate h
      unfold upL at this
      rw [nth_mk _ _ _ (by omega)] at this
      omega
theorem rep_mem (a t : List Int) (n : Nat) (hn : n ≤ a.length) : ∀ x ∈ repK a t n, x ∈ a := by
  induction n with
  | zero => intro x hx; simp [repK] at hx
  | succ n ih =>
    intro x hx
    simp only [repK] at hx
    rcases List.mem_append.1 hx with h | h
    · exact ih (by omega) x h
    · rw [List.eq_of_mem_replicate h]; exact nth_mem a n (by omega)
def svL (zs : List Int) (n : Nat) : List Int := mk (fun k => nth zs (k % zs.length) % 7) n
theorem mk_map (F : Int → Int) (l : List Int) : mk (fun k => F (nth l k)) l.length = l.map F := by
  apply eq_of_nth (by rw [mk_length, List.length_map])
  intro j hj
  rw [mk_length] at hj
  rw [nth_mk _ _ _ hj, nth_eq (l.map F) j (by simpa using hj), List.getElem_map, nth_eq l j hj]
/-- a list of words, and as many counts below 7 -/
structure Repd (a c : List Int) : Prop where
  len : c.length = a.length
  few : a.length ≤ 100
  wa : ∀ x ∈ a, isW x
  wc : ∀ x ∈ c, 0 ≤ x ∧ x < 7
theorem psum_bnd {c : List Int} (h : ∀ x ∈ c, 0 ≤ x ∧ x < 7) (k : Nat) (hk : k ≤ c.length) : 0 ≤ psum c k ∧ psum c k ≤ 6 * k := by
  induction k with
  | zero => rw [psum_zero]; omega
  | succ k ih =>
    have := ih (by omega)
    have h2 := h _ (nth_mem c k (by omega))
    rw [psum_succ c k (by omega)]; omega
theorem Repd.pos {a c : List Int} (h : Repd a c) : posB c = true := by
  unfold posB; rw [List.all_eq_true]; intro x hx; simpa using (h.wc x hx).1
theorem Repd.tot {a c : List Int} (h : Repd a c) : totE c = 0 := by
  have h1 := psum_bnd h.wc c.length (Nat.le_refl _)
  rw [psum_all] at h1
  have := h.len; have := h.few
  unfold totE; rw [if_pos h.pos, if_neg (by omega)]
theorem Repd.ev {a c : List Int} (h : Repd a c) (b : List Int) (hb : b.length = a.length) (hw : ∀ x ∈ b, isW x) : evE [b, c] = 0 := by
  have h1 := h.len; have h2 := h.few
  have h3 : lsE [b, c] = 0 := ls_of _ (by simp; omega) (by
    intro l hl; simp at hl
    rcases hl with rfl | rfl
    · exact hw
    · intro x hx; have := h.wc x hx; unfold isW; omega)
  unfold evE
  rw [if_pos h3, if_pos (by simp [evenB, hb, h1])]
theorem up_all (n : Nat) (hn : n ≤ 1048576) : ∀ x ∈ upL n, isW x := by
  intro x hx; unfold upL mk at hx; obtain ⟨k, hk, rfl⟩ := List.mem_map.1 hx; have := List.mem_range.1 hk; unfold isW; omega
theorem up_len (n : Nat) : (upL n).length = n := by unfold upL; rw [mk_length]
theorem Repd.rep {a c : List Int} (h : Repd a c) : repE a c = 0 := by
  unfold repE; rw [if_pos (h.ev a rfl h.wa)]; exact h.tot
theorem Repd.rep2 {a c : List Int} (h : Repd a c) : repE (upL a.length) c = 0 := by
  have := h.few
  unfold repE; rw [if_pos (h.ev _ (up_len _) (up_all _ (by omega)))]; exact h.tot
theorem Repd.iot {a c : List Int} (h : Repd a c) : iotE c = 0 := by
  have h1 := h.len; have h2 := h.few
  have h3 : lsE [c] = 0 := ls_of _ (by simp; omega) (by
    intro l hl; simp at hl; subst hl
    intro x hx; have := h.wc x hx; unfold isW; omega)
  unfold iotE; rw [if_pos h3]; exact h.tot
theorem Repd.lens {a c : List Int} (h : Repd a c) : ((repL a c).length : Int) = c.sum ∧ (repL (upL a.length) c).length = (repL a c).length ∧ (iotL c).length = (repL a c).length ∧ (repL a c).length ≤ 600 := by
  have h1 := repK_length (a := a) h.pos c.length (Nat.le_refl _)
  have h2 := repK_length (a := upL a.length) h.pos c.length (Nat.le_refl _)
  have h3 := iotK_length h.pos c.length (Nat.le_refl _)
  have h4 := psum_bnd h.wc c.length (Nat.le_refl _)
  have hl := h.len; have hf := h.few
  rw [psum_all] at h1 h2 h3 h4
  rw [hl] at h1 h2 h4
  unfold repL iotL
  rw [up_len]
  refine ⟨h1, by omega, by omega, by omega⟩
theorem Repd.gat {a c : List Int} (h : Repd a c) : gatE a (repL (upL a.length) c) = 0 ∧ gatL a (repL (upL a.length) c) = repL a c := by
  have hl := h.len; have hf := h.few
  obtain ⟨l1, l2, l3, l4⟩ := h.lens
  have hin : ∀ x ∈ repL (upL a.length) c, 0 ≤ x ∧ x < a.length := by
    unfold repL; rw [up_len]; exact rep_in c a.length a.length (Nat.le_refl _)
  have h1 : lsE [a, repL (upL a.length) c] = 0 := ls_of _ (by simp; omega) (by
    intro l hl'; simp at hl'
    rcases hl' with rfl | rfl
    · exact h.wa
    · intro x hx; have := hin x hx; unfold isW; omega)
  constructor
  · unfold gatE
    rw [if_pos h1]
    apply fe_none
    intro k hk
    have := hin _ (nth_mem _ k hk)
    rw [if_pos (by unfold plB; simpa using this)]
  · unfold gatL
    rw [mk_map (fun x => nth a x.toNat)]
    unfold repL
    rw [up_len]
    exact rep_map a c a.length a.length (Nat.le_refl _)
theorem Repd.read {a c : List Int} (h : Repd a c) (i q j : Nat) (hi : i < a.length) (hq : (q : Int) = psum c i) (hj : (j : Int) < nth c i) :
    nth (repL a c) (q + j) = nth a i ∧ nth (repL (upL a.length) c) (q + j) = i ∧ nth (iotL c) (q + j) = j ∧ q + j < (repL a c).length := by
  have hl := h.len
  have h1 : nth (upL a.length) i = i := by unfold upL; rw [nth_mk _ _ _ hi]
  have h2 := rep_read (x := upL a.length) h.pos i c.length (by omega) (Nat.le_refl _) q j hq hj
  have h3 := rep_read (x := a) h.pos i c.length (by omega) (Nat.le_refl _) q j hq hj
  have h4 := iot_read h.pos i c.length (by omega) (Nat.le_refl _) q j hq hj
  have h5 := psum_mono c h.pos (i + 1) c.length (by omega) (Nat.le_refl _)
  rw [psum_succ c i (by omega), psum_all] at h5
  have h6 := h.lens.1
  rw [hl] at h2 h3
  rw [h1] at h2
  refine ⟨h3, ?_, h4, by omega⟩
  unfold repL; rw [up_len]; exact h2
theorem repd_of (z0 z1 : List Int) : Repd (wlL z0 100) (svL z1 (wlL z0 100).length) :=
  ⟨by unfold svL; rw [mk_length], wl_len _ _, wl_all _ _, by intro x hx; unfold svL mk at hx; obtain ⟨k, _, rfl⟩ := List.mem_map.1 hx; omega⟩
end Go.Proofs.Ytgicfgpemcagcaa
/- Walks of the specification: orderOf. -/
namespace Go.Proofs.Ytgicfgpemcagcaa
set_option linter.unusedVariables false
open Go.RowKit Go.Shelf
/-- The value's own block is not where the slice lies. -/
def Off (v : Value) (A : Option Addr) (zs : List Int) : Prop := 0 < zs.length → ∀ a, A = some a → v.ownBlock ≠ some a.block
theorem Sl.grownOff {w w' : World} {A : Option Addr} {zs : List Int} {v : Value} (h : Sl w A zs) (ho : Off v A zs) (hg : w.grownBy w' v.ownBlock) : Sl w' A zs := fun hl => by
  obtain ⟨b, o, rfl, hb, hc⟩ := h hl
  refine ⟨b, o, rfl, Nat.lt_of_lt_of_le hb hg.size, fun j hj => ?_⟩
  exact (hg.cell_far ⟨b, o + j, none⟩ hb (fun e => ho hl _ rfl e.symm)).trans (hc j hj)
theorem turn_some (m : Nat) (hm : 1 ≤ m) (hm2 : m ≤ 1048576) (y : Int) (w : World) : Calls Try.prog 33 #[.int .i64 y, .int .i64 (m : Int)] w fun e w' => ∃ j : Nat, j < m ∧ e = .returned (.int .i64 (j : Int)) ∧ w = w' := by
  refine (turn_any y m (by omega) (by omega) w).mono ?_
  rintro e w' ⟨rfl, rfl⟩
  have h1 := Int.emod_nonneg y (show (m : Int) ≠ 0 by omega)
  have h2 := Int.emod_lt_of_pos y (show (0 : Int) < m by omega)
  exact ⟨(y % m).toNat, by omega, by rw [Int.toNat_of_nonneg h1], rfl⟩
set_option maxRecDepth 100000 in
set_option maxHeartbeats 8000000 in
theorem order_of (A : Option Addr) (c : Nat) (zs : List Int) (n : Nat) (w : World) (h : Sl w A zs) (hl : zs.length ≤ 9223372036854775807) (hn : n ≤ 10000) :
    Calls Try.prog 34 #[.slice A zs.length c, .int .i64 (n : Int)] w fun e w' => ∃ p : List Int, p.Perm (upL n) ∧ RetS w p e w' := by
  obtain ⟨i0, hi, hz0, hz1, hz2⟩ := info_parts int_info
  have C1 := Lib.hid (upto_any n w (by omega))
  go_enter Try.func34, Try.ntmps34
  go_wp2_with fail
  refine C1.out.mono ?_
  rintro e w1 ⟨R0, r0, rfl, hr0, hR0, hS0, hB⟩
  have hs1 := hB.size
  have hSa := hS0.step ((Below.refl w1.heap.size w1).alloc (Nat.le_refl _) (.cells #[] 3))
  have hBa := hB.alloc hs1 (.cells #[] 3)
  have hoff : Off (.slice (some ⟨w1.heap.size, 0, none⟩) 0 0) R0 (upL n) := fun hl a e => by
    obtain ⟨b, o, rfl, hb, _⟩ := hS0 hl
    cases e
    simp [Value.ownBlock]
    omega
  go_wp2
  go_loopw [5, 6, 7] (fun r v i wr => ∃ (k : Nat) (R : Option Addr) (cr : Nat) (rest out : List Int), k + rest.length = n ∧ i = .int .i64 k ∧ r = .slice R rest.length cr ∧ rest.length ≤ cr ∧ Sl wr R rest ∧ Hid ((out ++ rest).Perm (upL n)) ∧ out.length ≤ k ∧ OwnI wr w.heap.size v out ∧ Off v R rest ∧ Below w.heap.size w wr) (fun _ _ i _ => n - (intOf i).toNat)
  case atStart => exact ⟨0, R0, r0, upL n, [], by rw [up_len, Nat.zero_add], rfl, by rw [up_len], by rw [up_len]; exact hr0, hSa, Lib.hid (List.Perm.refl _), by simp, OwnI.empty w1 _ hs1, hoff, hBa⟩
  case round =>
    clear hS0 hSa hBa hoff hB hR0
    obtain ⟨k, R, cr, rest, out, hk, rfl, rfl, hcr, hS, HP, hol, hv, hoff, hBr⟩ := hrel
    by_cases h0 : 0 < rest.length
    · have hd : decide (0 < (rest.length : Int)) = true := by simp; omega
      obtain ⟨b, o, rfl, hb, hcell⟩ := hS h0
      have C2 := Lib.hid (bnth_any A c zs k wr (h.step hBr) hl (by omega))
      have C3 := Lib.hid (fun y => turn_some rest.length h0 (by omega) y wr)
      obtain ⟨x0, hx0⟩ : ∃ x, nth zs (k % zs.length) = x := ⟨_, rfl⟩
      rw [hx0] at C2
      clear hx0
      go_wp2_with fail
      refine C2.out.mono ?_
      rintro e w' ⟨rfl, rfl⟩
      go_wp2_with fail
      refine (C3.out _).mono ?_
      rintro e w' ⟨j, hj, rfl, rfl⟩
      have hca := hcell j hj
      have q1 : (0 : Int) ≤ (j : Int) := by omega
      have q2 : (j : Int) < (rest.length : Int) := by omega
      have HPN := Lib.hid (perm_step out rest (upL n) j hj HP.out)
      obtain ⟨x, hx⟩ : ∃ x, nth rest j = x := ⟨_, rfl⟩
      rw [hx] at hca HPN
      clear hx hcell C2 C3
      go_wp2_with (at_builtin; refine wpList_append_own_at _ rfl _ _ 22 rfl w.heap.size 3 i0 (.int .i64 0) 1 8 Try.underlying22 hi hz0 hz1 hz2 rfl (by decide) _ _ _ rfl (hv.alloc _) ⟨wr.heap.size, 0, none⟩ 1 1 [.int .i64 x] rfl rfl (cell_one_new _ _ _) (by simp [Value.oneCell']) (by unfold maxLen; omega) (by omega) (by have := hBr.size; simp; omega) ?_; intro v' w2 hown' hgrow _ hat; have hB2 := below_append hBr hBr.size hv hgrow)
      have hown2 := OwnI.snoc hown'
      have hS2 : Sl w2 (some ⟨b, o, none⟩) rest := Sl.grownOff (Sl.step hS ((Below.refl _ _).alloc (Nat.le_refl _) (.cells #[.int .i64 x] 3))) hoff hgrow
      have hb2 := hgrow.size
      have hoff2 : ∀ A : Addr, wr.heap.size < A.block → A.block < w2.heap.size → True := fun _ _ _ => trivial
      have hvl := hown2.lt
      clear hown' hgrow hS hoff hv hat
      obtain ⟨B1, hs1', hT1⟩ := slice_to' ⟨b, o, none⟩ cr j rest w2 hS2 (by omega) hcr
      obtain ⟨B2, hs2', hT2⟩ := slice_from' ⟨b, o, none⟩ cr (j + 1) rest w2 hS2 (by omega) hcr
      rw [show ((j + 1 : Nat) : Int) = (j : Int) + 1 by omega] at hs2'
      obtain ⟨t1, ht1⟩ : ∃ t, rest.take j = t := ⟨_, rfl⟩
      obtain ⟨t2, ht2⟩ : ∃ t, rest.drop (j + 1) = t := ⟨_, rfl⟩
      have l1 : t1.length = j := by rw [← ht1, List.length_take]; omega
      have l2 : t2.length = rest.length - (j + 1) := by rw [← ht2, List.length_drop]
      rw [ht1] at hT1 HPN
      rw [ht2] at hT2 HPN
      have CP := Lib.hid (fun W (hb : Below w2.heap.size w2 W) => copy_some B1 j cr t1 W l1 (hT1.step hb) (by omega))
      have HL1 := Lib.hid l1
      have HL2 := Lib.hid l2
      have HT2 := Lib.hid hT2
      have HHL := Lib.hid hvl
      have hw1 : IntKind.i64.wrap ((j : Int) + 1) = (j : Int) + 1 := IntWalk.i64_in _ (by omega)
      have hdj : decide ((j : Int) + 1 ≤ (rest.length : Int)) = true := by simp; omega
      have q3 : (0 : Int) ≤ (j : Int) + 1 := by omega
      have q4 : (j : Int) + 1 ≤ (rest.length : Int) := by omega
      clear ht1 ht2 l1 l2 hT1 hT2 hvl
      go_wp2
      go_region_held3 (fun W => Below w2.heap.size w2 W) (first | exact Below.refl _ _ | assumption | exact Below.drew (Below.refl _ _) | exact Below.drew (by assumption) | exact below_step (by assumption) (by assumption))
        (first
          | (go_at_call 40; refine (CP.out _ (by assumption)).mono ?_; rintro e w3 ⟨u1, rfl, hu1, hb1⟩)
          | (refine step_apps _ (by rfl) _ _ (by rfl) i0 hi hz0 hz1 hz2 _ u1 t1 (by rfl) (by first | exact hu1 | assumption) B2 _ _ t2 (by rfl) HL2.out (HT2.out.step (by assumption)) (by rw [HL1.out]; omega) hb1.size ?_; intro v3 w4 hv3 hg3; have hH3 : Below w2.heap.size w2 w3 := (by assumption); have hb4 : Below w2.heap.size w2 w4 := hH3.grown hg3 hH3.size (fun k e => (hu1.lt k e).1))
          | fail)
      rename_i hH
      have hB4 := below_step hB2 hH
      have ho4 := hown2.below hH (Nat.le_refl _)
      obtain ⟨A3, c3, rfl, hcc3, hsl3⟩ := hv3.form
      have hlt3 := hv3.lt
      go_wp2
      go_roundw
      case rel => exact ⟨k + 1, A3, c3, t1 ++ t2, out ++ [x], by rw [List.length_append, HL1.out, HL2.out]; omega, by go_num, rfl, hcc3, hsl3, HPN, by simp; omega, ho4, fun _ a e e2 => by
        have := (hlt3 a.block (by subst e; rfl)).1
        have := (HHL.out a.block e2).2
        simp at *
        omega, hB4⟩
      case measure => simp [intOf]; omega
    · have hr0 : rest = [] := List.eq_nil_of_length_eq_zero (by omega)
      subst hr0
      have hp := HP.out
      rw [List.append_nil] at hp
      obtain ⟨A', c', rfl, hcc, hsl⟩ := hv.form
      go_wp2
      go_ret
      exact ⟨out, hp, retS_of rfl hcc hsl hBr⟩
end Go.Proofs.Ytgicfgpemcagcaa
