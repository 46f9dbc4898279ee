/- PrimRepeated: what Rep and Iota return, place by place. -/
import Derived.Test.YtecpanppnljkhaaDoorMp
namespace Go.Proofs.YtecpanppnljkhaaDoor
set_option linter.unusedVariables false
open Go.RowKit
theorem nth_right {xs ys : List Int} (q j : Nat) (h : xs.length = q) (hj : j < ys.length) : nth (xs ++ ys) (q + j) = nth ys j := by
  unfold nth
  rw [List.getD_eq_getElem?_getD, List.getD_eq_getElem?_getD, List.getElem?_append_right (by omega), show q + j - xs.length = j by omega]
theorem nth_rep (x : Int) (m j : Nat) (h : j < m) : nth (List.replicate m x) j = x := by
  unfold nth; rw [List.getD_eq_getElem?_getD, List.getElem?_replicate, if_pos h]; rfl
theorem rep_read {x t : List Int} (hp : posB t = true) (i n : Nat) (hi : i < n) (hn : n ≤ t.length) (q j : Nat) (hq : (q : Int) = psum t i) (hj : (j : Int) < nth t i) : nth (repK x t n) (q + j) = nth x i := by
  induction n with
  | zero => omega
  | succ n ih =>
    have hl := repK_length (a := x) hp n (by omega)
    simp only [repK]
    by_cases e : i = n
    · subst e
      rw [nth_right q j (by omega) (by rw [List.length_replicate]; omega), nth_rep _ _ _ (by omega)]
    · have h1 := psum_mono t hp (i + 1) n (by omega) (by omega)
      rw [psum_succ t i (by omega)] at h1
      rw [nth_left _ (by omega)]
      exact ih (by omega) (by omega)
theorem iot_read {t : List Int} (hp : posB t = true) (i n : Nat) (hi : i < n) (hn : n ≤ t.length) (q j : Nat) (hq : (q : Int) = psum t i) (hj : (j : Int) < nth t i) : nth (iotK t n) (q + j) = j := by
  induction n with
  | zero => omega
  | succ n ih =>
    have hl := iotK_length hp n (by omega)
    simp only [iotK]
    by_cases e : i = n
    · subst e
      rw [nth_right q j (by omega) (by unfold upL; rw [mk_length]; omega)]
      unfold upL; rw [nth_mk _ _ _ (by omega)]
    · have h1 := psum_mono t hp (i + 1) n (by omega) (by omega)
      rw [psum_succ t i (by omega)] at h1
      rw [nth_left _ (by omega)]
      exact ih (by omega) (by omega)
theorem rep_map (a t : List Int) (m n : Nat) (hn : n ≤ m) : (repK (upL m) t n).map (fun x => nth a x.toNat) = repK a t n := by
  induction n with
  | zero => rfl
  | succ n ih =>
    simp only [repK, List.map_append, List.map_replicate]
    rw [ih (by omega)]
    unfold upL
    rw [nth_mk _ _ _ (by omega)]
    simp
theorem rep_in (t : List Int) (m n : Nat) (hn : n ≤ m) : ∀ x ∈ repK (upL m) t n, 0 ≤ x ∧ x < m := by
  induction n with
  | zero => intro x hx; simp [repK] at hx
  | succ n ih =>
    intro x hx
    simp only [repK] at hx
    rcases List.mem_append.1 hx with h | h
    · exact ih (by omega) x h
    · have := List.eq_of_mem_replicate h
      unfold upL at this
      rw [nth_mk _ _ _ (by omega)] at this
      omega
theorem rep_mem (a t : List Int) (n : Nat) (hn : n ≤ a.length) : ∀ x ∈ repK a t n, x ∈ a := by
  induction n with
  | zero => intro x hx; simp [repK] at hx
  | succ n ih =>
    intro x hx
    simp only [repK] at hx
    rcases List.mem_append.1 hx with h | h
    · exact ih (by omega) x h
    · rw [List.eq_of_mem_replicate h]; exact nth_mem a n (by omega)
def svL (zs : List Int) (n : Nat) : List Int := mk (fun k => nth zs (k % zs.length) % 7) n
theorem mk_map (F : Int → Int) (l : List Int) : mk (fun k => F (nth l k)) l.length = l.map F := by
  apply eq_of_nth (by rw [mk_length, List.length_map])
  intro j hj
  rw [mk_length] at hj
  rw [nth_mk _ _ _ hj, nth_eq (l.map F) j (by simpa using hj), List.getElem_map, nth_eq l j hj]
/-- a list of words, and as many counts below 7 -/
structure Repd (a c : List Int) : Prop where
  len : c.length = a.length
  few : a.length ≤ 100
  wa : ∀ x ∈ a, isW x
  wc : ∀ x ∈ c, 0 ≤ x ∧ x < 7
theorem psum_bnd {c : List Int} (h : ∀ x ∈ c, 0 ≤ x ∧ x < 7) (k : Nat) (hk : k ≤ c.length) : 0 ≤ psum c k ∧ psum c k ≤ 6 * k := by
  induction k with
  | zero => rw [psum_zero]; omega
  | succ k ih =>
    have := ih (by omega)
    have h2 := h _ (nth_mem c k (by omega))
    rw [psum_succ c k (by omega)]; omega
theorem Repd.pos {a c : List Int} (h : Repd a c) : posB c = true := by
  unfold posB; rw [List.all_eq_true]; intro x hx; simpa using (h.wc x hx).1
theorem Repd.tot {a c : List Int} (h : Repd a c) : totE c = 0 := by
  have h1 := psum_bnd h.wc c.length (Nat.le_refl _)
  rw [psum_all] at h1
  have := h.len; have := h.few
  unfold totE; rw [if_pos h.pos, if_neg (by omega)]
theorem Repd.ev {a c : List Int} (h : Repd a c) (b : List Int) (hb : b.length = a.length) (hw : ∀ x ∈ b, isW x) : evE [b, c] = 0 := by
  have h1 := h.len; have h2 := h.few
  have h3 : lsE [b, c] = 0 := ls_of _ (by simp; omega) (by
    intro l hl; simp at hl
    rcases hl with rfl | rfl
    · exact hw
    · intro x hx; have := h.wc x hx; unfold isW; omega)
  unfold evE
  rw [if_pos h3, if_pos (by simp [evenB, hb, h1])]
theorem up_all (n : Nat) (hn : n ≤ 1048576) : ∀ x ∈ upL n, isW x := by
  intro x hx; unfold upL mk at hx; obtain ⟨k, hk, rfl⟩ := List.mem_map.1 hx; have := List.mem_range.1 hk; unfold isW; omega
theorem up_len (n : Nat) : (upL n).length = n := by unfold upL; rw [mk_length]
theorem Repd.rep {a c : List Int} (h : Repd a c) : repE a c = 0 := by
  unfold repE; rw [if_pos (h.ev a rfl h.wa)]; exact h.tot
theorem Repd.rep2 {a c : List Int} (h : Repd a c) : repE (upL a.length) c = 0 := by
  have := h.few
  unfold repE; rw [if_pos (h.ev _ (up_len _) (up_all _ (by omega)))]; exact h.tot
theorem Repd.iot {a c : List Int} (h : Repd a c) : iotE c = 0 := by
  have h1 := h.len; have h2 := h.few
  have h3 : lsE [c] = 0 := ls_of _ (by simp; omega) (by
    intro l hl; simp at hl; subst hl
    intro x hx; have := h.wc x hx; unfold isW; omega)
  unfold iotE; rw [if_pos h3]; exact h.tot
theorem Repd.lens {a c : List Int} (h : Repd a c) : ((repL a c).length : Int) = c.sum ∧ (repL (upL a.length) c).length = (repL a c).length ∧ (iotL c).length = (repL a c).length ∧ (repL a c).length ≤ 600 := by
  have h1 := repK_length (a := a) h.pos c.length (Nat.le_refl _)
  have h2 := repK_length (a := upL a.length) h.pos c.length (Nat.le_refl _)
  have h3 := iotK_length h.pos c.length (Nat.le_refl _)
  have h4 := psum_bnd h.wc c.length (Nat.le_refl _)
  have hl := h.len; have hf := h.few
  rw [psum_all] at h1 h2 h3 h4
  rw [hl] at h1 h2 h4
  unfold repL iotL
  rw [up_len]
  refine ⟨h1, by omega, by omega, by omega⟩
theorem Repd.gat {a c : List Int} (h : Repd a c) : gatE a (repL (upL a.length) c) = 0 ∧ gatL a (repL (upL a.length) c) = repL a c := by
  have hl := h.len; have hf := h.few
  obtain ⟨l1, l2, l3, l4⟩ := h.lens
  have hin : ∀ x ∈ repL (upL a.length) c, 0 ≤ x ∧ x < a.length := by
    unfold repL; rw [up_len]; exact rep_in c a.length a.length (Nat.le_refl _)
  have h1 : lsE [a, repL (upL a.length) c] = 0 := ls_of _ (by simp; omega) (by
    intro l hl'; simp at hl'
    rcases hl' with rfl | rfl
    · exact h.wa
    · intro x hx; have := hin x hx; unfold isW; omega)
  constructor
  · unfold gatE
    rw [if_pos h1]
    apply fe_none
    intro k hk
    have := hin _ (nth_mem _ k hk)
    rw [if_pos (by unfold plB; simpa using this)]
  · unfold gatL
    rw [mk_map (fun x => nth a x.toNat)]
    unfold repL
    rw [up_len]
    exact rep_map a c a.length a.length (Nat.le_refl _)
theorem Repd.read {a c : List Int} (h : Repd a c) (i q j : Nat) (hi : i < a.length) (hq : (q : Int) = psum c i) (hj : (j : Int) < nth c i) :
    nth (repL a c) (q + j) = nth a i ∧ nth (repL (upL a.length) c) (q + j) = i ∧ nth (iotL c) (q + j) = j ∧ q + j < (repL a c).length := by
  have hl := h.len
  have h1 : nth (upL a.length) i = i := by unfold upL; rw [nth_mk _ _ _ hi]
  have h2 := rep_read (x := upL a.length) h.pos i c.length (by omega) (Nat.le_refl _) q j hq hj
  have h3 := rep_read (x := a) h.pos i c.length (by omega) (Nat.le_refl _) q j hq hj
  have h4 := iot_read h.pos i c.length (by omega) (Nat.le_refl _) q j hq hj
  have h5 := psum_mono c h.pos (i + 1) c.length (by omega) (Nat.le_refl _)
  rw [psum_succ c i (by omega), psum_all] at h5
  have h6 := h.lens.1
  rw [hl] at h2 h3
  rw [h1] at h2
  refine ⟨h3, ?_, h4, by omega⟩
  unfold repL; rw [up_len]; exact h2
theorem repd_of (z0 z1 : List Int) : Repd (wlL z0 100) (svL z1 (wlL z0 100).length) :=
  ⟨by unfold svL; rw [mk_length], wl_len _ _, wl_all _ _, by intro x hx; unfold svL mk at hx; obtain ⟨k, _, rfl⟩ := List.mem_map.1 hx; omega⟩
end Go.Proofs.YtecpanppnljkhaaDoor
