/- PrimAlike: what Bin, Pick, Cat, Gather and Pack have to do with each other. -/
import Derived.Test.YtchjdhlmpdcibaaDoorMs
import Derived.Test.YtchjdhlmpdcibaaDoorCg
namespace Go.Proofs.YtchjdhlmpdcibaaDoor
set_option linter.unusedVariables false
open Go.RowKit
/-- an operation that never traps -/
def Safe (op : Int) : Prop := isOpb op = true ∧ op ≠ 3 ∧ op ≠ 4
theorem Safe.trap {op : Int} (h : Safe op) (b : Int) : trapsb op b = false := by
  rw [← Bool.not_eq_true, trapsb_iff]; have := h.2; omega
theorem doN_word {op : Int} (h : Safe op) (a b : Int) (ha : isW a) (hb : isW b) : isW (doN op a b) := by
  unfold doN; split
  · exact V_word op a b ha hb (h.trap b)
  · unfold isW; omega
theorem doE_0 {op : Int} (h : Safe op) (a b : Int) (ha : isW a) (hb : isW b) : doE op a b = 0 := by
  unfold doE; rw [if_pos h.1, if_pos ⟨isWb_of a ha, isWb_of b hb⟩, h.trap b]; rfl
theorem ls2 {x y : List Int} (h1 : x.length ≤ 1048576) (h2 : y.length ≤ 1048576) (hx : ∀ v ∈ x, isW v) (hy : ∀ v ∈ y, isW v) : lsE [x, y] = 0 := ls_of _ (by simp; omega) (by
  intro l hl; simp at hl
  rcases hl with rfl | rfl
  · exact hx
  · exact hy)
theorem ev2 {x y : List Int} (h1 : x.length ≤ 1048576) (h2 : y.length = x.length) (hx : ∀ v ∈ x, isW v) (hy : ∀ v ∈ y, isW v) : evE [x, y] = 0 := by
  unfold evE; rw [if_pos (ls2 h1 (by omega) hx hy), if_pos (by simp [evenB, h2])]
theorem ev3 {f x y : List Int} (h1 : f.length ≤ 1048576) (h2 : x.length = f.length) (h3 : y.length = f.length) (hf : ∀ v ∈ f, isW v) (hx : ∀ v ∈ x, isW v) (hy : ∀ v ∈ y, isW v) : evE [f, x, y] = 0 := by
  have : lsE [f, x, y] = 0 := ls_of _ (by simp; omega) (by
    intro l hl; simp at hl
    rcases hl with rfl | rfl | rfl
    · exact hf
    · exact hx
    · exact hy)
  unfold evE; rw [if_pos this, if_pos (by simp [evenB, h2, h3])]
theorem binE_0 {op : Int} (h : Safe op) {x y : List Int} (h1 : x.length ≤ 1048576) (h2 : y.length = x.length) (hx : ∀ v ∈ x, isW v) (hy : ∀ v ∈ y, isW v) : binE op x y = 0 := by
  unfold binE
  rw [if_pos h.1, if_pos (ev2 h1 h2 hx hy)]
  apply fe_none
  intro k hk
  exact doE_0 h _ _ (hx _ (nth_mem x k hk)) (hy _ (nth_mem y k (by omega)))
theorem binL_len (op : Int) (x y : List Int) : (binL op x y).length = x.length := by unfold binL; rw [mk_length]
theorem binL_nth (op : Int) (x y : List Int) (k : Nat) (hk : k < x.length) : nth (binL op x y) k = doN op (nth x k) (nth y k) := by unfold binL; rw [nth_mk _ _ _ hk]
theorem bin_word {op : Int} (h : Safe op) {x y : List Int} (h2 : y.length = x.length) (hx : ∀ v ∈ x, isW v) (hy : ∀ v ∈ y, isW v) : ∀ v ∈ binL op x y, isW v := all_nth fun j hj => by
  rw [binL_len] at hj
  rw [binL_nth _ _ _ _ hj]
  exact doN_word h _ _ (hx _ (nth_mem x j hj)) (hy _ (nth_mem y j (by omega)))
theorem nth_app (xs ys : List Int) (k : Nat) : nth (xs ++ ys) k = if k < xs.length then nth xs k else nth ys (k - xs.length) := by
  by_cases h : k < xs.length
  · rw [if_pos h, nth_left k h]
  · rw [if_neg h]; unfold nth
    rw [List.getD_eq_getElem?_getD, List.getD_eq_getElem?_getD, List.getElem?_append_right (by omega)]
theorem bin_cat (op : Int) (x y : List Int) (h : y.length = x.length) : binL op (x ++ y) (y ++ x) = binL op x y ++ binL op y x := by
  apply eq_of_nth (by rw [binL_len, List.length_append, List.length_append, binL_len, binL_len])
  intro j hj
  rw [binL_len] at hj
  rw [binL_nth _ _ _ _ hj, nth_app, nth_app, nth_app, binL_len, h]
  rw [List.length_append] at hj
  by_cases e : j < x.length
  · rw [if_pos e, if_pos e, if_pos e, binL_nth _ _ _ _ e]
  · rw [if_neg e, if_neg e, if_neg e, binL_nth _ _ _ _ (by omega)]
theorem bin_gat (op : Int) {x y p : List Int} (h : y.length = x.length) (hp : ∀ v ∈ p, 0 ≤ v ∧ v < (x.length : Int)) : binL op (gatL x p) (gatL y p) = gatL (binL op x y) p := by
  apply eq_of_nth (by rw [binL_len, gatL_len, gatL_len])
  intro j hj
  rw [binL_len, gatL_len] at hj
  have := hp _ (nth_mem p j hj)
  rw [binL_nth _ _ _ _ (by rw [gatL_len]; exact hj), gatL_nth x p _ hj, gatL_nth y p _ hj, gatL_nth (binL op x y) p _ hj, binL_nth _ _ _ _ (by omega)]
theorem picL_len (f x y : List Int) : (picL f x y).length = f.length := by unfold picL; rw [mk_length]
theorem picL_nth (f x y : List Int) (k : Nat) (hk : k < f.length) : nth (picL f x y) k = if nth f k ≠ 0 then nth x k else nth y k := by unfold picL; rw [nth_mk _ _ _ hk]
theorem pic_word {f x y : List Int} (h1 : x.length = f.length) (h2 : y.length = f.length) (hx : ∀ v ∈ x, isW v) (hy : ∀ v ∈ y, isW v) : ∀ v ∈ picL f x y, isW v := all_nth fun j hj => by
  rw [picL_len] at hj
  rw [picL_nth _ _ _ _ hj]
  split
  · exact hx _ (nth_mem x j (by omega))
  · exact hy _ (nth_mem y j (by omega))
theorem pac_pick (f x y : List Int) : pacL f (picL f x y) = pacL f x := by
  have key : ∀ n, n ≤ f.length → pacK f (picL f x y) n = pacK f x n := by
    intro n
    induction n with
    | zero => intro _; rfl
    | succ n ih =>
      intro hn
      simp only [pacK]
      rw [ih (by omega)]
      by_cases e : nth f n ≠ 0
      · rw [if_pos e, if_pos e, picL_nth _ _ _ _ (by omega), if_pos e]
      · rw [if_neg e, if_neg e]
  exact key f.length (Nat.le_refl _)
theorem app_word {x y : List Int} (hx : ∀ v ∈ x, isW v) (hy : ∀ v ∈ y, isW v) : ∀ v ∈ x ++ y, isW v := by
  intro v hv
  rcases List.mem_append.1 hv with h | h
  · exact hx v h
  · exact hy v h
theorem catE_0 {x y : List Int} (h : x.length + y.length ≤ 1048576) (hx : ∀ v ∈ x, isW v) (hy : ∀ v ∈ y, isW v) : catE x y = 0 := by
  unfold catE; rw [if_pos (ls2 (by omega) (by omega) hx hy), if_neg (by omega)]
theorem lit_safe (j : Nat) (hj : j < 10) : Safe (nth [0, 1, 2, 5, 6, 7, 8, 9, 10, 11] j) := by
  match j, hj with
  | 0, _ => exact ⟨rfl, by decide, by decide⟩
  | 1, _ => exact ⟨rfl, by decide, by decide⟩
  | 2, _ => exact ⟨rfl, by decide, by decide⟩
  | 3, _ => exact ⟨rfl, by decide, by decide⟩
  | 4, _ => exact ⟨rfl, by decide, by decide⟩
  | 5, _ => exact ⟨rfl, by decide, by decide⟩
  | 6, _ => exact ⟨rfl, by decide, by decide⟩
  | 7, _ => exact ⟨rfl, by decide, by decide⟩
  | 8, _ => exact ⟨rfl, by decide, by decide⟩
  | 9, _ => exact ⟨rfl, by decide, by decide⟩
end Go.Proofs.YtchjdhlmpdcibaaDoor
