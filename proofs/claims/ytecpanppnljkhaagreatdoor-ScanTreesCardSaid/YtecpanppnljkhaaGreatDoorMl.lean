/- Plain mathematics of layer 4: what each operation on lists returns, as functions of the arguments. No program. -/
import Derived.Test.YtecpanppnljkhaaGreatDoorMw
namespace Go.Proofs.YtecpanppnljkhaaGreatDoor
open Go.RowKit

/-- The element at a place; 0 beyond the end. Not reducible: the walk leaves it as it stands. -/
def nth (zs : List Int) (k : Nat) : Int := zs.getD k 0
theorem nth_eq (zs : List Int) (k : Nat) (h : k < zs.length) : nth zs k = zs[k] := by
  unfold nth; rw [List.getD_eq_getElem?_getD, List.getElem?_eq_getElem h]; rfl
theorem take_snoc (zs : List Int) (k : Nat) (h : k < zs.length) : zs.take (k + 1) = zs.take k ++ [nth zs k] := by
  rw [List.take_succ_eq_append_getElem h, nth_eq zs k h]
theorem nth_mem (zs : List Int) (k : Nat) (h : k < zs.length) : nth zs k ∈ zs := by rw [nth_eq zs k h]; exact List.getElem_mem h
theorem eq_of_nth {xs ys : List Int} (hl : xs.length = ys.length) (h : ∀ j, j < xs.length → nth xs j = nth ys j) : xs = ys := by
  apply List.ext_getElem hl
  intro i h1 h2
  have := h i h1
  rwa [nth_eq xs i h1, nth_eq ys i h2] at this
theorem nth_app_lt (a b : List Int) (k : Nat) (h : k < a.length) : nth (a ++ b) k = nth a k := by
  unfold nth; rw [List.getD_eq_getElem?_getD, List.getElem?_append_left h, ← List.getD_eq_getElem?_getD]
theorem nth_app_ge (a b : List Int) (k : Nat) (h : a.length ≤ k) : nth (a ++ b) k = nth b (k - a.length) := by
  unfold nth; rw [List.getD_eq_getElem?_getD, List.getElem?_append_right h, ← List.getD_eq_getElem?_getD]
theorem nth_drop (l : List Int) (i k : Nat) : nth (l.drop i) k = nth l (i + k) := by
  unfold nth; rw [List.getD_eq_getElem?_getD, List.getElem?_drop, ← List.getD_eq_getElem?_getD]
theorem nth_take (l : List Int) (i k : Nat) (h : k < i) : nth (l.take i) k = nth l k := by
  unfold nth; rw [List.getD_eq_getElem?_getD, List.getElem?_take, if_pos h, ← List.getD_eq_getElem?_getD]

/-- The first error of the first n places. -/
def fe (e : Nat → Int) : Nat → Int
  | 0 => 0
  | n + 1 => if fe e n ≠ 0 then fe e n else e n
theorem fe_zero (e : Nat → Int) : fe e 0 = 0 := rfl
theorem fe_go {e : Nat → Int} {k : Nat} (h : fe e k = 0) (he : e k = 0) : fe e (k + 1) = 0 := by simp [fe, h, he]
theorem fe_keep {e : Nat → Int} {k n : Nat} (h : fe e k ≠ 0) (hn : k ≤ n) : fe e n = fe e k := by
  induction n with
  | zero => obtain rfl : k = 0 := by omega
            rfl
  | succ n ih =>
    by_cases e' : k = n + 1
    · subst e'; rfl
    · have := ih (by omega)
      simp [fe, this, h]
theorem fe_stop {e : Nat → Int} {k n : Nat} (h : fe e k = 0) (he : e k ≠ 0) (hn : k < n) : fe e n = e k := by
  have h1 : fe e (k + 1) = e k := by simp [fe, h]
  rw [fe_keep (k := k + 1) (by rw [h1]; exact he) hn, h1]
theorem fe_all {e : Nat → Int} {n : Nat} (h : fe e n = 0) : ∀ k, k < n → e k = 0 := by
  induction n with
  | zero => intro k hk; omega
  | succ n ih =>
    intro k hk
    by_cases hz : fe e n = 0
    · by_cases e' : k = n
      · subst e'; simpa [fe, hz] using h
      · exact ih hz k (by omega)
    · simp [fe, hz] at h
theorem fe_none {e : Nat → Int} {n : Nat} (h : ∀ k, k < n → e k = 0) : fe e n = 0 := by
  induction n with
  | zero => rfl
  | succ n ih => exact fe_go (ih fun k hk => h k (by omega)) (h n (by omega))
theorem fe_congr {e f : Nat → Int} {n : Nat} (h : ∀ k, k < n → e k = f k) : fe e n = fe f n := by
  induction n with
  | zero => rfl
  | succ n ih => simp only [fe]; rw [ih fun k hk => h k (by omega), h n (by omega)]

/-- A list that is told place by place. -/
def mk (f : Nat → Int) (n : Nat) : List Int := (List.range n).map f
theorem mk_zero (f : Nat → Int) : mk f 0 = [] := rfl
theorem mk_succ (f : Nat → Int) (n : Nat) : mk f (n + 1) = mk f n ++ [f n] := by simp [mk, List.range_succ]
theorem mk_length (f : Nat → Int) (n : Nat) : (mk f n).length = n := by simp [mk]
theorem nth_mk (f : Nat → Int) (n k : Nat) (h : k < n) : nth (mk f n) k = f k := by
  rw [nth_eq _ _ (by rw [mk_length]; exact h)]; simp [mk]
theorem mk_congr {f g : Nat → Int} {n : Nat} (h : ∀ k, k < n → f k = g k) : mk f n = mk g n := by
  apply eq_of_nth (by rw [mk_length, mk_length])
  intro j hj
  rw [mk_length] at hj
  rw [nth_mk _ _ _ hj, nth_mk _ _ _ hj, h j hj]
theorem mk_nth (l : List Int) : mk (nth l) l.length = l := by
  apply eq_of_nth (by rw [mk_length])
  intro j hj
  rw [mk_length] at hj
  rw [nth_mk _ _ _ hj]
/-- A result: the list, unless there is an error. -/
def orL (e : Int) (l : List Int) : List Int := if e = 0 then l else []
theorem orL_ok (l : List Int) : orL 0 l = l := rfl
theorem orL_err {e : Int} (l : List Int) (h : e ≠ 0) : orL e l = [] := by simp [orL, h]

/-! ### the errors of some lists -/
def shortB (l : List Int) : Bool := decide (l.length ≤ 1048576)
def wordsB (l : List Int) : Bool := l.all isWb
def lsE (L : List (List Int)) : Int := if L.all shortB = true then (if L.all wordsB = true then 0 else 2) else 3
def evenB (L : List (List Int)) (m : Nat) : Bool := L.all fun l => decide (l.length = m)
def evE (L : List (List Int)) : Int := if lsE L = 0 then (if evenB L (L.headD []).length = true then 0 else 6) else lsE L
theorem lsE_ok {L : List (List Int)} (h : lsE L = 0) : (∀ l ∈ L, l.length ≤ 1048576) ∧ ∀ l ∈ L, ∀ j, j < l.length → isW (nth l j) := by
  unfold lsE at h
  split at h
  · rename_i h1
    split at h
    · rename_i h2
      rw [List.all_eq_true] at h1 h2
      refine ⟨fun l hl => by simpa [shortB] using h1 l hl, fun l hl j hj => ?_⟩
      have := h2 l hl
      unfold wordsB at this
      rw [List.all_eq_true] at this
      exact (isWb_iff _).1 (this _ (nth_mem l j hj))
    · simp at h
  · simp at h
theorem lsE_cases (L : List (List Int)) : lsE L = 0 ∨ lsE L = 2 ∨ lsE L = 3 := by
  unfold lsE
  split
  · split <;> simp
  · simp
theorem evE_ok {L : List (List Int)} (h : evE L = 0) : lsE L = 0 ∧ ∀ l ∈ L, l.length = (L.headD []).length := by
  unfold evE at h
  split at h
  · rename_i h1
    split at h
    · rename_i h2
      unfold evenB at h2
      rw [List.all_eq_true] at h2
      exact ⟨h1, fun l hl => by simpa using h2 l hl⟩
    · simp at h
  · rename_i h1; exact absurd h h1
theorem evE_ne {L : List (List Int)} (h : lsE L ≠ 0) : evE L = lsE L := by simp [evE, h]

/-! ### P4.2 -/
/-- The list at a place; none beyond the end. -/
def nthL (L : List (List Int)) (k : Nat) : List Int := L.getD k []
theorem nthL_eq (L : List (List Int)) (k : Nat) (h : k < L.length) : nthL L k = L[k] := by
  unfold nthL; rw [List.getD_eq_getElem?_getD, List.getElem?_eq_getElem h]; rfl
theorem nthL_mem (L : List (List Int)) (k : Nat) (h : k < L.length) : nthL L k ∈ L := by rw [nthL_eq L k h]; exact List.getElem_mem h
theorem all_of {α : Type} (L : List α) (p : α → Bool) (f : Nat → α) (hf : ∀ k (h : k < L.length), f k = L[k]) (h : ∀ k, k < L.length → p (f k) = true) : L.all p = true := by
  rw [List.all_eq_true]
  intro x hx
  obtain ⟨j, hj, rfl⟩ := List.getElem_of_mem hx
  rw [← hf j hj]; exact h j hj
theorem all_not {α : Type} (L : List α) (p : α → Bool) (f : Nat → α) (hf : ∀ k (h : k < L.length), f k = L[k]) (k : Nat) (hk : k < L.length) (h : p (f k) = false) : L.all p = false := by
  rw [List.all_eq_false]
  exact ⟨L[k], List.getElem_mem hk, by rw [← hf k hk, h]; simp⟩
def filE (n : Int) (l : List Int) : Int := lsE [l, [n]]
def filL (n : Int) (l : List Int) : List Int := mk (fun _ => n) l.length
def binE (op : Int) (a b : List Int) : Int := if isOpb op = true then (if evE [a, b] = 0 then fe (fun k => doE op (nth a k) (nth b k)) a.length else evE [a, b]) else 1
def binL (op : Int) (a b : List Int) : List Int := mk (fun k => doN op (nth a k) (nth b k)) a.length
def picE (f a b : List Int) : Int := evE [f, a, b]
def picL (f a b : List Int) : List Int := mk (fun k => if nth f k ≠ 0 then nth a k else nth b k) f.length
def offE (a b : List Int) : Int := lsE [a, b]
def offL (a b : List Int) : List Int := mk (fun k => wrap32 (nth a k + b.length)) a.length
/-! ### P4.3 -/
def pacK (f a : List Int) : Nat → List Int
  | 0 => []
  | n + 1 => if nth f n ≠ 0 then pacK f a n ++ [nth a n] else pacK f a n
def pacE (f a : List Int) : Int := evE [f, a]
def pacL (f a : List Int) : List Int := pacK f a f.length
theorem pacK_length (f a : List Int) (n : Nat) : (pacK f a n).length ≤ n := by
  induction n with
  | zero => simp [pacK]
  | succ n ih =>
    simp only [pacK]
    split
    · rw [List.length_append, List.length_singleton]; omega
    · omega
/-- How many of the first flags are set. -/
def cnt (f : List Int) : Nat → Nat
  | 0 => 0
  | n + 1 => if nth f n ≠ 0 then cnt f n + 1 else cnt f n
theorem cnt_le (f : List Int) (n : Nat) : cnt f n ≤ n := by
  induction n with
  | zero => simp [cnt]
  | succ n ih => simp only [cnt]; split <;> omega
theorem cnt_mono (f : List Int) {m n : Nat} (h : m ≤ n) : cnt f m ≤ cnt f n ∧ cnt f n - cnt f m ≤ n - m := by
  induction n with
  | zero => obtain rfl : m = 0 := by omega
            simp
  | succ n ih =>
    by_cases e : m = n + 1
    · subst e; simp
    · have := ih (by omega)
      simp only [cnt]; split <;> omega
def merE (f a b : List Int) : Int := if lsE [f, a, b] = 0 then (if a.length = cnt f f.length ∧ b.length = f.length - cnt f f.length then 0 else 6) else lsE [f, a, b]
def merK (f a b : List Int) : Nat → List Int
  | 0 => []
  | n + 1 => if nth f n ≠ 0 then merK f a b n ++ [nth a (cnt f n)] else merK f a b n ++ [nth b (n - cnt f n)]
def merL (f a b : List Int) : List Int := merK f a b f.length
theorem merK_length (f a b : List Int) (n : Nat) : (merK f a b n).length = n := by
  induction n with
  | zero => rfl
  | succ n ih => simp only [merK]; split <;> simp [ih]
/-- The word of the list k at the place i. -/
def wv (L : List (List Int)) (k i : Nat) : Int := nth (L.getD k []) i
def weR (L : List (List Int)) (i : Nat) (k : Nat) : List Int := mk (fun k => wv L k i) k
def weK (L : List (List Int)) : Nat → List Int
  | 0 => []
  | n + 1 => weK L n ++ weR L n L.length
def weE (L : List (List Int)) : Int := if evE L = 0 then (if L.length = 0 then 0 else if 1048576 < L.length * (L.headD []).length then 9 else 0) else evE L
def weL (L : List (List Int)) : List Int := weK L (L.headD []).length
theorem weK_length (L : List (List Int)) (n : Nat) : (weK L n).length = n * L.length := by
  induction n with
  | zero => simp [weK]
  | succ n ih => simp only [weK]; rw [List.length_append, ih, weR, mk_length, Nat.succ_mul]
/-! ### P4.4 -/
def plB (n : Int) (m : Nat) : Bool := decide (0 ≤ n ∧ n < m)
def gatE (a p : List Int) : Int := if lsE [a, p] = 0 then fe (fun k => if plB (nth p k) a.length = true then 0 else 14) p.length else lsE [a, p]
def gatL (a p : List Int) : List Int := mk (fun k => nth a (nth p k).toNat) p.length
/-- The first n places are places below m, no two the same. -/
def ordB (p : List Int) (m : Nat) : Nat → Bool
  | 0 => true
  | n + 1 => ordB p m n && (plB (nth p n) m && !((p.take n).contains (nth p n)))
def putE (a p : List Int) : Int := if evE [a, p] = 0 then (if ordB p a.length p.length = true then 0 else 14) else evE [a, p]
def putK (a p : List Int) : Nat → List Int
  | 0 => List.replicate a.length 0
  | n + 1 => (putK a p n).set (nth p n).toNat (nth a n)
def putL (a p : List Int) : List Int := putK a p p.length
theorem putK_length (a p : List Int) (n : Nat) : (putK a p n).length = a.length := by
  induction n with
  | zero => simp [putK]
  | succ n ih => simp only [putK]; rw [List.length_set, ih]
theorem ordB_stop {p : List Int} {m k n : Nat} (h : ordB p m k = false) (hn : k ≤ n) : ordB p m n = false := by
  induction n with
  | zero => obtain rfl : k = 0 := by omega
            exact h
  | succ n ih =>
    by_cases e : k = n + 1
    · subst e; exact h
    · simp [ordB, ih (by omega)]
/-- The sum of the first k. -/
def psum (zs : List Int) (k : Nat) : Int := (zs.take k).sum
theorem psum_zero (zs : List Int) : psum zs 0 = 0 := by simp [psum]
theorem psum_succ (zs : List Int) (k : Nat) (h : k < zs.length) : psum zs (k + 1) = psum zs k + nth zs k := by
  unfold psum; rw [take_snoc zs k h, List.sum_append]; simp
theorem psum_all (zs : List Int) : psum zs zs.length = zs.sum := by simp [psum]
def posB (l : List Int) : Bool := l.all fun n => decide (0 ≤ n)
theorem posB_of {l : List Int} (h : posB l = true) (j : Nat) (hj : j < l.length) : 0 ≤ nth l j := by
  unfold posB at h; rw [List.all_eq_true] at h
  simpa using h _ (nth_mem l j hj)
theorem psum_mono (zs : List Int) (h : posB zs = true) (a b : Nat) (hab : a ≤ b) (hb : b ≤ zs.length) : psum zs a ≤ psum zs b := by
  induction b with
  | zero => obtain rfl : a = 0 := by omega
            exact Int.le_refl _
  | succ b ih =>
    by_cases e : a = b + 1
    · subst e; exact Int.le_refl _
    · have := ih (by omega) (by omega)
      rw [psum_succ zs b (by omega)]
      have := posB_of h b (by omega)
      omega
/-- The error of numbers that say how many. -/
def totE (l : List Int) : Int := if posB l = true then (if 1048576 < l.sum then 9 else 0) else 14
def totN (l : List Int) : Int := if totE l = 0 then l.sum else 0
theorem tot_ok {l : List Int} (h : totE l = 0) : posB l = true ∧ 0 ≤ l.sum ∧ l.sum ≤ 1048576 ∧ ∀ k, k ≤ l.length → 0 ≤ psum l k ∧ psum l k ≤ l.sum := by
  unfold totE at h
  split at h
  · rename_i h1
    split at h
    · simp at h
    · rename_i h2
      have hm : ∀ k, k ≤ l.length → 0 ≤ psum l k ∧ psum l k ≤ l.sum := fun k hk => by
        have ha := psum_mono l h1 0 k (by omega) hk
        have hb := psum_mono l h1 k l.length hk (Nat.le_refl _)
        rw [psum_zero] at ha
        rw [psum_all] at hb
        exact ⟨ha, hb⟩
      have := hm l.length (Nat.le_refl _)
      rw [psum_all] at this
      exact ⟨h1, this.1, by omega, hm⟩
  · simp at h
def repK (a t : List Int) : Nat → List Int
  | 0 => []
  | n + 1 => repK a t n ++ List.replicate (nth t n).toNat (nth a n)
def repE (a t : List Int) : Int := if evE [a, t] = 0 then totE t else evE [a, t]
def repL (a t : List Int) : List Int := repK a t a.length
theorem repK_length {a t : List Int} (h : posB t = true) (n : Nat) (hn : n ≤ t.length) : ((repK a t n).length : Int) = psum t n := by
  induction n with
  | zero => simp [repK, psum_zero]
  | succ n ih =>
    simp only [repK]
    have h1 := ih (by omega)
    have h2 := posB_of h n (by omega)
    rw [List.length_append, List.length_replicate, psum_succ t n (by omega)]
    omega
/-! ### P4.5 -/
def upL (n : Nat) : List Int := mk (fun k => (k : Int)) n
def iotK (l : List Int) : Nat → List Int
  | 0 => []
  | n + 1 => iotK l n ++ upL (nth l n).toNat
def iotE (l : List Int) : Int := if lsE [l] = 0 then totE l else lsE [l]
def iotL (l : List Int) : List Int := iotK l l.length
theorem iotK_length {l : List Int} (h : posB l = true) (n : Nat) (hn : n ≤ l.length) : ((iotK l n).length : Int) = psum l n := by
  induction n with
  | zero => simp [iotK, psum_zero]
  | succ n ih =>
    simp only [iotK]
    have h1 := ih (by omega)
    have h2 := posB_of h n (by omega)
    rw [List.length_append, upL, mk_length, psum_succ l n (by omega)]
    omega
def catE (a b : List Int) : Int := if lsE [a, b] = 0 then (if 1048576 < a.length + b.length then 9 else 0) else lsE [a, b]
def lenE (a : List Int) : Int := lsE [a]
def trpE (f : List Int) : Int := if lsE [f] = 0 then (if cnt f f.length = 0 then 0 else 14) else lsE [f]
end Go.Proofs.YtecpanppnljkhaaGreatDoor
