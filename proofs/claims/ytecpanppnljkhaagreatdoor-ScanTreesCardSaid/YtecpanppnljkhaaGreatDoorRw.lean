/- Many rows of the call's own at once: none shares a block with another. -/
import Derived.Test.YtecpanppnljkhaaGreatDoorBa
import Derived.Maps.AppendAt
namespace Go.Proofs.YtecpanppnljkhaaGreatDoor
set_option linter.unusedVariables false
open Go.RowKit
def upd {α : Type} (f : Nat → α) (i : Nat) (x : α) : Nat → α := fun j => if j = i then x else f j
theorem upd_same {α : Type} (f : Nat → α) (i : Nat) (x : α) : upd f i x i = x := by simp [upd]
theorem upd_ne {α : Type} (f : Nat → α) {i j : Nat} (x : α) (h : j ≠ i) : upd f i x j = f j := by simp [upd, h]
/-- n rows of the call's own, row i of the element type e i. -/
structure Rws (w : World) (base n : Nat) (e : Nat → TypeId) (v : Nat → Value) (xs : Nat → List Value) : Prop where
  own : ∀ i, i < n → w.ownsRow base (e i) 1 (v i) (xs i).length (xs i)
  pt : ∀ i j, i < n → j < n → i ≠ j → ∀ k, (v i).ownBlock = some k → (v j).ownBlock ≠ some k
section
variable {w w' : World} {base n : Nat} {e : Nat → TypeId} {v : Nat → Value} {xs : Nat → List Value}
theorem Rws.none (w : World) (base : Nat) (e : Nat → TypeId) (v : Nat → Value) (xs : Nat → List Value) : Rws w base 0 e v xs := ⟨fun i hi => by omega, fun i j hi => by omega⟩
theorem Rws.alloc (h : Rws w base n e v xs) (o : Obj) : Rws (w.alloc o) base n e v xs := ⟨fun i hi => World.ownsRow.alloc (h.own i hi) o, h.pt⟩
theorem Rws.drew (h : Rws w base n e v xs) : Rws w.drew base n e v xs := ⟨fun i hi => h.own i hi, h.pt⟩
theorem Rws.drewN (h : Rws w base n e v xs) (m : Nat) : Rws (w.drewN m) base n e v xs := ⟨fun i hi => h.own i hi, h.pt⟩
theorem Rws.lt (h : Rws w base n e v xs) {i : Nat} (hi : i < n) : ∀ k, (v i).ownBlock = some k → base ≤ k ∧ k < w.heap.size := World.ownsRow.lt (h.own i hi)
theorem Rws.below {B : Nat} (h : Rws w base n e v xs) (hb : Below B w w') (hB : w.heap.size ≤ B) : Rws w' base n e v xs := by
  refine ⟨fun i hi => ?_, h.pt⟩
  have h0 := h.own i hi
  refine ⟨h0.1, ?_⟩
  rcases h0.2 with h1 | ⟨g, cap, cur, e1, h1, h2, h3⟩
  · exact .inl h1
  · exact .inr ⟨g, cap, cur, e1, h1, (hb.block g (Nat.lt_of_lt_of_le (Array.getElem?_eq_some_iff.1 h2).1 hB)).trans h2, h3⟩
theorem Rws.kept {row : Option Nat} (h : Rws w base n e v xs) (hg : w.grownBy w' row) (hne : ∀ i, i < n → (v i).ownBlock = Option.none ∨ (v i).ownBlock ≠ row) : Rws w' base n e v xs :=
  ⟨fun i hi => (h.own i hi).kept hg (hne i hi), h.pt⟩
/-- Row i is another one: as an append leaves it. -/
theorem Rws.app (h : Rws w base n e v xs) {i : Nat} (hi : i < n) {v' : Value} {ys : List Value} (hown : w'.ownsRow base (e i) 1 v' ys.length ys) (hg : w.grownBy w' (v i).ownBlock)
    (hd : v'.ownBlock = (v i).ownBlock ∨ v'.ownBlock = some w.heap.size) : Rws w' base n e (upd v i v') (upd xs i ys) := by
  refine ⟨fun j hj => ?_, fun a b ha hb hab k hk => ?_⟩
  · by_cases e1 : j = i
    · subst e1; rw [upd_same, upd_same]; exact hown
    · rw [upd_ne _ _ e1, upd_ne _ _ e1]
      refine (h.own j hj).kept hg ?_
      rcases hv : (v j).ownBlock with _ | k
      · exact .inl rfl
      · exact .inr fun e2 => h.pt j i hj hi e1 k hv e2.symm
  · by_cases e1 : a = i
    · subst e1
      rw [upd_same] at hk
      rw [upd_ne _ _ (Ne.symm hab)]
      rcases hd with hd | hd
      · rw [hd] at hk; exact h.pt a b ha hb hab k hk
      · rw [hd] at hk
        obtain rfl : w.heap.size = k := by injection hk
        intro e2
        have := (h.lt hb _ e2).2
        omega
    · rw [upd_ne _ _ e1] at hk
      by_cases e2 : b = i
      · subst e2
        rw [upd_same]
        rcases hd with hd | hd
        · rw [hd]; exact h.pt a b ha hb hab k hk
        · rw [hd]
          have := (h.lt ha _ hk).2
          intro e3
          obtain rfl : w.heap.size = k := by injection e3
          omega
      · rw [upd_ne _ _ e2]; exact h.pt a b ha hb hab k hk
/-- One row more. -/
theorem Rws.add (h : Rws w base n e v xs) {e' : TypeId} {v' : Value} {ys : List Value} (hown : w'.ownsRow base e' 1 v' ys.length ys) (hg : w.grownBy w' Option.none)
    (hnew : ∀ k, v'.ownBlock = some k → w.heap.size ≤ k) : Rws w' base (n + 1) (upd e n e') (upd v n v') (upd xs n ys) := by
  refine ⟨fun j hj => ?_, fun a b ha hb hab k hk => ?_⟩
  · by_cases e1 : j = n
    · subst e1; rw [upd_same, upd_same, upd_same]; exact hown
    · rw [upd_ne _ _ e1, upd_ne _ _ e1, upd_ne _ _ e1]
      refine (h.own j (by omega)).kept hg ?_
      rcases hv : (v j).ownBlock with _ | k
      · exact .inl rfl
      · exact .inr (by simp)
  · by_cases e1 : a = n
    · subst e1
      rw [upd_same] at hk
      rw [upd_ne _ _ (Ne.symm hab)]
      intro e2
      have h1 := (h.lt (i := b) (by omega) _ e2).2
      have h2 := hnew k hk
      omega
    · rw [upd_ne _ _ e1] at hk
      by_cases e2 : b = n
      · subst e2
        rw [upd_same]
        intro e3
        have h1 := (h.lt (i := a) (by omega) _ hk).2
        have h2 := hnew k e3
        omega
      · rw [upd_ne _ _ e2]; exact h.pt a b (by omega) (by omega) hab k hk
/-- A store into row i. -/
theorem Rws.stored (h : Rws w base n e v xs) {i g c : Nat} (hi : i < n) (hv : v i = .slice (some ⟨g, 0, Option.none⟩) (xs i).length c) (j : Nat) (u : Value) :
    Rws (w.setCell ⟨g, j, Option.none⟩ u) base n e v (upd xs i ((xs i).set j u)) := by
  have h0 := h.own i hi
  rw [hv] at h0
  have h1 := World.ownsRow.stored h0 j u
  refine ⟨fun k hk => ?_, h.pt⟩
  by_cases e1 : k = i
  · subst e1
    rw [upd_same, hv, List.length_set]
    exact h1.1
  · rw [upd_ne _ _ e1]
    refine (h.own k hk).kept h1.2 ?_
    rcases hvk : (v k).ownBlock with _ | m
    · exact .inl rfl
    · refine .inr fun e2 => ?_
      injection e2 with e2
      subst e2
      exact h.pt k i hk hi e1 m hvk (by rw [hv]; rfl)
/-- Row i as a list of ints. -/
theorem Rws.ints (h : Rws w base n e v xs) {i : Nat} (hi : i < n) (he : e i = 3) {zs : List Int} (hz : xs i = zs.map (Value.int .i64)) : OwnI w base (v i) zs := by
  have h0 := h.own i hi
  rw [he, hz, List.length_map] at h0
  exact h0
theorem Rws.sub (h : Rws w base n e v xs) {m : Nat} (hm : m ≤ n) : Rws w base m e v xs := ⟨fun i hi => h.own i (by omega), fun i j hi hj => h.pt i j (by omega) (by omega)⟩
theorem Rws.congr (h : Rws w base n e v xs) {e' : Nat → TypeId} {v' : Nat → Value} {xs' : Nat → List Value} (h1 : ∀ i, i < n → e' i = e i) (h2 : ∀ i, i < n → v' i = v i) (h3 : ∀ i, i < n → xs' i = xs i) : Rws w base n e' v' xs' :=
  ⟨fun i hi => by rw [h1 i hi, h2 i hi, h3 i hi]; exact h.own i hi, fun i j hi hj => by rw [h2 i hi, h2 j hj]; exact h.pt i j hi hj⟩
end
theorem sl_grown {w w' : World} {A : Option Addr} {zs : List Int} {row : Option Nat} (h : Sl w A zs) (hg : w.grownBy w' row) (hne : ∀ a, A = some a → row ≠ some a.block) : Sl w' A zs := fun hl => by
  obtain ⟨b, off, e, hb, hc⟩ := h hl
  refine ⟨b, off, e, Nat.lt_of_lt_of_le hb hg.size, fun j hj => ?_⟩
  exact hg.cell (hc j hj) (fun e2 => hne _ e e2.symm)
end Go.Proofs.YtecpanppnljkhaaGreatDoor
