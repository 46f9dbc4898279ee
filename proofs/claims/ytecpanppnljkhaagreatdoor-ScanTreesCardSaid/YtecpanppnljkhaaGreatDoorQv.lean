/- The law for drawn regions whatever their order, where each operation leaves one known value: the frame behind the region is the frame with those values. -/
import Derived.Test.YtecpanppnljkhaaGreatDoorKa3
namespace Go.Proofs.YtecpanppnljkhaaGreatDoor
open Go Go.RowKit
def putAll : List Oper → List Value → Act → Act
  | o :: l, v :: vs, a => putAll l vs (a.put o.dst v)
  | _, _, a => a
theorem putAll_size : ∀ (l : List Oper) (vs : List Value) (a : Act), (putAll l vs a).tmps.size = a.tmps.size ∧ (putAll l vs a).defers = a.defers
  | [], _, _ => ⟨rfl, rfl⟩
  | _ :: _, [], _ => ⟨rfl, rfl⟩
  | o :: l, v :: vs, a => by
    have h := putAll_size l vs (a.put o.dst v)
    rw [put_size, put_defers'] at h
    exact h
theorem dstAt_succ (o : Oper) (l : List Oper) (j : Nat) : dstAt (o :: l) (j + 1) = dstAt l j := rfl
theorem putAll_far (t : Nat) : ∀ (l : List Oper) (vs : List Value) (a : Act), (∀ j, dstAt l j ≠ some t) → (putAll l vs a).tmps[t]? = a.tmps[t]?
  | [], _, _, _ => rfl
  | _ :: _, [], _, _ => rfl
  | o :: l, v :: vs, a, h => by
    show (putAll l vs (a.put o.dst v)).tmps[t]? = _
    rw [putAll_far t l vs _ fun j => h (j + 1)]
    exact put_far _ _ _ _ (h 0)
theorem putAll_near (t : Nat) : ∀ (l : List Oper) (vs : List Value) (a : Act) (j : Nat), l.length = vs.length → dstAt l j = some t → (∀ i, j < i → dstAt l i ≠ some t) → t < a.tmps.size → (putAll l vs a).tmps[t]? = some (vs.getD j undef)
  | [], _, _, j, _, hd, _, _ => by simp [dstAt] at hd
  | _ :: _, [], _, _, h, _, _, _ => by simp at h
  | o :: l, v :: vs, a, 0, h, hd, hl, ht => by
    show (putAll l vs (a.put o.dst v)).tmps[t]? = _
    rw [putAll_far t l vs _ fun j => hl (j + 1) (by omega)]
    have hd' : o.dst = some t := hd
    rw [hd']
    simp [Act.put, ht]
  | o :: l, v :: vs, a, j + 1, h, hd, hl, ht => by
    show (putAll l vs (a.put o.dst v)).tmps[t]? = _
    rw [putAll_near t l vs (a.put o.dst v) j (by simpa using h) hd (fun i hi => hl (i + 1) (by omega)) (by rw [put_size]; exact ht)]
    rfl
section
variable {P : Program} {Q : Exit → Act → World → Prop}
theorem wp_region_owv {id : Nat} {a : Act} {w : World} {l : List Oper} (vs : List Value) (hm : P.follows .mixedOrders = true) (hB : owB l a.tmps.size = true) (hlen : l.length = vs.length)
    (hguard : ∀ (k : Nat) (o : Oper) (j : Nat) (b : Bool), l[k]? = some o → o.guard = some (j, b) → vs.getD j undef = .bool b)
    (hstep : ∀ (k : Nat) (o : Oper), l[k]? = some o → ∀ (a' : Act) (W : World), Below w.heap.size w W → a'.defers = a.defers →
      (∀ j t, dstAt l j = some t → Region.waitsFor .any l.toArray k j = true → a'.tmps.getD t undef = vs.getD j undef) → (∀ t, (∀ j, dstAt l j ≠ some t) → a'.tmps.getD t undef = a.tmps.getD t undef) →
      Steps' P o a' W (fun v W' => Below W.heap.size W W' ∧ v = vs.getD k undef))
    (hQ : ∀ W, Below w.heap.size w W → Q .normal (putAll l vs a) W) :
    (Code.region id l.toArray true).wp P Q a w := by
  have hB' := hB
  simp only [owB, Bool.and_eq_true] at hB'
  have hdist : ∀ j i t, dstAt l j = some t → j < i → dstAt l i ≠ some t := fun j i t hj hji hi => by
    have hil : i < l.length := by
      rcases Nat.lt_or_ge i l.length with h1 | h1
      · exact h1
      · unfold dstAt at hi; rw [List.getElem?_eq_none h1] at hi; cases hi
    have := List.all_eq_true.1 hB'.2 i (List.mem_range.2 hil)
    cases ho : l[i]? with
    | none => rw [ho] at this; simp at this
    | some o =>
      rw [ho] at this
      simp only [Bool.and_eq_true] at this
      have h5 := List.all_eq_true.1 this.2 j (List.mem_range.2 (by omega))
      have hne : ¬ j = i := by omega
      simp only [Bool.or_eq_true, beq_iff_eq, hne, false_or, hj, Bool.and_eq_true, bne_iff_ne, ne_eq] at h5
      exact h5.1 hi
  have hlt : ∀ j t, dstAt l j = some t → t < a.tmps.size := fun j t hj => by
    have hjl : j < l.length := by
      rcases Nat.lt_or_ge j l.length with h1 | h1
      · exact h1
      · unfold dstAt at hj; rw [List.getElem?_eq_none h1] at hj; cases hj
    have := List.all_eq_true.1 hB'.2 j (List.mem_range.2 hjl)
    cases ho : l[j]? with
    | none => rw [ho] at this; simp at this
    | some o =>
      rw [ho] at this
      have hd : o.dst = some t := by simpa [dstAt, ho] using hj
      simp only [Bool.and_eq_true, hd, decide_eq_true_eq] at this
      exact this.1.2.1
  refine wp_region_ow (fun k v _ => v = vs.getD k undef) hm hB (fun _ _ _ _ h _ => h) (fun k o j b ho hg v _ hv => hv.trans (hguard k o j b ho hg)) hstep ?_
  intro a' W hW hR hout hsz hdf
  have e : a' = putAll l vs a := by
    have ht : a'.tmps = (putAll l vs a).tmps := by
      apply Array.ext_getElem?
      intro t
      by_cases hex : ∃ j, dstAt l j = some t
      · obtain ⟨j, hj⟩ := hex
        rw [putAll_near t l vs a j hlen hj (fun i hi => hdist j i t hj hi) (hlt j t hj)]
        have h1 := hR j t hj
        have h2 : t < a'.tmps.size := by rw [hsz]; exact hlt j t hj
        rw [Array.getD_eq_getD_getElem?, Array.getElem?_eq_getElem h2] at h1
        rw [Array.getElem?_eq_getElem h2]
        exact congrArg some h1
      · have hno : ∀ j, dstAt l j ≠ some t := fun j hj => hex ⟨j, hj⟩
        rw [putAll_far t l vs a hno, hout t hno]
    cases a' with
    | mk t' d' =>
      have h2 := (putAll_size l vs a).2
      simp only at ht hdf
      cases hp : putAll l vs a with
      | mk t2 d2 =>
        rw [hp] at ht h2
        simp only at ht h2
        rw [ht, hdf, h2]
  rw [e]
  exact hQ W hW
end
end Go.Proofs.YtecpanppnljkhaaGreatDoor
