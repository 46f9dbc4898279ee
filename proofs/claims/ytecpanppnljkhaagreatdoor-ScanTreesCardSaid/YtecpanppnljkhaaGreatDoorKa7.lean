/- A law for drawn regions with operations passed over; the specification of scan: isPower, halves, areLevels, Down; slices of slices of ints as arguments. -/
import Derived.Test.YtecpanppnljkhaaGreatDoorZa
import Derived.Test.YtecpanppnljkhaaGreatDoorQv
import Derived.Deep.Matrix
namespace Go.Proofs.YtecpanppnljkhaaGreatDoor
open Go Go.RowKit
section
variable {P : Program} {Q : Exit → Act → World → Prop}
theorem wpAny_og {l : List Oper} {R : Nat → Value → World → Prop} {w0 : World} {a0 : Act} (hB : owB l a0.tmps.size = true)
    (hmono : ∀ k v W W', R k v W → Below W.heap.size W W' → R k v W')
    (hguard : ∀ (k : Nat) (o : Oper) (j : Nat) (b : Bool), l[k]? = some o → o.guard = some (j, b) → ∀ v W, R j v W → v = .bool b ∨ (v = .bool (!b) ∧ ∀ W, R k undef W))
    (hstep : ∀ (k : Nat) (o : Oper), l[k]? = some o → (∀ j b, o.guard = some (j, b) → ∃ v W, R j v W ∧ v = .bool b) → ∀ (a : Act) (W : World), Below w0.heap.size w0 W → a.defers = a0.defers →
      (∀ j t, dstAt l j = some t → Region.waitsFor .any l.toArray k j = true → R j (a.tmps.getD t undef) W) → (∀ t, (∀ j, dstAt l j ≠ some t) → a.tmps.getD t undef = a0.tmps.getD t undef) →
      Steps' P o a W (fun v W' => Below W.heap.size W W' ∧ R k v W'))
    (hQ : ∀ a W, Below w0.heap.size w0 W → (∀ k t, dstAt l k = some t → R k (a.tmps.getD t undef) W) → (∀ t, (∀ j, dstAt l j ≠ some t) → a.tmps[t]? = a0.tmps[t]?) → a.tmps.size = a0.tmps.size → a.defers = a0.defers → Q .normal a W) :
    ∀ (fuel : Nat) (listed : Array Bool) (a : Act) (W : World), listed.toList.count false = fuel → OwInv R l w0 a0 listed a W → wpAny P .any l.toArray Q fuel listed a W := by
  simp only [owB, Bool.and_eq_true] at hB
  obtain ⟨hsel, hall⟩ := hB
  have hk : ∀ k, k < l.length → ∃ o, l[k]? = some o ∧ (∀ e ∈ o.after, e.on < k) ∧ (∀ j b, o.guard = some (j, b) → Region.waitsFor .any l.toArray k j = true ∧ (dstAt l j).isSome = true) ∧
      (∀ t, o.dst = some t → t < a0.tmps.size ∧ ¬ t ∈ o.looksAt l.toArray) ∧ ∀ j, j < l.length → j ≠ k → ∀ t, dstAt l j = some t → dstAt l k ≠ some t ∧ (t ∈ o.looksAt l.toArray → Region.waitsFor .any l.toArray k j = true) := by
    intro k hkn
    have := List.all_eq_true.1 hall k (List.mem_range.2 hkn)
    cases ho : l[k]? with
    | none => rw [ho] at this; simp at this
    | some o =>
      rw [ho] at this
      simp only [Bool.and_eq_true] at this
      obtain ⟨⟨⟨⟨_, h2⟩, h3⟩, h4⟩, h5⟩ := this
      refine ⟨o, rfl, fun e he => by simpa using Array.all_eq_true_iff_forall_mem.1 h2 e he, fun j b hg => ?_, fun t ht => ?_, fun j hj hjk t ht => ?_⟩
      · rw [hg] at h3; simpa using h3
      · rw [ht] at h4
        simp only [Bool.and_eq_true, decide_eq_true_eq, Bool.not_eq_true'] at h4
        exact ⟨h4.1, fun hm => by rw [List.contains_iff_mem.2 hm] at h4; exact absurd h4.2 (by decide)⟩
      · have h6 := List.all_eq_true.1 h5 j (List.mem_range.2 hj)
        simp only [Bool.or_eq_true, beq_iff_eq, hjk, false_or, ht, Bool.and_eq_true, bne_iff_ne, ne_eq, Bool.not_eq_true'] at h6
        refine ⟨h6.1, fun hm => ?_⟩
        rcases h6.2 with h7 | h7
        · rw [List.contains_iff_mem.2 hm] at h7; cases h7
        · exact h7
  have dlt : ∀ j t, dstAt l j = some t → j < l.length := fun j t h => by
    rcases Nat.lt_or_ge j l.length with h1 | h1
    · exact h1
    · unfold dstAt at h; rw [List.getElem?_eq_none h1] at h; cases h
  have hdone : ∀ (listed : Array Bool) (a : Act) (W : World), OwInv R l w0 a0 listed a W → (∀ j, j < l.length → listed.getD j false = true) → Q .normal a W := fun listed a W inv hd =>
    hQ a W inv.base (fun k t ht => inv.near k (hd k (dlt k t ht)) t ht) (fun t hno => inv.far t fun j _ => hno j) inv.tsize inv.defers
  have hready : ∀ (listed : Array Bool), listed.size = l.length → Region.ready .any l.toArray listed = [] → ∀ j, j < l.length → listed.getD j false = true := by
    intro listed hs h0
    have : ∀ d j, j ≤ d → j < l.length → listed.getD j false = true := by
      intro d
      induction d with
      | zero =>
        intro j hjd hj
        obtain rfl : j = 0 := by omega
        cases hx : listed.getD 0 false with
        | true => rfl
        | false =>
          obtain ⟨o, ho, h2, _⟩ := hk 0 hj
          have : 0 ∈ Region.ready .any l.toArray listed := mem_ready.2 ⟨getD_in (by omega) hx, o, by simpa using ho, fun e he _ => by have := h2 e he; omega⟩
          rw [h0] at this; cases this
      | succ d ihd =>
        intro j hjd hj
        by_cases hjd' : j ≤ d
        · exact ihd j hjd' hj
        · cases hx : listed.getD j false with
          | true => rfl
          | false =>
            obtain ⟨o, ho, h2, _⟩ := hk j hj
            have : j ∈ Region.ready .any l.toArray listed := mem_ready.2 ⟨getD_in (by omega) hx, o, by simpa using ho, fun e he _ => by have := h2 e he; exact ihd e.on (by omega) (by omega)⟩
            rw [h0] at this; cases this
    exact fun j hj => this j j (Nat.le_refl _) hj
  intro fuel
  induction fuel with
  | zero =>
    intro listed a W hc inv
    have hd : ∀ j, j < l.length → listed.getD j false = true := fun j hj => by
      cases hx : listed.getD j false with
      | true => rfl
      | false =>
        have hlt : j < listed.size := by rw [inv.size]; exact hj
        have hm : false ∈ listed.toList := by
          have e : listed[j] = false := by simpa [Array.getD_eq_getD_getElem?, hlt] using hx
          rw [← e]; exact Array.mem_toList_iff.2 (Array.getElem_mem hlt)
        have := List.count_pos_iff.2 hm
        omega
    refine ⟨?_, hdone listed a W inv hd⟩
    refine List.eq_nil_iff_forall_not_mem.2 fun i hi => ?_
    obtain ⟨hun, o, ho, _⟩ := mem_ready.1 hi
    have hi' : i < l.length := by
      have := (Array.getElem?_eq_some_iff.1 ho).1
      simpa using this
    have := getD_both hun
    rw [hd i hi'] at this; cases this
  | succ fuel ih =>
    intro listed a W hc inv
    refine ⟨fun h0 => hdone listed a W inv (hready listed inv.size h0), fun i hi => ?_⟩
    obtain ⟨hun, o, hoi, hafter⟩ := mem_ready.1 hi
    have hin : i < l.length := by
      have := (Array.getElem?_eq_some_iff.1 hoi).1
      simpa using this
    obtain ⟨o', ho, h2, hg, hdst, h3⟩ := hk i hin
    obtain rfl : o' = o := by
      have : l.toArray[i]? = some o' := by simpa using ho
      exact Option.some.inj (this.symm.trans hoi)
    have hunl : listed.getD i false = false := getD_both hun
    have hlisted : ∀ j, Region.waitsFor .any l.toArray i j = true → listed.getD j false = true := by
      intro j hw
      obtain ⟨oj, hoj, e, he, hb, hon⟩ := Region.waitsFor_spec hw
      obtain rfl : o' = oj := Option.some.inj (hoi.symm.trans hoj)
      have hlj := hafter e he hb
      rwa [hon] at hlj
    have hsz : i < listed.size := by rw [inv.size]; exact hin
    have hput : ∀ v W', Below W.heap.size W W' → R i v W' → wpAny P .any l.toArray Q fuel (listed.setIfInBounds i true) (a.put o'.dst v) W' := by
      intro v W' hBW hRv
      refine ih _ _ _ (count_set_true hun hc) ⟨by simpa using inv.size, fun j hj t ht => ?_, fun t hno => ?_, by rw [put_size, inv.tsize], by rw [put_defers', inv.defers], inv.base.trans (hBW.mono inv.base.size)⟩
      · by_cases hij : i = j
        · subst hij
          have hd' : o'.dst = some t := by simpa [dstAt, ho] using ht
          have hlt : t < a.tmps.size := by rw [inv.tsize]; exact (hdst t hd').1
          have : (a.put o'.dst v).tmps.getD t undef = v := by rw [hd']; simp [Act.put, hlt]
          rw [this]; exact hRv
        · rw [getD_set_ne false hij] at hj
          have hd' : o'.dst ≠ some t := by
            have := (h3 j (dlt j t ht) (Ne.symm hij) t ht).1
            simpa [dstAt, ho] using this
          have e : (a.put o'.dst v).tmps.getD t undef = a.tmps.getD t undef := by
            rw [Array.getD_eq_getD_getElem?, Array.getD_eq_getD_getElem?, put_far _ _ _ _ hd']
          rw [e]
          exact hmono _ _ _ _ (inv.near j hj t ht) hBW
      · have hd' : o'.dst ≠ some t := by
          have := hno i (by simp [hsz])
          simpa [dstAt, ho] using this
        rw [put_far _ _ _ _ hd']
        exact inv.far t fun j hj => hno j (getD_set_true hj)
    have hyield : ∀ j b c, o'.guard = some (j, b) → R j (.bool c) W → (∀ t, dstAt l j = some t → a.tmps.getD t undef = .bool c) → yielded l.toArray a.tmps j = some c := by
      intro j b c hgd _ hv
      obtain ⟨hw, hs⟩ := hg j b hgd
      obtain ⟨t, ht⟩ := Option.isSome_iff_exists.1 hs
      have hv' := hv t ht
      have e1 : (l.toArray[j]?).bind (·.dst) = some t := by simpa [dstAt] using ht
      have e2 : a.tmps[t]? = some (.bool c) := by
        rw [Array.getD_eq_getD_getElem?] at hv'
        cases hx : a.tmps[t]? with
        | none => rw [hx] at hv'; cases hv'
        | some u => rw [hx] at hv'; simpa using hv'
      unfold yielded
      rw [e1]
      simp [e2]
    have hrun : (∀ j b, o'.guard = some (j, b) → ∃ v W, R j v W ∧ v = .bool b) → Region.wanted o' (yielded l.toArray a.tmps) = true → wpOp P l.toArray Q i (wpAny P .any l.toArray Q fuel (listed.setIfInBounds i true)) a W := by
      intro hgv hwant
      have hst := hstep i o' ho hgv a W inv.base inv.defers (fun j t ht hw => inv.near j (hlisted j hw) t ht) (fun t hno => getD_tmps (inv.far t fun j _ => hno j))
      unfold wpOp
      simp only [hoi, hwant, if_true]
      exact .inl (hst.wp fun v W' ⟨hBW, hRv⟩ => hput v W' hBW hRv)
    cases hgd : o'.guard with
    | none => exact hrun (fun j b h => by rw [hgd] at h; cases h) (by simp [Region.wanted, hgd])
    | some p =>
      obtain ⟨j, b⟩ := p
      obtain ⟨hw, hs⟩ := hg j b hgd
      obtain ⟨t, ht⟩ := Option.isSome_iff_exists.1 hs
      have hR := inv.near j (hlisted j hw) t ht
      rcases hguard i o' j b ho hgd _ _ hR with hv | ⟨hv, hu⟩
      · have hy := hyield j b b hgd (hv ▸ hR) (fun t' ht' => by rw [ht] at ht'; cases ht'; exact hv)
        exact hrun (fun j' b' h => by rw [hgd] at h; cases h; exact ⟨_, _, hR, hv⟩) (by simp [Region.wanted, hgd, hy])
      · have hy := hyield j b (!b) hgd (hv ▸ hR) (fun t' ht' => by rw [ht] at ht'; cases ht'; exact hv)
        unfold wpOp
        simp only [hoi]
        rw [if_neg (by simp [Region.wanted, hgd, hy])]
        exact hput undef W (Below.refl _ _) (hu W)
theorem wp_region_og {id : Nat} {a : Act} {w : World} {l : List Oper} (R : Nat → Value → World → Prop) (hm : P.follows .mixedOrders = true) (hB : owB l a.tmps.size = true)
    (hmono : ∀ k v W W', R k v W → Below W.heap.size W W' → R k v W')
    (hguard : ∀ (k : Nat) (o : Oper) (j : Nat) (b : Bool), l[k]? = some o → o.guard = some (j, b) → ∀ v W, R j v W → v = .bool b ∨ (v = .bool (!b) ∧ ∀ W, R k undef W))
    (hstep : ∀ (k : Nat) (o : Oper), l[k]? = some o → (∀ j b, o.guard = some (j, b) → ∃ v W, R j v W ∧ v = .bool b) → ∀ (a' : Act) (W : World), Below w.heap.size w W → a'.defers = a.defers →
      (∀ j t, dstAt l j = some t → Region.waitsFor .any l.toArray k j = true → R j (a'.tmps.getD t undef) W) → (∀ t, (∀ j, dstAt l j ≠ some t) → a'.tmps.getD t undef = a.tmps.getD t undef) →
      Steps' P o a' W (fun v W' => Below W.heap.size W W' ∧ R k v W'))
    (hQ : ∀ a' W, Below w.heap.size w W → (∀ k t, dstAt l k = some t → R k (a'.tmps.getD t undef) W) → (∀ t, (∀ j, dstAt l j ≠ some t) → a'.tmps[t]? = a.tmps[t]?) → a'.tmps.size = a.tmps.size → a'.defers = a.defers → Q .normal a' W) :
    (Code.region id l.toArray true).wp P Q a w := by
  refine wp_region_any hm ?_
  refine wpAny_og (R := R) (w0 := w) (a0 := a) hB hmono hguard hstep hQ _ _ _ _ (by simp) ⟨by simp, fun j hj => (by rw [getD_replicate_false] at hj; cases hj), fun t _ => rfl, rfl, rfl, (Below.refl _ _).drew⟩
theorem wp_region_ogv {id : Nat} {a : Act} {w : World} {l : List Oper} (vs : List Value) (hm : P.follows .mixedOrders = true) (hB : owB l a.tmps.size = true) (hlen : l.length = vs.length)
    (hguard : ∀ (k : Nat) (o : Oper) (j : Nat) (b : Bool), l[k]? = some o → o.guard = some (j, b) → vs.getD j undef = .bool b ∨ (vs.getD j undef = .bool (!b) ∧ vs.getD k undef = undef))
    (hstep : ∀ (k : Nat) (o : Oper), l[k]? = some o → (∀ j b, o.guard = some (j, b) → vs.getD j undef = .bool b) → ∀ (a' : Act) (W : World), Below w.heap.size w W → a'.defers = a.defers →
      (∀ j t, dstAt l j = some t → Region.waitsFor .any l.toArray k j = true → a'.tmps.getD t undef = vs.getD j undef) → (∀ t, (∀ j, dstAt l j ≠ some t) → a'.tmps.getD t undef = a.tmps.getD t undef) →
      Steps' P o a' W (fun v W' => Below W.heap.size W W' ∧ v = vs.getD k undef))
    (hQ : ∀ W, Below w.heap.size w W → Q .normal (putAll l vs a) W) :
    (Code.region id l.toArray true).wp P Q a w := by
  have hB' := hB
  simp only [owB, Bool.and_eq_true] at hB'
  have hdist : ∀ j i t, dstAt l j = some t → j < i → dstAt l i ≠ some t := fun j i t hj hji hi => by
    have hil : i < l.length := by
      rcases Nat.lt_or_ge i l.length with h1 | h1
      · exact h1
      · unfold dstAt at hi; rw [List.getElem?_eq_none h1] at hi; cases hi
    have := List.all_eq_true.1 hB'.2 i (List.mem_range.2 hil)
    cases ho : l[i]? with
    | none => rw [ho] at this; simp at this
    | some o =>
      rw [ho] at this
      simp only [Bool.and_eq_true] at this
      have h5 := List.all_eq_true.1 this.2 j (List.mem_range.2 (by omega))
      have hne : ¬ j = i := by omega
      simp only [Bool.or_eq_true, beq_iff_eq, hne, false_or, hj, Bool.and_eq_true, bne_iff_ne, ne_eq] at h5
      exact h5.1 hi
  have hlt : ∀ j t, dstAt l j = some t → t < a.tmps.size := fun j t hj => by
    have hjl : j < l.length := by
      rcases Nat.lt_or_ge j l.length with h1 | h1
      · exact h1
      · unfold dstAt at hj; rw [List.getElem?_eq_none h1] at hj; cases hj
    have := List.all_eq_true.1 hB'.2 j (List.mem_range.2 hjl)
    cases ho : l[j]? with
    | none => rw [ho] at this; simp at this
    | some o =>
      rw [ho] at this
      have hd : o.dst = some t := by simpa [dstAt, ho] using hj
      simp only [Bool.and_eq_true, hd, decide_eq_true_eq] at this
      exact this.1.2.1
  refine wp_region_og (fun k v _ => v = vs.getD k undef) hm hB (fun _ _ _ _ h _ => h) (fun k o j b ho hg v _ hv => (hguard k o j b ho hg).imp (fun h => hv.trans h) (fun h => ⟨hv.trans h.1, fun _ => h.2.symm⟩)) (fun k o ho hgv => hstep k o ho (fun j b hg => by obtain ⟨v, _, h1, h2⟩ := hgv j b hg; exact h1.symm.trans h2)) ?_
  intro a' W hW hR hout hsz hdf
  have e : a' = putAll l vs a := by
    have ht : a'.tmps = (putAll l vs a).tmps := by
      apply Array.ext_getElem?
      intro t
      by_cases hex : ∃ j, dstAt l j = some t
      · obtain ⟨j, hj⟩ := hex
        rw [putAll_near t l vs a j hlen hj (fun i hi => hdist j i t hj hi) (hlt j t hj)]
        have h1 := hR j t hj
        have h2 : t < a'.tmps.size := by rw [hsz]; exact hlt j t hj
        rw [Array.getD_eq_getD_getElem?, Array.getElem?_eq_getElem h2] at h1
        rw [Array.getElem?_eq_getElem h2]
        exact congrArg some h1
      · have hno : ∀ j, dstAt l j ≠ some t := fun j hj => hex ⟨j, hj⟩
        rw [putAll_far t l vs a hno, hout t hno]
    cases a' with
    | mk t' d' =>
      have h2 := (putAll_size l vs a).2
      simp only at ht hdf
      cases hp : putAll l vs a with
      | mk t2 d2 =>
        rw [hp] at ht h2
        simp only at ht h2
        rw [ht, hdf, h2]
  rw [e]
  exact hQ W hW
end
end Go.Proofs.YtecpanppnljkhaaGreatDoor

namespace Go.Proofs.YtecpanppnljkhaaGreatDoor
set_option linter.unusedVariables false
set_option maxRecDepth 100000
open Go.RowKit Go.Shelf
theorem bits_and_i64_nat (a b : Nat) (ha : a < 9223372036854775808) (hb : b < 9223372036854775808) : bits .and .i64 (a : Int) (b : Int) = ((a &&& b : Nat) : Int) := by
  have hx : a &&& b < 2 ^ 63 := Nat.and_lt_two_pow _ (by omega)
  have h1 : (BitVec.ofInt 64 (a : Int)).toNat = a := by
    rw [BitVec.ofInt_natCast, BitVec.toNat_ofNat]; exact Nat.mod_eq_of_lt (by omega)
  have h2 : (BitVec.ofInt 64 (b : Int)).toNat = b := by
    rw [BitVec.ofInt_natCast, BitVec.toNat_ofNat]; exact Nat.mod_eq_of_lt (by omega)
  show IntKind.i64.wrap ((BitVec.ofInt 64 (a : Int) &&& BitVec.ofInt 64 (b : Int)).toNat : Int) = _
  rw [BitVec.toNat_and, h1, h2, IntKind.wrap_i64]
  omega
/-- A power of 2. -/
def powB (n : Nat) : Bool := decide (0 < n) && ((n &&& (n - 1)) == 0)
theorem powB_iff (n : Nat) : powB n = true ↔ ∃ d, n = 2 ^ d := by
  unfold powB
  simp only [Bool.and_eq_true, decide_eq_true_eq, beq_iff_eq]
  constructor
  · intro ⟨h, h1⟩
    obtain ⟨d, hd⟩ := (Nat.and_sub_one_eq_zero_iff_isPowerOfTwo (by omega)).1 h1
    exact ⟨d, hd⟩
  · intro ⟨d, hd⟩
    have h : 0 < n := by rw [hd]; exact Nat.two_pow_pos d
    exact ⟨h, (Nat.and_sub_one_eq_zero_iff_isPowerOfTwo (by omega)).2 ⟨d, hd⟩⟩
theorem ispow_any (n : Nat) (hn : n ≤ 9223372036854775807) (w : World) : Calls Tryz.prog 57 #[.int .i64 (n : Int)] w fun e w' => e = .returned (.bool (powB n)) ∧ w = w' := by
  by_cases h0 : n = 0
  · subst h0
    go_enter Tryz.func57, Tryz.ntmps57
    simp only [show ((0 : Nat) : Int) = 0 from rfl]
    go_wp2
    go_ret
    exact ⟨rfl, rfl⟩
  · have hn0 : (0 : Int) < (n : Int) := by omega
    obtain ⟨m, hm⟩ : ∃ m : Nat, n - 1 = m := ⟨_, rfl⟩
    have hs : (n : Int) - 1 = (m : Int) := by omega
    have hw : IntKind.i64.wrap (m : Int) = (m : Int) := IntWalk.i64_in _ (by omega)
    have hb := bits_and_i64_nat n m (by omega) (by omega)
    obtain ⟨y, hy⟩ : ∃ y : Nat, n &&& m = y := ⟨_, rfl⟩
    rw [hy] at hb
    cases hc : (y == 0) with
    | true =>
      have HE := Lib.hid (show powB n = true by
        unfold powB
        rw [hm, hy, hc]
        simp; omega)
      have hy0 : y = 0 := by simpa using hc
      subst hy0
      simp only [show ((0 : Nat) : Int) = 0 from rfl] at hb
      clear hc hm hy
      go_enter Tryz.func57, Tryz.ntmps57
      go_wp2
      go_ret
      exact ⟨ret_bool HE.out.symm, rfl⟩
    | false =>
      have HE := Lib.hid (show powB n = false by
        unfold powB
        rw [hm, hy, hc]
        simp)
      have hy0 : ¬ (y : Int) = 0 := by
        have : y ≠ 0 := by simpa using hc
        omega
      have hyb : ((y : Int) == 0) = false := by rw [beq_eq_false_iff_ne]; exact hy0
      clear hc hm hy
      go_enter Tryz.func57, Tryz.ntmps57
      go_wp2
      go_ret
      exact ⟨ret_bool HE.out.symm, rfl⟩
theorem prs_word {f : Int → Int → Int} {x : Int} (M : Mon f x) {l : List Int} (h : Wds l) : Wds (prs f l) := fun j hj => by
  rw [prs_length] at hj
  rw [prs_nth f l j (by omega)]
  exact M.word _ _ (h.at _) (h.at _)
set_option maxHeartbeats 4000000 in
theorem halves_any {op : Int} (h : aB op = true) (A : Option Addr) (c n : Nat) (l : List Int) (w : World) (hA : Sl w A l) (hn : l.length = n) (hl : n ≤ 1048576) (hw : Wds l) :
    Calls Tryz.prog 58 #[.int .i64 op, .slice A n c] w (RetS w (prs (doN op) l)) := by
  obtain ⟨i0, hi, hz0, hz1, hz2⟩ := info_parts int_info
  have HN := Lib.hid hn
  have HB := Lib.hid h; have HW := Lib.hid hw
  have hpl := prs_length (doN op) l
  rw [hn] at hpl
  have HPL := Lib.hid hpl
  clear hn h hw hpl
  go_enter Tryz.func58, Tryz.ntmps58
  go_wp2
  go_loopw [5, 6] (fun v i wr => ∃ k : Nat, 2 * k ≤ n + 1 ∧ k ≤ n ∧ i = .int .i64 (2 * k : Nat) ∧ OwnI wr w.heap.size v ((prs (doN op) l).take k) ∧ Below w.heap.size w wr) (fun _ i _ => n + 2 - (intOf i).toNat)
  case atStart => exact ⟨0, by omega, by omega, rfl, OwnI.empty w _ (Nat.le_refl _), (Below.refl _ _).alloc (Nat.le_refl _) _⟩
  case round =>
    obtain ⟨k, hk, hkn, rfl, hown, hBr⟩ := hrel
    by_cases hlt : 2 * k + 1 < n
    · obtain ⟨b, o, rfl, hb, hq1⟩ := hA.at_ (k := 2 * k) (by rw [HN.out]; omega)
      obtain ⟨b', o', e', hb', hq2⟩ := hA.at_ (k := 2 * k + 1) (by rw [HN.out]; omega)
      obtain ⟨rfl, rfl⟩ : b = b' ∧ o = o' := by injection e' with e'; injection e' with e1 e2 e3; exact ⟨e1, e2⟩
      have HT := prs_take (doN op) l k (by rw [HN.out]; exact hlt)
      have C2 := rval_as HB.out (HW.out.at (2 * k)) (HW.out.at (2 * k + 1))
      obtain ⟨s, hs⟩ : ∃ s, 2 * k = s := ⟨_, rfl⟩
      rw [hs] at hq1 hq2 C2 HT hlt hk ⊢
      obtain ⟨x, hx⟩ : ∃ x, nth l s = x := ⟨_, rfl⟩
      obtain ⟨y, hy⟩ : ∃ y, nth l (s + 1) = y := ⟨_, rfl⟩
      rw [hx] at C2 HT hq1
      rw [hy] at C2 HT hq2
      obtain ⟨z, hz⟩ : ∃ z, doN op x y = z := ⟨_, rfl⟩
      rw [hz] at HT
      simp only [hz] at C2
      have C2 := Lib.hid C2
      have HT := Lib.hid HT
      have HS := Lib.hid hs
      have hLn : ((prs (doN op) l).take k).length ≤ 1048576 := by rw [List.length_take]; omega
      have s0 : (0 : Int) ≤ (s : Int) := by omega
      have s1 : (s : Int) < (n : Int) := by omega
      obtain ⟨s', hs'⟩ : ∃ s', s + 1 = s' := ⟨_, rfl⟩
      have s2 : (s : Int) + 1 = (s' : Int) := by omega
      have s3 : IntKind.i64.wrap (s' : Int) = (s' : Int) := IntWalk.i64_in _ (by omega)
      have s4 : (s' : Int) < (n : Int) := by omega
      have s5 : (0 : Int) ≤ (s' : Int) := by omega
      rw [hs'] at hq2
      have LT : ∀ W', Below wr.heap.size wr W' → W'.cell? ⟨b, o + s, none⟩ = some (.int .i64 x) ∧ W'.cell? ⟨b, o + s', none⟩ = some (.int .i64 y) := fun W' hW =>
        ⟨(hW.cell (p := ⟨b, o + s, none⟩) (Nat.lt_of_lt_of_le hb hBr.size)).trans ((hBr.cell (p := ⟨b, o + s, none⟩) hb).trans hq1), (hW.cell (p := ⟨b, o + s', none⟩) (Nat.lt_of_lt_of_le hb hBr.size)).trans ((hBr.cell (p := ⟨b, o + s', none⟩) hb).trans hq2)⟩
      clear hs hx hy hz e' hq1 hq2 hs' hlt hb'
      go_wp2
      refine wp_region_mix' (fun W' => Below wr.heap.size wr W') [false, false, false, false, false, false, false, false, false, false, false, true, true] (by kernel_rfl) (by kernel_rfl) (Below.refl _ _).drew ?_
      simp only [mixT, mixH, mixD]
      iterate 11 (refine wpLts_light ?_ (fun W' hW => ?_) ?_; rotate_left; (obtain ⟨p0, p1⟩ := LT W' hW; go_simp; try with_reducible rfl); simp only [Act.put, List.setIfInBounds_toArray, List.set_cons_zero, List.set_cons_succ])
      iterate 2 (refine wpLts_heavy ?_)
      refine wpLts_nil ?_
      refine wpHvP_call 35 #[.int .i64 op, .int .i64 x, .int .i64 y] (by go_simp) ?_
      refine (C2.out _).mono ?_
      rintro e w13 ⟨rfl, hw13⟩
      have hBy : Below wr.heap.size wr w13 := by rw [← hw13]; exact (Below.refl _ wr).drew
      have hown3 := hown.drew
      rw [hw13] at hown3
      have hBr3 := hBr.trans (hBy.mono hBr.size)
      clear hw13 hown
      refine ⟨_, rfl, hBy, ?_⟩
      simp only [Act.put, List.setIfInBounds_toArray, List.set_cons_zero, List.set_cons_succ]
      refine wpHvP_value (.slice (some ⟨w13.heap.size, 0, none⟩) 1 1) (w13.alloc (.cells #[.int .i64 z] 3)) (by go_simp; try rfl) ⟨hBy.alloc hBy.size _, ?_⟩
      simp only [Act.put, List.setIfInBounds_toArray, List.set_cons_zero, List.set_cons_succ]
      refine wpHvP_nil ?_
      clear C2 LT
      go_wp2_with (at_builtin; refine wpList_append_own _ rfl _ _ 22 rfl w.heap.size 3 i0 (.int .i64 0) 1 8 Tryz.underlying22 hi hz0 hz1 hz2 rfl (by decide) _ _ _ rfl (hown3.alloc _) ⟨_, 0, none⟩ 1 1 [.int .i64 z] rfl rfl (cell_one_new _ _ _) (by simp [Value.oneCell']) (by unfold maxLen; omega) (by omega) (by have := hBr3.size; simp; omega) ?_; intro v' w2q hown' hgrow _; have hB2 := below_append hBr3 hBr3.size hown3 hgrow)
      have hown4 := OwnI.snoc hown'
      rw [← HT.out] at hown4
      clear hown' hgrow
      go_roundw
      case rel => exact ⟨k + 1, by have := HS.out; omega, by have := HS.out; omega, by have := HS.out; go_num, hown4, hB2⟩
      case measure => simp [intOf]; omega
    · have hTe : (prs (doN op) l).take k = prs (doN op) l := List.take_of_length_le (by rw [HPL.out]; omega)
      rw [hTe] at hown
      obtain ⟨A', c', rfl, hc', hs'⟩ := hown.form
      obtain ⟨s, hs⟩ : ∃ s, 2 * k = s := ⟨_, rfl⟩
      rw [hs] at hlt hk ⊢
      have hnlt : ¬ (s : Int) + 1 < (n : Int) := by omega
      clear hTe hs hlt
      go_wp2
      go_ret
      exact ⟨_, _, rfl, hc', hs', hBr⟩
end Go.Proofs.YtecpanppnljkhaaGreatDoor

namespace Go.Proofs.YtecpanppnljkhaaGreatDoor
set_option linter.unusedVariables false
set_option maxRecDepth 100000
open Go.RowKit Go.Shelf
theorem frame_eqB {a a' : Act} {l : List Oper} (vs : List Value) (hB : owB l a.tmps.size = true) (hlen : l.length = vs.length) (hR : ∀ j t, dstAt l j = some t → a'.tmps.getD t undef = vs.getD j undef)
    (hout : ∀ t, (∀ j, dstAt l j ≠ some t) → a'.tmps[t]? = a.tmps[t]?) (hsz : a'.tmps.size = a.tmps.size) (hdf : a'.defers = a.defers) : a' = putAll l vs a := by
  have hB' := hB
  simp only [owB, Bool.and_eq_true] at hB'
  have hdist : ∀ j i t, dstAt l j = some t → j < i → dstAt l i ≠ some t := fun j i t hj hji hi => by
    have hil : i < l.length := by
      rcases Nat.lt_or_ge i l.length with h1 | h1
      · exact h1
      · unfold dstAt at hi; rw [List.getElem?_eq_none h1] at hi; cases hi
    have := List.all_eq_true.1 hB'.2 i (List.mem_range.2 hil)
    cases ho : l[i]? with
    | none => rw [ho] at this; simp at this
    | some o =>
      rw [ho] at this
      simp only [Bool.and_eq_true] at this
      have h5 := List.all_eq_true.1 this.2 j (List.mem_range.2 (by omega))
      have hne : ¬ j = i := by omega
      simp only [Bool.or_eq_true, beq_iff_eq, hne, false_or, hj, Bool.and_eq_true, bne_iff_ne, ne_eq] at h5
      exact h5.1 hi
  have hlt : ∀ j t, dstAt l j = some t → t < a.tmps.size := fun j t hj => by
    have hjl : j < l.length := by
      rcases Nat.lt_or_ge j l.length with h1 | h1
      · exact h1
      · unfold dstAt at hj; rw [List.getElem?_eq_none h1] at hj; cases hj
    have := List.all_eq_true.1 hB'.2 j (List.mem_range.2 hjl)
    cases ho : l[j]? with
    | none => rw [ho] at this; simp at this
    | some o =>
      rw [ho] at this
      have hd : o.dst = some t := by simpa [dstAt, ho] using hj
      simp only [Bool.and_eq_true, hd, decide_eq_true_eq] at this
      exact this.1.2.1
  have ht : a'.tmps = (putAll l vs a).tmps := by
    apply Array.ext_getElem?
    intro t
    by_cases hex : ∃ j, dstAt l j = some t
    · obtain ⟨j, hj⟩ := hex
      rw [putAll_near t l vs a j hlen hj (fun i hi => hdist j i t hj hi) (hlt j t hj)]
      have h1 := hR j t hj
      have h2 : t < a'.tmps.size := by rw [hsz]; exact hlt j t hj
      rw [Array.getD_eq_getD_getElem?, Array.getElem?_eq_getElem h2] at h1
      rw [Array.getElem?_eq_getElem h2]
      exact congrArg some h1
    · have hno : ∀ j, dstAt l j ≠ some t := fun j hj => hex ⟨j, hj⟩
      rw [putAll_far t l vs a hno, hout t hno]
  cases a' with
  | mk t' d' =>
    have h2 := (putAll_size l vs a).2
    simp only at ht hdf
    cases hp : putAll l vs a with
    | mk t2 d2 =>
      rw [hp] at ht h2
      simp only at ht h2
      rw [ht, hdf, h2]

theorem pad_full {x : Int} {d : Nat} {l : List Int} (h : l.length = 2 ^ d) : padL x d l = l := by
  unfold padL
  rw [h, Nat.sub_self]
  simp
theorem isD_pow {d : Nat} (hd : d ≤ 20) : IsD (2 ^ d) d := ⟨Nat.le_refl _, fun j hj => Nat.pow_lt_pow_right (by omega) hj, hd⟩
theorem areLv_out {f : Int → Int → Int} {x : Int} {L : List (List Int)} (h : AreLv f x L) : ∃ d, L ≠ [] ∧ (nthL L 0).length = 2 ^ d ∧ d ≤ 20 ∧ lsE [nthL L 0] = 0 ∧ L = lvs f (nthL L 0) d := by
  obtain ⟨d, h0, h1, h2, h3⟩ := h
  have e0 : nthL L 0 = padL x d (nthL L 0) := by
    have := congrArg (fun M => nthL M 0) h3
    simp only [lvs_nth f _ d 0 (by omega)] at this
    exact this
  have hl : (nthL L 0).length = 2 ^ d := by
    have := congrArg List.length e0
    rw [padL_len h2] at this
    exact this
  exact ⟨d, h0, hl, h2.2.2, h1, by rw [← e0] at h3; exact h3⟩
theorem areLv_in {f : Int → Int → Int} {x : Int} {L : List (List Int)} {d : Nat} (h0 : L ≠ []) (hl : (nthL L 0).length = 2 ^ d) (hd : d ≤ 20) (h1 : lsE [nthL L 0] = 0) (h : L = lvs f (nthL L 0) d) : AreLv f x L :=
  ⟨d, h0, h1, by rw [hl]; exact isD_pow hd, by rw [pad_full hl]; exact h⟩
theorem areLv_last {f : Int → Int → Int} {x : Int} {L : List (List Int)} (h : AreLv f x L) (m : Nat) (hm : L.length = m + 1) : (nthL L m).length = 1 := by
  obtain ⟨d, h0, hl, hd, h1, h2⟩ := areLv_out h
  have hlen : L.length = d + 1 := by rw [h2, lvs_len]
  obtain rfl : m = d := by omega
  rw [h2, lvs_nth f _ _ _ (by omega), lv_length f hl m (Nat.le_refl _), Nat.sub_self]
theorem areLv_step {f : Int → Int → Int} {x : Int} {L : List (List Int)} (h : AreLv f x L) (t : Nat) (ht : t + 1 < L.length) : (nthL L t).length ≠ 1 ∧ nthL L (t + 1) = prs f (nthL L t) := by
  obtain ⟨d, h0, hl, hd, h1, h2⟩ := areLv_out h
  have hlen : L.length = d + 1 := by rw [h2, lvs_len]
  have e1 : nthL L t = lvK f (nthL L 0) t := by
    have := congrArg (fun M => nthL M t) h2
    simp only [lvs_nth f _ d t (by omega)] at this
    exact this
  have e2 : nthL L (t + 1) = lvK f (nthL L 0) (t + 1) := by
    have := congrArg (fun M => nthL M (t + 1)) h2
    simp only [lvs_nth f _ d (t + 1) (by omega)] at this
    exact this
  refine ⟨?_, by rw [e2, e1]; rfl⟩
  rw [e1, lv_length f hl t (by omega)]
  have : 2 ^ 1 ≤ 2 ^ (d - t) := Nat.pow_le_pow_right (by omega) (by omega)
  omega
theorem areLv_all {f : Int → Int → Int} {x : Int} {L : List (List Int)} {d m : Nat} (hm : L.length = m + 1) (hl : (nthL L 0).length = 2 ^ d) (hd : d ≤ 20) (h1 : lsE [nthL L 0] = 0) (h : ∀ j, j < L.length → nthL L j = lvK f (nthL L 0) j) (hlast : (nthL L m).length = 1) : AreLv f x L := by
  have hmd : m = d := by
    rw [h m (by omega)] at hlast
    by_cases e : m ≤ d
    · rw [lv_length f hl m e] at hlast
      apply Classical.byContradiction
      intro hne
      have : 2 ^ 1 ≤ 2 ^ (d - m) := Nat.pow_le_pow_right (by omega) (by omega)
      omega
    · rw [lv_nil f hl m (by omega)] at hlast
      simp at hlast
  refine areLv_in (d := d) (by intro e; rw [e] at hm; simp at hm) hl hd h1 ?_
  apply List.ext_getElem
  · rw [lvs_len]; omega
  · intro j hj1 hj2
    rw [← nthL_eq L j hj1, ← nthL_eq _ j hj2, h j hj1, lvs_nth f _ _ _ (by rw [lvs_len] at hj2; exact hj2)]
theorem lv_word {f : Int → Int → Int} {x : Int} (M : Mon f x) {a : List Int} (h : Wds a) : ∀ k, Wds (lvK f a k)
  | 0 => h
  | k + 1 => prs_word M (lv_word M h k)
theorem lv_le (f : Int → Int → Int) (a : List Int) : ∀ k, (lvK f a k).length ≤ a.length
  | 0 => Nat.le_refl _
  | k + 1 => by
    have := lv_le f a k
    rw [lvK, prs_length]; omega
set_option maxHeartbeats 8000000 in
theorem rarelv_any {op : Int} (haB : aB op = true) (A : Option Addr) (c : Nat) (L : List (List Int)) (w : World) (h : Sll w A L) (hn : L.length ≤ 9223372036854775807) (hs : AllShort L) :
    Calls Tryz.prog 62 #[.int .i64 op, .slice A L.length c] w (RetB (AreLv (doN op) (neN op) L) w) := by
  have HB := Lib.hid haB
  have HM := Lib.hid (mon_op haB)
  by_cases h0 : L.length = 0
  · have HF : Hid (¬ AreLv (doN op) (neN op) L) := Lib.hid (fun ⟨_, h', _⟩ => h' (List.eq_nil_of_length_eq_zero h0))
    rw [h0]
    clear haB
    go_enter Tryz.func62, Tryz.ntmps62
    go_wp2
    go_ret
    exact ⟨false, rfl, by simpa using HF.out, Below.refl _ _⟩
  obtain ⟨b, off, rfl, hb, hcells⟩ := h (by omega)
  obtain ⟨A0, c0, hq0, hc0, hs0⟩ := hcells 0 (by omega)
  rw [Nat.add_zero] at hq0
  have hk0 := hs 0 (by omega)
  obtain ⟨n0, hn0⟩ : ∃ n, (nthL L 0).length = n := ⟨_, rfl⟩
  rw [hn0] at hq0 hc0 hk0
  have HN0 := Lib.hid hn0
  obtain ⟨m, hm⟩ : ∃ m, L.length = m + 1 := ⟨L.length - 1, by omega⟩
  have HMl := Lib.hid hm
  obtain ⟨N, hN⟩ : ∃ N, L.length = N := ⟨_, rfl⟩
  have HN := Lib.hid hN
  rw [hN] at hn h0 hm ⊢
  have hNb : ((N : Int) == 0) = false := by rw [beq_eq_false_iff_ne]; omega
  have hN0 : ¬ (N : Int) = 0 := by omega
  have hNp : (0 : Int) < (N : Int) := by omega
  have CP := fun W => ispow_any n0 hk0 W
  cases hpw : powB n0 with
  | false =>
    have HF : Hid (¬ AreLv (doN op) (neN op) L) := Lib.hid (fun ha => by
      obtain ⟨d, _, hl, _, _, _⟩ := areLv_out ha
      have := (powB_iff n0).2 ⟨d, by rw [← HN0.out]; exact hl⟩
      rw [this] at hpw; cases hpw)
    rw [hpw] at CP
    have CP := Lib.hid CP
    clear hpw hm hN haB hcells
    go_enter Tryz.func62, Tryz.ntmps62
    go_wp2_with fail
    refine (CP.out _).mono ?_
    rintro e w' ⟨rfl, rfl⟩
    go_wp2
    go_ret
    exact ⟨false, rfl, by simpa using HF.out, Below.refl _ _⟩
  | true =>
  rw [hpw] at CP
  have CP := Lib.hid CP
  have HPW := Lib.hid hpw
  clear hpw
  by_cases hbig : n0 ≤ 1048576
  case neg =>
    have HF : Hid (¬ AreLv (doN op) (neN op) L) := Lib.hid (fun ha => by
      obtain ⟨d, _, hl, hd, _, _⟩ := areLv_out ha
      have : 2 ^ d ≤ 2 ^ 20 := Nat.pow_le_pow_right (by omega) hd
      rw [HN0.out] at hl
      omega)
    have hbi : (1048576 : Int) < (n0 : Int) := by omega
    clear hm hN haB hcells
    go_enter Tryz.func62, Tryz.ntmps62
    go_wp2_with fail
    refine (CP.out _).mono ?_
    rintro e w' ⟨rfl, rfl⟩
    go_wp2
    go_ret
    exact ⟨false, rfl, by simpa using HF.out, Below.refl _ _⟩
  have hbi : ¬ (1048576 : Int) < (n0 : Int) := by omega
  have CW := fun W hW => words_any A0 c0 (nthL L 0) W hW (by rw [hn0]; exact hk0)
  rw [hn0] at CW
  cases hwd : wordsB (nthL L 0) with
  | false =>
    have HF : Hid (¬ AreLv (doN op) (neN op) L) := Lib.hid (fun ha => by
      obtain ⟨d, _, hl, hd, h1, _⟩ := areLv_out ha
      have hw' := (lsE_ok h1).2 (nthL L 0) (by simp)
      have : wordsB (nthL L 0) = true := by
        unfold wordsB
        rw [List.all_eq_true]
        intro x hx
        obtain ⟨j, hj, rfl⟩ := List.getElem_of_mem hx
        rw [← nth_eq _ j hj]
        exact isWb_of _ (hw' j hj)
      rw [this] at hwd; cases hwd)
    rw [hwd] at CW
    have CW := Lib.hid CW
    clear hwd hm hN haB hcells
    go_enter Tryz.func62, Tryz.ntmps62
    go_wp2_with fail
    refine (CP.out _).mono ?_
    rintro e w' ⟨rfl, rfl⟩
    go_wp2_with fail
    refine (CW.out _ hs0).mono ?_
    rintro e w' ⟨rfl, rfl⟩
    go_wp2
    go_ret
    exact ⟨false, rfl, by simpa using HF.out, Below.refl _ _⟩
  | true =>
  have HLS : Hid (lsE [nthL L 0] = 0) := Lib.hid (by
    unfold lsE
    rw [if_pos (by simp [shortB]; omega), if_pos (by simp [hwd])])
  have HW0 : Hid (Wds (nthL L 0)) := Lib.hid (fun j hj => (lsE_ok HLS.out).2 (nthL L 0) (by simp) j hj)
  rw [hwd] at CW
  have CW := Lib.hid CW
  clear hwd
  obtain ⟨Am, cm, hqm, hcm, _⟩ := hcells m (by rw [HMl.out]; omega)
  have hkm := hs m (by rw [HMl.out]; omega)
  obtain ⟨nm, hnm⟩ : ∃ n, (nthL L m).length = n := ⟨_, rfl⟩
  rw [hnm] at hqm hkm
  have HNM := Lib.hid hnm
  have hmi : (N : Int) - 1 = (m : Int) := by omega
  have hmw : IntKind.i64.wrap (m : Int) = (m : Int) := IntWalk.i64_in _ (by omega)
  have hm0 : (0 : Int) ≤ (m : Int) := by omega
  have hm1 : (m : Int) < (N : Int) := by omega
  by_cases h1 : nm = 1
  case neg =>
    have HF : Hid (¬ AreLv (doN op) (neN op) L) := Lib.hid (fun ha => h1 (by rw [← HNM.out]; exact areLv_last ha m HMl.out))
    have hd1 : ((nm : Int) != 1) = true := by rw [bne_iff_ne]; omega
    clear hm hN haB hcells hnm h1
    go_enter Tryz.func62, Tryz.ntmps62
    go_wp2_with fail
    refine (CP.out _).mono ?_
    rintro e w' ⟨rfl, rfl⟩
    go_wp2_with fail
    refine (CW.out _ hs0).mono ?_
    rintro e w' ⟨rfl, rfl⟩
    go_wp2
    go_ret
    exact ⟨false, rfl, by simpa using HF.out, Below.refl _ _⟩
  subst h1
  have HCL := Lib.hid hcells
  have HSH := Lib.hid hs
  clear hcells hnm hN haB hs hm
  go_enter Tryz.func62, Tryz.ntmps62
  go_wp2_with fail
  refine (CP.out _).mono ?_
  rintro e w' ⟨rfl, rfl⟩
  go_wp2_with fail
  refine (CW.out _ hs0).mono ?_
  rintro e w' ⟨rfl, rfl⟩
  go_wp2
  clear hqm hmi hmw
  go_loopw [5] (fun i wr => ∃ k : Nat, 1 ≤ k ∧ k ≤ N ∧ i = .int .i64 k ∧ Hid (∀ j, j < k → nthL L j = lvK (doN op) (nthL L 0) j) ∧ Below w.heap.size w wr) (fun i _ => N - (intOf i).toNat)
  case atStart => exact ⟨1, Nat.le_refl _, by omega, rfl, Lib.hid (fun j hj => by obtain rfl : j = 0 := (by omega); rfl), Below.refl _ _⟩
  case round =>
    obtain ⟨k, hk1, hkN, rfl, HALL, hBr⟩ := hrel
    by_cases hlt : k < N
    · obtain ⟨t, ht⟩ : ∃ t, k = t + 1 := ⟨k - 1, by omega⟩
      have hkt : (k : Int) - 1 = (t : Int) := by omega
      have hwt : IntKind.i64.wrap (t : Int) = (t : Int) := IntWalk.i64_in _ (by omega)
      have t0 : (0 : Int) ≤ (t : Int) := by omega
      have t1 : (t : Int) < (N : Int) := by omega
      have k0 : (0 : Int) ≤ (k : Int) := by omega
      have k1 : (k : Int) < (N : Int) := by omega
      obtain ⟨At, ct, hqt, hct, hst⟩ := HCL.out t (by rw [HN.out]; omega)
      obtain ⟨Ak, ck, hqk, hck, hsk⟩ := HCL.out k (by rw [HN.out]; omega)
      have hbr : b < wr.heap.size := Nat.lt_of_lt_of_le hb hBr.size
      replace hqt := (hBr.cell (p := ⟨b, off + t, none⟩) hb).trans hqt
      replace hqk := (hBr.cell (p := ⟨b, off + k, none⟩) hb).trans hqk
      replace hst := hst.step hBr
      replace hsk := hsk.step hBr
      have hTl : nthL L t = lvK (doN op) (nthL L 0) t := HALL.out t (by omega)
      have hntle : (nthL L t).length ≤ 1048576 := by
        rw [hTl]
        have := lv_le (doN op) (nthL L 0) t
        rw [HN0.out] at this
        omega
      have hTw : Wds (nthL L t) := by rw [hTl]; exact lv_word HM.out HW0.out t
      have hnks := HSH.out k (by rw [HN.out]; omega)
      have CH := fun W hW => halves_any HB.out At ct _ (nthL L t) W hW rfl hntle hTw
      have CE := fun A9 c9 W hW h9 => bequal_any Ak A9 ck c9 (nthL L k) (prs (doN op) (nthL L t)) W hW h9 hnks (by rw [prs_length]; omega)
      have hNB : AreLv (doN op) (neN op) L → (nthL L t).length ≠ 1 ∧ nthL L k = prs (doN op) (nthL L t) := fun ha => by rw [ht]; exact areLv_step ha t (by rw [HN.out]; omega)
      have hNX : nthL L k = prs (doN op) (nthL L t) → ∀ j, j < k + 1 → nthL L j = lvK (doN op) (nthL L 0) j := fun hp j hj => by
        by_cases e : j < k
        · exact HALL.out j e
        · obtain rfl : j = k := by omega
          rw [hp, ht]
          show _ = prs (doN op) (lvK (doN op) (nthL L 0) t)
          rw [hTl]
      obtain ⟨PP, hPP⟩ : ∃ P, prs (doN op) (nthL L t) = P := ⟨_, rfl⟩
      obtain ⟨eq, heq⟩ : ∃ e, decide (nthL L k = PP) = e := ⟨_, rfl⟩
      obtain ⟨nt, hnt⟩ : ∃ n, (nthL L t).length = n := ⟨_, rfl⟩
      obtain ⟨nk, hnk⟩ : ∃ n, (nthL L k).length = n := ⟨_, rfl⟩
      rw [hPP] at hNB hNX
      simp only [hPP, hnt] at CH
      simp only [hPP, heq, hnk] at CE
      rw [hnt] at hqt hNB hntle
      rw [hnk] at hqk
      have HNBx := Lib.hid hNB
      have HNX := Lib.hid hNX
      have HEQ := Lib.hid heq
      have CH := Lib.hid CH
      have CE := Lib.hid CE
      clear hTl hTw hNB hNX hPP heq hnt hnk hct hck hnks ht HALL
      by_cases ho1 : nt = 1
      · subst ho1
        have hBe := hBr
        go_wp2
        obtain ⟨VS, hVS⟩ : ∃ VS : List Value, VS = [.slice (some ⟨b, off, none⟩) N c, .int .i64 (k : Int), .int .i64 (t : Int), .pointer (some ⟨b, off + t, none⟩), .slice At 1 ct, .int .i64 1, .bool true, .bool true, undef, undef, undef, undef, undef, undef, undef, undef, undef, undef, undef, undef, undef, .bool true] := ⟨_, rfl⟩
        refine wp_region_ogv VS (by kernel_rfl) (by kernel_rfl) (by rw [hVS]; rfl) ?_ ?_ ?_
        · subst hVS
          intro iK oK jK bK ho hg
          match iK, ho with
          | 0, ho => obtain rfl := Option.some.inj ho; cases hg
          | 1, ho => obtain rfl := Option.some.inj ho; cases hg
          | 2, ho => obtain rfl := Option.some.inj ho; cases hg
          | 3, ho => obtain rfl := Option.some.inj ho; cases hg
          | 4, ho => obtain rfl := Option.some.inj ho; cases hg
          | 5, ho => obtain rfl := Option.some.inj ho; cases hg
          | 6, ho => obtain rfl := Option.some.inj ho; cases hg
          | 7, ho => obtain rfl := Option.some.inj ho; cases hg
          | 8, ho => obtain rfl := Option.some.inj ho; cases hg; first | exact .inl rfl | exact .inr ⟨rfl, rfl⟩
          | 9, ho => obtain rfl := Option.some.inj ho; cases hg; first | exact .inl rfl | exact .inr ⟨rfl, rfl⟩
          | 10, ho => obtain rfl := Option.some.inj ho; cases hg; first | exact .inl rfl | exact .inr ⟨rfl, rfl⟩
          | 11, ho => obtain rfl := Option.some.inj ho; cases hg; first | exact .inl rfl | exact .inr ⟨rfl, rfl⟩
          | 12, ho => obtain rfl := Option.some.inj ho; cases hg; first | exact .inl rfl | exact .inr ⟨rfl, rfl⟩
          | 13, ho => obtain rfl := Option.some.inj ho; cases hg; first | exact .inl rfl | exact .inr ⟨rfl, rfl⟩
          | 14, ho => obtain rfl := Option.some.inj ho; cases hg; first | exact .inl rfl | exact .inr ⟨rfl, rfl⟩
          | 15, ho => obtain rfl := Option.some.inj ho; cases hg; first | exact .inl rfl | exact .inr ⟨rfl, rfl⟩
          | 16, ho => obtain rfl := Option.some.inj ho; cases hg; first | exact .inl rfl | exact .inr ⟨rfl, rfl⟩
          | 17, ho => obtain rfl := Option.some.inj ho; cases hg; first | exact .inl rfl | exact .inr ⟨rfl, rfl⟩
          | 18, ho => obtain rfl := Option.some.inj ho; cases hg; first | exact .inl rfl | exact .inr ⟨rfl, rfl⟩
          | 19, ho => obtain rfl := Option.some.inj ho; cases hg; first | exact .inl rfl | exact .inr ⟨rfl, rfl⟩
          | 20, ho => obtain rfl := Option.some.inj ho; cases hg; first | exact .inl rfl | exact .inr ⟨rfl, rfl⟩
          | 21, ho => obtain rfl := Option.some.inj ho; cases hg
          | iK + 22, ho => cases ho
        · intro iK oK ho hgv a W hW hdf hin hout
          subst hVS
          match iK, ho with
          | 0, ho =>
            obtain rfl := Option.some.inj ho
            have s1 : a.tmps.getD 1 undef = .slice (some ⟨b, off, none⟩) N c := hout 1 (noDst_spec (by kernel_rfl))
            refine .inl ⟨.slice (some ⟨b, off, none⟩) N c, W, ?_, Below.refl _ _, rfl⟩
            go_simp
          | 1, ho =>
            obtain rfl := Option.some.inj ho
            have s5 : a.tmps.getD 5 undef = .int .i64 (k : Int) := hout 5 (noDst_spec (by kernel_rfl))
            refine .inl ⟨.int .i64 (k : Int), W, ?_, Below.refl _ _, rfl⟩
            go_simp
          | 2, ho =>
            obtain rfl := Option.some.inj ho
            have e1 : a.tmps.getD 48 undef = .int .i64 (k : Int) := hin 1 48 rfl (by kernel_rfl)
            refine .inl ⟨.int .i64 (t : Int), W, ?_, Below.refl _ _, rfl⟩
            go_simp
          | 3, ho =>
            obtain rfl := Option.some.inj ho
            have e0 : a.tmps.getD 47 undef = .slice (some ⟨b, off, none⟩) N c := hin 0 47 rfl (by kernel_rfl)
            have e2 : a.tmps.getD 49 undef = .int .i64 (t : Int) := hin 2 49 rfl (by kernel_rfl)
            refine .inl ⟨.pointer (some ⟨b, off + t, none⟩), W, ?_, Below.refl _ _, rfl⟩
            go_simp
          | 4, ho =>
            obtain rfl := Option.some.inj ho
            have e3 : a.tmps.getD 50 undef = .pointer (some ⟨b, off + t, none⟩) := hin 3 50 rfl (by kernel_rfl)
            have q0 : W.cell? ⟨b, off + t, none⟩ = some (.slice At 1 ct) := (hW.cell (p := ⟨b, off + t, none⟩) hbr).trans hqt
            refine .inl ⟨.slice At 1 ct, W, ?_, Below.refl _ _, rfl⟩
            go_simp
          | 5, ho =>
            obtain rfl := Option.some.inj ho
            have e4 : a.tmps.getD 51 undef = .slice At 1 ct := hin 4 51 rfl (by kernel_rfl)
            refine .inl ⟨.int .i64 1, W, ?_, Below.refl _ _, rfl⟩
            go_simp
          | 6, ho =>
            obtain rfl := Option.some.inj ho
            have e5 : a.tmps.getD 52 undef = .int .i64 1 := hin 5 52 rfl (by kernel_rfl)
            refine .inl ⟨.bool true, W, ?_, Below.refl _ _, rfl⟩
            go_simp
          | 7, ho =>
            obtain rfl := Option.some.inj ho
            have e6 : a.tmps.getD 53 undef = .bool true := hin 6 53 rfl (by kernel_rfl)
            refine .inl ⟨.bool true, W, ?_, Below.refl _ _, rfl⟩
            go_simp
          | 8, ho =>
            obtain rfl := Option.some.inj ho
            exact absurd (hgv 7 false rfl) (by intro h; cases h)
          | 9, ho =>
            obtain rfl := Option.some.inj ho
            exact absurd (hgv 7 false rfl) (by intro h; cases h)
          | 10, ho =>
            obtain rfl := Option.some.inj ho
            exact absurd (hgv 7 false rfl) (by intro h; cases h)
          | 11, ho =>
            obtain rfl := Option.some.inj ho
            exact absurd (hgv 7 false rfl) (by intro h; cases h)
          | 12, ho =>
            obtain rfl := Option.some.inj ho
            exact absurd (hgv 7 false rfl) (by intro h; cases h)
          | 13, ho =>
            obtain rfl := Option.some.inj ho
            exact absurd (hgv 7 false rfl) (by intro h; cases h)
          | 14, ho =>
            obtain rfl := Option.some.inj ho
            exact absurd (hgv 7 false rfl) (by intro h; cases h)
          | 15, ho =>
            obtain rfl := Option.some.inj ho
            exact absurd (hgv 7 false rfl) (by intro h; cases h)
          | 16, ho =>
            obtain rfl := Option.some.inj ho
            exact absurd (hgv 7 false rfl) (by intro h; cases h)
          | 17, ho =>
            obtain rfl := Option.some.inj ho
            exact absurd (hgv 7 false rfl) (by intro h; cases h)
          | 18, ho =>
            obtain rfl := Option.some.inj ho
            exact absurd (hgv 7 false rfl) (by intro h; cases h)
          | 19, ho =>
            obtain rfl := Option.some.inj ho
            exact absurd (hgv 7 false rfl) (by intro h; cases h)
          | 20, ho =>
            obtain rfl := Option.some.inj ho
            exact absurd (hgv 7 false rfl) (by intro h; cases h)
          | 21, ho =>
            obtain rfl := Option.some.inj ho
            have e7 : a.tmps.getD 54 undef = .bool true := hin 7 54 rfl (by kernel_rfl)
            have e20 : a.tmps.getD 67 undef = undef := hin 20 67 rfl (by kernel_rfl)
            refine .inl ⟨.bool true, W, ?_, Below.refl _ _, rfl⟩
            go_simp
          | iK + 22, ho => cases ho
        intro W1 hW1
        subst hVS
        simp only [putAll, Act.put, List.setIfInBounds_toArray, List.set_cons_zero, List.set_cons_succ]
        go_wp2
        go_ret
        exact ⟨false, rfl, by
          constructor
          · intro e; cases e
          · intro ha; exact absurd rfl (HNBx.out ha).1, hBe.trans (hW1.mono hBe.size)⟩
      · have hne1 : ((nt : Int) == 1) = false := by rw [beq_eq_false_iff_ne]; omega
        have hne1' : ¬ (nt : Int) = 1 := by omega
        go_wp2
        refine wp_region_og (fun k' v W => if k' = 18 then (∃ A9 c9, v = .slice A9 PP.length c9 ∧ Sl W A9 PP) else v = ([.slice (some ⟨b, off, none⟩) N c, .int .i64 (k : Int), .int .i64 (t : Int), .pointer (some ⟨b, off + t, none⟩), .slice At nt ct, .int .i64 (nt : Int), .bool false, .bool false, .slice (some ⟨b, off, none⟩) N c, .int .i64 (k : Int), .pointer (some ⟨b, off + k, none⟩), .slice Ak nk ck, .int .i64 op, .slice (some ⟨b, off, none⟩) N c, .int .i64 (k : Int), .int .i64 (t : Int), .pointer (some ⟨b, off + t, none⟩), .slice At nt ct, undef, .bool eq, .bool (!eq), .bool (!eq)] : List Value).getD k' undef) (by kernel_rfl) (by kernel_rfl) ?_ ?_ ?_ ?_
        · intro k' v W W' hR hb'
          by_cases e18 : k' = 18
          · rw [if_pos e18] at hR ⊢
            obtain ⟨A9, c9, e, h9⟩ := hR
            exact ⟨A9, c9, e, h9.step hb'⟩
          · rw [if_neg e18] at hR ⊢
            exact hR
        · intro iK oK jK bK ho hg v W hR
          match iK, ho with
          | 0, ho => obtain rfl := Option.some.inj ho; cases hg
          | 1, ho => obtain rfl := Option.some.inj ho; cases hg
          | 2, ho => obtain rfl := Option.some.inj ho; cases hg
          | 3, ho => obtain rfl := Option.some.inj ho; cases hg
          | 4, ho => obtain rfl := Option.some.inj ho; cases hg
          | 5, ho => obtain rfl := Option.some.inj ho; cases hg
          | 6, ho => obtain rfl := Option.some.inj ho; cases hg
          | 7, ho => obtain rfl := Option.some.inj ho; cases hg
          | 8, ho => obtain rfl := Option.some.inj ho; cases hg; exact .inl hR
          | 9, ho => obtain rfl := Option.some.inj ho; cases hg; exact .inl hR
          | 10, ho => obtain rfl := Option.some.inj ho; cases hg; exact .inl hR
          | 11, ho => obtain rfl := Option.some.inj ho; cases hg; exact .inl hR
          | 12, ho => obtain rfl := Option.some.inj ho; cases hg; exact .inl hR
          | 13, ho => obtain rfl := Option.some.inj ho; cases hg; exact .inl hR
          | 14, ho => obtain rfl := Option.some.inj ho; cases hg; exact .inl hR
          | 15, ho => obtain rfl := Option.some.inj ho; cases hg; exact .inl hR
          | 16, ho => obtain rfl := Option.some.inj ho; cases hg; exact .inl hR
          | 17, ho => obtain rfl := Option.some.inj ho; cases hg; exact .inl hR
          | 18, ho => obtain rfl := Option.some.inj ho; cases hg; exact .inl hR
          | 19, ho => obtain rfl := Option.some.inj ho; cases hg; exact .inl hR
          | 20, ho => obtain rfl := Option.some.inj ho; cases hg; exact .inl hR
          | 21, ho => obtain rfl := Option.some.inj ho; cases hg
          | iK + 22, ho => cases ho
        · intro iK oK ho hgv a W hW hdf hin hout
          match iK, ho with
          | 0, ho =>
            obtain rfl := Option.some.inj ho
            have s1 : a.tmps.getD 1 undef = .slice (some ⟨b, off, none⟩) N c := hout 1 (noDst_spec (by kernel_rfl))
            refine .inl ⟨.slice (some ⟨b, off, none⟩) N c, W, ?_, Below.refl _ _, rfl⟩
            go_simp
          | 1, ho =>
            obtain rfl := Option.some.inj ho
            have s5 : a.tmps.getD 5 undef = .int .i64 (k : Int) := hout 5 (noDst_spec (by kernel_rfl))
            refine .inl ⟨.int .i64 (k : Int), W, ?_, Below.refl _ _, rfl⟩
            go_simp
          | 2, ho =>
            obtain rfl := Option.some.inj ho
            have e1 : a.tmps.getD 48 undef = .int .i64 (k : Int) := hin 1 48 rfl (by kernel_rfl)
            refine .inl ⟨.int .i64 (t : Int), W, ?_, Below.refl _ _, rfl⟩
            go_simp
          | 3, ho =>
            obtain rfl := Option.some.inj ho
            have e0 : a.tmps.getD 47 undef = .slice (some ⟨b, off, none⟩) N c := hin 0 47 rfl (by kernel_rfl)
            have e2 : a.tmps.getD 49 undef = .int .i64 (t : Int) := hin 2 49 rfl (by kernel_rfl)
            refine .inl ⟨.pointer (some ⟨b, off + t, none⟩), W, ?_, Below.refl _ _, rfl⟩
            go_simp
          | 4, ho =>
            obtain rfl := Option.some.inj ho
            have e3 : a.tmps.getD 50 undef = .pointer (some ⟨b, off + t, none⟩) := hin 3 50 rfl (by kernel_rfl)
            have q0 : W.cell? ⟨b, off + t, none⟩ = some (.slice At nt ct) := (hW.cell (p := ⟨b, off + t, none⟩) hbr).trans hqt
            refine .inl ⟨.slice At nt ct, W, ?_, Below.refl _ _, rfl⟩
            go_simp
          | 5, ho =>
            obtain rfl := Option.some.inj ho
            have e4 : a.tmps.getD 51 undef = .slice At nt ct := hin 4 51 rfl (by kernel_rfl)
            refine .inl ⟨.int .i64 (nt : Int), W, ?_, Below.refl _ _, rfl⟩
            go_simp
          | 6, ho =>
            obtain rfl := Option.some.inj ho
            have e5 : a.tmps.getD 52 undef = .int .i64 (nt : Int) := hin 5 52 rfl (by kernel_rfl)
            refine .inl ⟨.bool false, W, ?_, Below.refl _ _, rfl⟩
            go_simp
          | 7, ho =>
            obtain rfl := Option.some.inj ho
            have e6 : a.tmps.getD 53 undef = .bool false := hin 6 53 rfl (by kernel_rfl)
            refine .inl ⟨.bool false, W, ?_, Below.refl _ _, rfl⟩
            go_simp
          | 8, ho =>
            obtain rfl := Option.some.inj ho
            have s1 : a.tmps.getD 1 undef = .slice (some ⟨b, off, none⟩) N c := hout 1 (noDst_spec (by kernel_rfl))
            refine .inl ⟨.slice (some ⟨b, off, none⟩) N c, W, ?_, Below.refl _ _, rfl⟩
            go_simp
          | 9, ho =>
            obtain rfl := Option.some.inj ho
            have s5 : a.tmps.getD 5 undef = .int .i64 (k : Int) := hout 5 (noDst_spec (by kernel_rfl))
            refine .inl ⟨.int .i64 (k : Int), W, ?_, Below.refl _ _, rfl⟩
            go_simp
          | 10, ho =>
            obtain rfl := Option.some.inj ho
            have e8 : a.tmps.getD 55 undef = .slice (some ⟨b, off, none⟩) N c := hin 8 55 rfl (by kernel_rfl)
            have e9 : a.tmps.getD 56 undef = .int .i64 (k : Int) := hin 9 56 rfl (by kernel_rfl)
            refine .inl ⟨.pointer (some ⟨b, off + k, none⟩), W, ?_, Below.refl _ _, rfl⟩
            go_simp
          | 11, ho =>
            obtain rfl := Option.some.inj ho
            have e10 : a.tmps.getD 57 undef = .pointer (some ⟨b, off + k, none⟩) := hin 10 57 rfl (by kernel_rfl)
            have q0 : W.cell? ⟨b, off + k, none⟩ = some (.slice Ak nk ck) := (hW.cell (p := ⟨b, off + k, none⟩) hbr).trans hqk
            refine .inl ⟨.slice Ak nk ck, W, ?_, Below.refl _ _, rfl⟩
            go_simp
          | 12, ho =>
            obtain rfl := Option.some.inj ho
            have s0 : a.tmps.getD 0 undef = .int .i64 op := hout 0 (noDst_spec (by kernel_rfl))
            refine .inl ⟨.int .i64 op, W, ?_, Below.refl _ _, rfl⟩
            go_simp
          | 13, ho =>
            obtain rfl := Option.some.inj ho
            have s1 : a.tmps.getD 1 undef = .slice (some ⟨b, off, none⟩) N c := hout 1 (noDst_spec (by kernel_rfl))
            refine .inl ⟨.slice (some ⟨b, off, none⟩) N c, W, ?_, Below.refl _ _, rfl⟩
            go_simp
          | 14, ho =>
            obtain rfl := Option.some.inj ho
            have s5 : a.tmps.getD 5 undef = .int .i64 (k : Int) := hout 5 (noDst_spec (by kernel_rfl))
            refine .inl ⟨.int .i64 (k : Int), W, ?_, Below.refl _ _, rfl⟩
            go_simp
          | 15, ho =>
            obtain rfl := Option.some.inj ho
            have e14 : a.tmps.getD 61 undef = .int .i64 (k : Int) := hin 14 61 rfl (by kernel_rfl)
            refine .inl ⟨.int .i64 (t : Int), W, ?_, Below.refl _ _, rfl⟩
            go_simp
          | 16, ho =>
            obtain rfl := Option.some.inj ho
            have e13 : a.tmps.getD 60 undef = .slice (some ⟨b, off, none⟩) N c := hin 13 60 rfl (by kernel_rfl)
            have e15 : a.tmps.getD 62 undef = .int .i64 (t : Int) := hin 15 62 rfl (by kernel_rfl)
            refine .inl ⟨.pointer (some ⟨b, off + t, none⟩), W, ?_, Below.refl _ _, rfl⟩
            go_simp
          | 17, ho =>
            obtain rfl := Option.some.inj ho
            have e16 : a.tmps.getD 63 undef = .pointer (some ⟨b, off + t, none⟩) := hin 16 63 rfl (by kernel_rfl)
            have q0 : W.cell? ⟨b, off + t, none⟩ = some (.slice At nt ct) := (hW.cell (p := ⟨b, off + t, none⟩) hbr).trans hqt
            refine .inl ⟨.slice At nt ct, W, ?_, Below.refl _ _, rfl⟩
            go_simp
          | 18, ho =>
            obtain rfl := Option.some.inj ho
            have e12 : a.tmps.getD 59 undef = .int .i64 op := hin 12 59 rfl (by kernel_rfl)
            have e17 : a.tmps.getD 64 undef = .slice At nt ct := hin 17 64 rfl (by kernel_rfl)
            refine .inr ⟨58, #[.int .i64 op, .slice At nt ct], W, ?_, ?_⟩
            · go_simp
            · refine (CH.out W (hst.step hW)).mono ?_
              rintro e W' ⟨A9, c9, rfl, hc9, hs9, hB9⟩
              exact ⟨_, rfl, hB9, ⟨A9, c9, rfl, hs9⟩⟩
          | 19, ho =>
            obtain rfl := Option.some.inj ho
            have e11 : a.tmps.getD 58 undef = .slice Ak nk ck := hin 11 58 rfl (by kernel_rfl)
            obtain ⟨A9, c9, e18, h18⟩ : ∃ A9 c9, a.tmps.getD 65 undef = .slice A9 PP.length c9 ∧ Sl W A9 PP := hin 18 65 rfl (by kernel_rfl)
            refine .inr ⟨13, #[.slice Ak nk ck, .slice A9 PP.length c9], W, ?_, ?_⟩
            · go_simp
            · refine (CE.out A9 c9 W (hsk.step hW) h18).mono ?_
              rintro e W' ⟨rfl, m, rfl⟩
              exact ⟨_, rfl, below_drewN' W m, rfl⟩
          | 20, ho =>
            obtain rfl := Option.some.inj ho
            have e19 : a.tmps.getD 66 undef = .bool eq := hin 19 66 rfl (by kernel_rfl)
            refine .inl ⟨.bool (!eq), W, ?_, Below.refl _ _, rfl⟩
            go_simp
          | 21, ho =>
            obtain rfl := Option.some.inj ho
            have e7 : a.tmps.getD 54 undef = .bool false := hin 7 54 rfl (by kernel_rfl)
            have e20 : a.tmps.getD 67 undef = .bool (!eq) := hin 20 67 rfl (by kernel_rfl)
            refine .inl ⟨.bool (!eq), W, ?_, Below.refl _ _, rfl⟩
            go_simp
          | iK + 22, ho => cases ho
        intro a' W1 hW1 hnear hfar htsz hdf
        obtain ⟨A9, c9, e18, h18⟩ : ∃ A9 c9, a'.tmps.getD 65 undef = .slice A9 PP.length c9 ∧ Sl W1 A9 PP := hnear 18 65 rfl
        have ea := frame_eqB [.slice (some ⟨b, off, none⟩) N c, .int .i64 (k : Int), .int .i64 (t : Int), .pointer (some ⟨b, off + t, none⟩), .slice At nt ct, .int .i64 (nt : Int), .bool false, .bool false, .slice (some ⟨b, off, none⟩) N c, .int .i64 (k : Int), .pointer (some ⟨b, off + k, none⟩), .slice Ak nk ck, .int .i64 op, .slice (some ⟨b, off, none⟩) N c, .int .i64 (k : Int), .int .i64 (t : Int), .pointer (some ⟨b, off + t, none⟩), .slice At nt ct, .slice A9 PP.length c9, .bool eq, .bool (!eq), .bool (!eq)] (by kernel_rfl) rfl (fun j t' hj => by
          match j, hj with
          | 0, hj => obtain rfl := Option.some.inj hj; exact hnear 0 _ rfl
          | 1, hj => obtain rfl := Option.some.inj hj; exact hnear 1 _ rfl
          | 2, hj => obtain rfl := Option.some.inj hj; exact hnear 2 _ rfl
          | 3, hj => obtain rfl := Option.some.inj hj; exact hnear 3 _ rfl
          | 4, hj => obtain rfl := Option.some.inj hj; exact hnear 4 _ rfl
          | 5, hj => obtain rfl := Option.some.inj hj; exact hnear 5 _ rfl
          | 6, hj => obtain rfl := Option.some.inj hj; exact hnear 6 _ rfl
          | 7, hj => obtain rfl := Option.some.inj hj; exact hnear 7 _ rfl
          | 8, hj => obtain rfl := Option.some.inj hj; exact hnear 8 _ rfl
          | 9, hj => obtain rfl := Option.some.inj hj; exact hnear 9 _ rfl
          | 10, hj => obtain rfl := Option.some.inj hj; exact hnear 10 _ rfl
          | 11, hj => obtain rfl := Option.some.inj hj; exact hnear 11 _ rfl
          | 12, hj => obtain rfl := Option.some.inj hj; exact hnear 12 _ rfl
          | 13, hj => obtain rfl := Option.some.inj hj; exact hnear 13 _ rfl
          | 14, hj => obtain rfl := Option.some.inj hj; exact hnear 14 _ rfl
          | 15, hj => obtain rfl := Option.some.inj hj; exact hnear 15 _ rfl
          | 16, hj => obtain rfl := Option.some.inj hj; exact hnear 16 _ rfl
          | 17, hj => obtain rfl := Option.some.inj hj; exact hnear 17 _ rfl
          | 18, hj => obtain rfl := Option.some.inj hj; exact e18
          | 19, hj => obtain rfl := Option.some.inj hj; exact hnear 19 _ rfl
          | 20, hj => obtain rfl := Option.some.inj hj; exact hnear 20 _ rfl
          | 21, hj => obtain rfl := Option.some.inj hj; exact hnear 21 _ rfl
          | j + 22, hj => cases hj
          ) hfar htsz hdf
        clear hnear hfar htsz hdf e18 h18
        subst ea
        simp only [putAll, Act.put, List.setIfInBounds_toArray, List.set_cons_zero, List.set_cons_succ]
        have hBe := hBr.trans (hW1.mono hBr.size)
        cases eq with
        | false =>
          go_wp2
          go_ret
          exact ⟨false, rfl, by
            constructor
            · intro e; cases e
            · intro ha
              have h2 := HEQ.out
              rw [decide_eq_false_iff_not] at h2
              exact absurd (HNBx.out ha).2 h2, hBe⟩
        | true =>
          have HQ2 := Lib.hid (HNX.out (by simpa using HEQ.out))
          go_wp2
          go_roundw
          case rel => exact ⟨k + 1, by omega, by omega, by go_num, HQ2, hBe⟩
          case measure => simp [intOf]; omega
    · obtain rfl : k = N := by omega
      have hTR : AreLv (doN op) (neN op) L := by
        obtain ⟨d, hd⟩ := (powB_iff n0).1 HPW.out
        have hd20 : d ≤ 20 := by
          apply Classical.byContradiction
          intro hc'
          have : 2 ^ 21 ≤ 2 ^ d := Nat.pow_le_pow_right (by omega) (by omega)
          omega
        exact areLv_all HMl.out (HN0.out.trans hd) hd20 HLS.out (fun j hj => HALL.out j (by rw [HN.out] at hj; exact hj)) HNM.out
      have HTR := Lib.hid hTR
      clear hTR HALL
      go_wp2
      go_ret
      exact ⟨true, rfl, by simpa using HTR.out, hBr⟩
end Go.Proofs.YtecpanppnljkhaaGreatDoor

namespace Go.Proofs.YtecpanppnljkhaaGreatDoor
set_option linter.unusedVariables false
set_option maxRecDepth 100000
open Go.RowKit Go.Shelf
/-- What stands after q levels, from the last but one down. -/
def stQ (f : Int → Int → Int) (x : Int) (L : List (List Int)) (d q : Nat) : List Int := stF f x L (((List.finRange d).reverse).take q)
theorem stQ_zero (f : Int → Int → Int) (x : Int) (L : List (List Int)) (d : Nat) : stQ f x L d 0 = [x] := rfl
theorem stQ_len (f : Int → Int → Int) (x : Int) (L : List (List Int)) (d q : Nat) (h : q ≤ d) : (stQ f x L d q).length = 2 ^ q := by
  unfold stQ
  rw [stF_len, List.length_take, List.length_reverse, List.length_finRange, Nat.min_eq_left h]
theorem stQ_succ (f : Int → Int → Int) (x : Int) (L : List (List Int)) (d q : Nat) (h : q < d) : stQ f x L d (q + 1) = dsK f (nthL L (d - 1 - q)) (stQ f x L d q) (2 ^ q) := by
  have hl : q < ((List.finRange d).reverse).length := by simpa using h
  have ht : ((List.finRange d).reverse).take (q + 1) = ((List.finRange d).reverse).take q ++ [⟨d - 1 - q, by omega⟩] := by
    rw [List.take_succ_eq_append_getElem hl]
    congr 1
    simp only [List.getElem_reverse, List.getElem_finRange, List.length_finRange]
    rfl
  unfold stQ
  rw [ht, stF_snoc]
  have := stQ_len f x L d q (by omega)
  unfold stQ at this
  rw [this]
theorem stQ_all (f : Int → Int → Int) (x : Int) (L : List (List Int)) (d : Nat) : stQ f x L d d = dnL f x L d := by
  unfold stQ dnL
  rw [List.take_of_length_le (by simp)]
theorem ds_word {f : Int → Int → Int} {x : Int} (M : Mon f x) {lev st : List Int} (h : Wds lev) (h' : Wds st) : ∀ k, Wds (dsK f lev st k)
  | 0 => fun j hj => by simp [dsK] at hj
  | k + 1 => fun j hj => by
    have e : dsK f lev st (k + 1) = dsK f lev st k ++ [nth st k, f (nth st k) (nth lev (2 * k))] := rfl
    rw [e] at hj ⊢
    rw [List.length_append] at hj
    by_cases h1 : j < (dsK f lev st k).length
    · rw [nth_app_lt _ _ _ h1]; exact ds_word M h h' k j h1
    · rw [nth_app_ge _ _ _ (by omega)]
      simp at hj
      obtain ⟨i, hi⟩ : ∃ i, j - (dsK f lev st k).length = i := ⟨_, rfl⟩
      rw [hi]
      match i, (show i < 2 by omega) with
      | 0, _ => exact h'.at k
      | 1, _ => exact M.word _ _ (h'.at k) (h.at _)
theorem stQ_word {f : Int → Int → Int} {x : Int} (M : Mon f x) {L : List (List Int)} (hL : ∀ j, Wds (nthL L j)) (d : Nat) : ∀ q, q ≤ d → Wds (stQ f x L d q)
  | 0, _ => fun j hj => by
    rw [stQ_zero] at hj ⊢
    simp at hj
    subst hj
    exact M.one
  | q + 1, h => by
    rw [stQ_succ f x L d q (by omega)]
    exact ds_word M (hL _) (stQ_word M hL d q (by omega)) _
theorem cell_two_newZ (w : World) (x y : Value) (t : TypeId) : ∀ j u, [x, y][j]? = some u → (w.alloc (.cells #[x, y] t)).cell? ((⟨w.heap.size, 0, none⟩ : Addr).add j) = some u := by
  intro j u h
  have hb : Blk (w.alloc (.cells #[x, y] t)) w.heap.size t #[x, y] := Blk.new w t _
  have := hb.cell j
  have e : ((⟨w.heap.size, 0, none⟩ : Addr).add j) = ⟨w.heap.size, j, none⟩ := by
    unfold Addr.add
    split
    · rename_i hj; subst hj; rfl
    · simp
  rw [e, this]
  simpa using h
theorem rdown_err1 (op : Int) (m : Int) (A : Option Addr) (c n : Nat) (w : World) (hne : neE op ≠ 0) :
    Calls Tryz.prog 23 #[.int .i64 op, .slice A n c, .int .i64 m] w fun e w' => e = .returned (.tuple #[.slice none 0 0, .int .i64 (neE op)]) ∧ Below w.heap.size w w' := by
  have C1 := rneutral_any op w
  have hd : (neE op != 0) = true := by rw [bne_iff_ne]; exact hne
  obtain ⟨y, hy⟩ : ∃ y, neE op = y := ⟨_, rfl⟩
  rw [hy] at C1 hd ⊢
  have C1 := Lib.hid C1
  clear hy hne
  go_enter Tryz.func23, Tryz.ntmps23
  go_wp2_with fail
  refine C1.out.mono ?_
  rintro e w1 ⟨rfl, hB⟩
  go_wp2
  go_ret2
  exact ⟨rfl, hB⟩
theorem rdown_err2 (op m : Int) (A : Option Addr) (c : Nat) (L : List (List Int)) (w : World) (h : Sll w A L) (hn : L.length ≤ 9223372036854775807) (hs : AllShort L) (hne : neE op = 0) (hA : ¬ AreLv (doN op) (neN op) L) :
    Calls Tryz.prog 23 #[.int .i64 op, .slice A L.length c, .int .i64 m] w fun e w' => e = .returned (.tuple #[.slice none 0 0, .int .i64 8]) ∧ Below w.heap.size w w' := by
  have C1 := rneutral_any op w
  rw [hne] at C1
  have C2 := fun W hW => rarelv_any (neE_aB hne) A c L W hW hn hs
  have HA := Lib.hid hA
  have C1 := Lib.hid C1
  have C2 := Lib.hid C2
  clear hA
  go_enter Tryz.func23, Tryz.ntmps23
  go_wp2_with fail
  refine C1.out.mono ?_
  rintro e w1 ⟨rfl, hB⟩
  go_wp2_with fail
  refine (C2.out _ (h.step hB)).mono ?_
  rintro e w2 ⟨b, rfl, hb, hBx⟩
  have hbf : b = false := by
    cases b with
    | false => rfl
    | true => exact absurd (hb.1 rfl) HA.out
  subst hbf
  have hBe := hB.trans (hBx.mono hB.size)
  clear hb C2 C1
  go_wp2
  go_ret2
  exact ⟨rfl, hBe⟩
theorem rdown_err3 (op m : Int) (A : Option Addr) (c : Nat) (L : List (List Int)) (w : World) (h : Sll w A L) (hn : L.length ≤ 9223372036854775807) (hs : AllShort L) (hne : neE op = 0) (h0 : L ≠ []) (hA : AreLv (doN op) (neN op) L) (hm : m < 0 ∨ ((nthL L 0).length : Int) < m) :
    Calls Tryz.prog 23 #[.int .i64 op, .slice A L.length c, .int .i64 m] w fun e w' => e = .returned (.tuple #[.slice none 0 0, .int .i64 2]) ∧ Below w.heap.size w w' := by
  have C1 := fun W => rneutral_any op W
  simp only [hne] at C1
  have C2 := fun W hW => rarelv_any (neE_aB hne) A c L W hW hn hs
  have HA := Lib.hid hA
  have C1 := Lib.hid C1
  have C2 := Lib.hid C2
  have hh := h
  obtain ⟨b, off, rfl, hb, hcells⟩ := h (List.length_pos_iff.2 h0)
  obtain ⟨A0, c0, hq0, hc0, hs0⟩ := hcells 0 (List.length_pos_iff.2 h0)
  rw [Nat.add_zero] at hq0
  have hpos : (0 : Int) < (L.length : Int) := by have := List.length_pos_iff.2 h0; omega
  obtain ⟨n0, hn0⟩ : ∃ n, (nthL L 0).length = n := ⟨_, rfl⟩
  rw [hn0] at hq0 hm
  have CLI := fun W => lies_any m 0 (n0 : Int) W
  rw [decide_eq_false (by omega : ¬ (0 ≤ m ∧ m ≤ (n0 : Int)))] at CLI
  have CLI := Lib.hid CLI
  clear hm hn0 hcells hA hs0
  go_enter Tryz.func23, Tryz.ntmps23
  go_wp2_with fail
  refine (C1.out _).mono ?_
  rintro e w1 ⟨rfl, hB⟩
  go_wp2_with fail
  refine (C2.out _ (hh.step hB)).mono ?_
  rintro e w2 ⟨b', rfl, hb', hBx⟩
  have hbf : b' = true := hb'.2 HA.out
  subst hbf
  have hBe := hB.trans (hBx.mono hB.size)
  have hq0' := (hBe.cell (p := ⟨b, off, none⟩) hb).trans hq0
  clear hb' C2 hBx hB
  go_wp2_with fail
  refine (CLI.out _).mono ?_
  rintro e w' ⟨rfl, rfl⟩
  go_wp2
  go_ret2
  exact ⟨rfl, hBe⟩
set_option maxHeartbeats 8000000 in
theorem rdown_ok (op : Int) (d many : Nat) (A : Option Addr) (c : Nat) (L : List (List Int)) (w : World) (h : Sll w A L) (hn : L.length ≤ 9223372036854775807) (hs : AllShort L) (hne : neE op = 0) (h0 : L ≠ []) (hd : d ≤ 20) (hlv : L = lvs (doN op) (nthL L 0) d) (hL0 : (nthL L 0).length = 2 ^ d) (hw0 : lsE [nthL L 0] = 0) (hmany : many ≤ 2 ^ d) :
    Calls Tryz.prog 23 #[.int .i64 op, .slice A L.length c, .int .i64 (many : Int)] w fun e w' => ∃ A' c', e = .returned (.tuple #[.slice A' many c', .int .i64 0]) ∧ many ≤ c' ∧ Sl w' A' ((dnL (doN op) (neN op) L d).take many) ∧ Below w.heap.size w w' := by
  obtain ⟨i0, hi, hz0, hz1, hz2⟩ := info_parts int_info
  have hA : AreLv (doN op) (neN op) L := areLv_in h0 hL0 hd hw0 hlv
  have haB := neE_aB hne
  have HB := Lib.hid haB
  have HM := Lib.hid (mon_op haB)
  have hlen : L.length = d + 1 := by
    have := congrArg List.length hlv
    rw [lvs_len] at this
    exact this
  have hlk : ∀ k, k ≤ d → nthL L k = lvK (doN op) (nthL L 0) k := fun k hk => by
    have := congrArg (fun M => nthL M k) hlv
    simp only [lvs_nth (doN op) _ d k (by omega)] at this
    exact this
  have hW0 : Wds (nthL L 0) := fun j hj => (lsE_ok hw0).2 (nthL L 0) (by simp) j hj
  have HLW : Hid (∀ j, Wds (nthL L j)) := Lib.hid (fun j => by
    by_cases e : j ≤ d
    · rw [hlk j e]; exact lv_word HM.out hW0 j
    · intro i hi
      have hz : nthL L j = [] := by
        unfold nthL
        rw [List.getD_eq_getElem?_getD, List.getElem?_eq_none (by omega)]
        rfl
      rw [hz] at hi
      simp at hi)
  have HLL : Hid (∀ k, k ≤ d → (nthL L k).length = 2 ^ (d - k)) := Lib.hid (fun k hk => by rw [hlk k hk]; exact lv_length _ hL0 k hk)
  have HNX := hL0
  have C1 := fun W => rneutral_any op W
  simp only [hne] at C1
  have C2 := fun W hW => rarelv_any (neE_aB hne) A c L W hW hn hs
  have HA := Lib.hid hA
  have C1 := Lib.hid C1
  have C2 := Lib.hid C2
  have hh := h
  obtain ⟨b, off, rfl, hb, hcells⟩ := h (List.length_pos_iff.2 h0)
  obtain ⟨A0, c0, hq0, hc0, hs0⟩ := hcells 0 (List.length_pos_iff.2 h0)
  rw [Nat.add_zero] at hq0
  have hpos : (0 : Int) < (L.length : Int) := by have := List.length_pos_iff.2 h0; omega
  obtain ⟨n0, hn0⟩ : ∃ n, (nthL L 0).length = n := ⟨_, rfl⟩
  rw [hn0] at hq0 HNX
  have hbnd : 2 ^ d ≤ 2 ^ 20 := Nat.pow_le_pow_right (by omega) hd
  have CLI := fun W => lies_any (many : Int) 0 (n0 : Int) W
  rw [decide_eq_true (by omega : 0 ≤ (many : Int) ∧ (many : Int) ≤ (n0 : Int))] at CLI
  have CLI := Lib.hid CLI
  have HCL := Lib.hid hcells
  have HLEN := Lib.hid hlen
  have HMANY := Lib.hid hmany
  have HBND := Lib.hid hbnd
  obtain ⟨N, hN⟩ : ∃ N, L.length = N := ⟨_, rfl⟩
  have HN := Lib.hid hN
  rw [hN] at hn hpos ⊢
  simp only [hN] at C2
  have hNd : (N : Int) - 2 = (d : Int) - 1 := by omega
  have hNw : IntKind.i64.wrap ((d : Int) - 1) = (d : Int) - 1 := IntWalk.i64_in _ (by omega)
  clear hn0 hcells hA hs0 hlen hlk hW0 hlv hL0 hw0 hmany hbnd hN HNX haB
  go_enter Tryz.func23, Tryz.ntmps23
  go_wp2_with fail
  refine (C1.out _).mono ?_
  rintro e w1 ⟨rfl, hB⟩
  go_wp2_with fail
  refine (C2.out _ (hh.step hB)).mono ?_
  rintro e w2 ⟨b', rfl, hb', hBx⟩
  have hbf : b' = true := hb'.2 HA.out
  subst hbf
  have hBe := hB.trans (hBx.mono hB.size)
  have hq0' := (hBe.cell (p := ⟨b, off, none⟩) hb).trans hq0
  clear hb' C2 hBx hB
  go_wp2_with fail
  refine (CLI.out _).mono ?_
  rintro e w' ⟨rfl, rfl⟩
  go_wp2_with fail
  refine (C1.out _).mono ?_
  rintro e w3 ⟨rfl, hBx⟩
  have hB3 := hBe.trans (hBx.mono hBe.size)
  clear hBe hBx C1 CLI hq0'
  go_wp2
  clear hNd hNw
  go_loopw [12, 13] (fun v kk wr => ∃ (q P : Nat) (Av : Option Addr) (cv : Nat), q ≤ d ∧ Hid (P = 2 ^ q) ∧ kk = .int .i64 ((d : Int) - 1 - (q : Int)) ∧ v = .slice Av P cv ∧ P ≤ cv ∧ P ≤ 1048576 ∧ Sl wr Av (stQ (doN op) (neN op) L d q) ∧ Below w.heap.size w wr) (fun _ kk _ => (intOf kk + 1).toNat)
  case atStart =>
    refine ⟨0, 1, _, 1, Nat.zero_le _, Lib.hid rfl, by simp, rfl, Nat.le_refl _, by omega, ?_, hB3.alloc hB3.size _⟩
    rw [stQ_zero]
    exact sl_one (Blk.new w3 3 #[.int .i64 (neN op)])
  case round =>
    obtain ⟨q, P, Av, cv, hq, HP, rfl, rfl, hcv, hPb, hst, hBr⟩ := hrel
    rename World => wo
    by_cases hlt : q < d
    · obtain ⟨κ, hκ⟩ : ∃ κ, d - 1 - q = κ := ⟨_, rfl⟩
      have hki : (d : Int) - 1 - (q : Int) = (κ : Int) := by omega
      have HST := Lib.hid (stQ_succ (doN op) (neN op) L d q hlt)
      have HSL : Hid ((stQ (doN op) (neN op) L d q).length = P) := Lib.hid (by rw [stQ_len _ _ _ _ _ hq]; exact HP.out.symm)
      have HSW : Hid (Wds (stQ (doN op) (neN op) L d q)) := Lib.hid (stQ_word HM.out HLW.out d q hq)
      have hlevl : (nthL L κ).length = 2 * P := by
        rw [HLL.out κ (by omega), HP.out, show d - κ = q + 1 by omega, Nat.pow_succ]
        omega
      have hP2 : 2 * P ≤ 1048576 := by
        have h1 : 2 ^ (q + 1) ≤ 2 ^ d := Nat.pow_le_pow_right (by omega) (by omega)
        have h2 := HBND.out
        rw [HP.out]
        rw [Nat.pow_succ] at h1
        omega
      obtain ⟨Ak, ck, hqk, hck, hsk⟩ := HCL.out κ (by rw [HLEN.out]; omega)
      replace hqk := (hBr.cell (p := ⟨b, off + κ, none⟩) hb).trans hqk
      replace hsk := hsk.below hBr (Nat.le_refl _)
      obtain ⟨M2, hM2⟩ : ∃ M2, 2 * P = M2 := ⟨_, rfl⟩
      rw [hlevl, hM2] at hqk hck
      rw [hM2] at hlevl hP2
      have hdN : d + 1 = N := by rw [← HLEN.out]; exact HN.out
      have κ0 : (0 : Int) ≤ (κ : Int) := by omega
      have κ1 : (κ : Int) < (N : Int) := by omega
      have HLV := Lib.hid hlevl
      have HM2 := Lib.hid hM2
      rw [hκ] at HST
      obtain ⟨st, hstn⟩ : ∃ st, stQ (doN op) (neN op) L d q = st := ⟨_, rfl⟩
      obtain ⟨lev, hlevn⟩ : ∃ lev, nthL L κ = lev := ⟨_, rfl⟩
      have HVW : Hid (Wds lev) := Lib.hid (by rw [← hlevn]; exact HLW.out κ)
      rw [hstn] at HST HSL HSW hst
      rw [hlevn] at HST HLV hsk
      rw [← HP.out] at HST
      have hbr : b < wo.heap.size := Nat.lt_of_lt_of_le hb hBr.size
      rw [hki]
      have hκw : IntKind.i64.wrap ((κ : Int) - 1) = (κ : Int) - 1 := IntWalk.i64_in _ (by omega)
      have Hki := Lib.hid hki
      clear hκ hki hstn hlevn hlevl hM2 hdN
      go_wp2
      go_loopw [14, 15] (fun v i wr => ∃ j : Nat, j ≤ P ∧ i = .int .i64 j ∧ OwnI wr wo.heap.size v (dsK (doN op) lev st j) ∧ Below wo.heap.size wo wr) (fun _ i _ => P - (intOf i).toNat)
      case atStart => exact ⟨0, Nat.zero_le _, rfl, OwnI.empty wo _ (Nat.le_refl _), (Below.refl _ _).alloc (Nat.le_refl _) _⟩
      case round =>
        obtain ⟨j, hj, rfl, hown, hBs⟩ := hrel
        by_cases hjl : j < P
        · obtain ⟨b1, o1, rfl, hb1, hq1⟩ := hst.at_ (k := j) (by rw [HSL.out]; exact hjl)
          obtain ⟨b2, o2, rfl, hb2, hq2⟩ := hsk.at_ (k := 2 * j) (by rw [HLV.out]; have := HM2.out; omega)
          have HD := Lib.hid (show dsK (doN op) lev st (j + 1) = dsK (doN op) lev st j ++ [nth st j, doN op (nth st j) (nth lev (2 * j))] from rfl)
          have C3 := rval_as HB.out (HSW.out.at j) (HVW.out.at (2 * j))
          have hdl := dsK_len (doN op) lev st j
          obtain ⟨s, hs'⟩ : ∃ s, 2 * j = s := ⟨_, rfl⟩
          have hs2 : (2 : Int) * (j : Int) = (s : Int) := by omega
          have hsw : IntKind.i64.wrap (s : Int) = (s : Int) := IntWalk.i64_in _ (by omega)
          have hs3 : (0 : Int) ≤ (s : Int) := by omega
          have hs4 : (s : Int) < (M2 : Int) := by have := HM2.out; omega
          rw [hs'] at hq2 HD C3 hdl
          have HDL := Lib.hid hdl
          obtain ⟨x, hx⟩ : ∃ x, nth st j = x := ⟨_, rfl⟩
          obtain ⟨y, hy⟩ : ∃ y, nth lev s = y := ⟨_, rfl⟩
          rw [hx] at hq1 HD C3
          rw [hy] at hq2 HD C3
          obtain ⟨z, hz⟩ : ∃ z, doN op x y = z := ⟨_, rfl⟩
          rw [hz] at HD
          simp only [hz] at C3
          have C3 := Lib.hid C3
          obtain ⟨DS, hDS⟩ : ∃ D, dsK (doN op) lev st j = D := ⟨_, rfl⟩
          rw [hDS] at hown HD HDL
          obtain ⟨A14, c14, hv14, _, _⟩ := hown.form
          subst hv14
          have j0 : (0 : Int) ≤ (j : Int) := by omega
          have j1 : (j : Int) < (P : Int) := by omega
          have hDSl : DS.length ≤ 1048576 := by rw [HDL.out]; omega
          have LT : ∀ W', Below wr.heap.size wr W' → W'.cell? ⟨b1, o1 + j, none⟩ = some (.int .i64 x) ∧ W'.cell? ⟨b2, o2 + s, none⟩ = some (.int .i64 y) ∧ W'.cell? ⟨b, off + κ, none⟩ = some (.slice (some ⟨b2, o2, none⟩) M2 ck) := fun W' hW =>
            ⟨(hW.cell (p := ⟨b1, o1 + j, none⟩) (Nat.lt_of_lt_of_le hb1 hBs.size)).trans ((hBs.cell (p := ⟨b1, o1 + j, none⟩) hb1).trans hq1), (hW.cell (p := ⟨b2, o2 + s, none⟩) (Nat.lt_of_lt_of_le hb2 hBs.size)).trans ((hBs.cell (p := ⟨b2, o2 + s, none⟩) hb2).trans hq2), (hW.cell (p := ⟨b, off + κ, none⟩) (Nat.lt_of_lt_of_le hbr hBs.size)).trans ((hBs.cell (p := ⟨b, off + κ, none⟩) hbr).trans hqk)⟩
          clear hs' hx hy hz hDS hq1 hq2 hjl hdl hκw
          go_wp2
          refine wp_region_mix' (fun W' => Below wr.heap.size wr W') [false, false, false, false, false, false, false, false, false, false, false, false, false, false, false, false, false, false, true, true] (by kernel_rfl) (by kernel_rfl) (Below.refl _ _).drew ?_
          simp only [mixT, mixH, mixD]
          iterate 18 (refine wpLts_light ?_ (fun W' hW => ?_) ?_; rotate_left; (obtain ⟨p0, p1, p2⟩ := LT W' hW; go_simp; try with_reducible rfl); simp only [Act.put, List.setIfInBounds_toArray, List.set_cons_zero, List.set_cons_succ])
          iterate 2 (refine wpLts_heavy ?_)
          refine wpLts_nil ?_
          refine wpHvP_call 35 #[.int .i64 op, .int .i64 x, .int .i64 y] (by go_simp) ?_
          refine (C3.out _).mono ?_
          rintro e w13 ⟨rfl, hw13⟩
          have hBy : Below wr.heap.size wr w13 := by rw [← hw13]; exact (Below.refl _ wr).drew
          have hown3 := hown.drew
          rw [hw13] at hown3
          have hBr3 := hBs.trans (hBy.mono hBs.size)
          clear hw13 hown
          refine ⟨_, rfl, hBy, ?_⟩
          simp only [Act.put, List.setIfInBounds_toArray, List.set_cons_zero, List.set_cons_succ]
          refine wpHvP_value (.slice (some ⟨w13.heap.size, 0, none⟩) 2 2) (w13.alloc (.cells #[.int .i64 x, .int .i64 z] 3)) (by go_simp; try rfl) ⟨hBy.alloc hBy.size _, ?_⟩
          simp only [Act.put, List.setIfInBounds_toArray, List.set_cons_zero, List.set_cons_succ]
          refine wpHvP_nil ?_
          clear C3 LT hs2 hsw
          go_wp2_with (at_builtin; refine wpList_append_own _ rfl _ _ 22 rfl wo.heap.size 3 i0 (.int .i64 0) 1 8 Tryz.underlying22 hi hz0 hz1 hz2 rfl (by decide) _ _ _ rfl (hown3.alloc _) ⟨_, 0, none⟩ 2 2 [.int .i64 x, .int .i64 z] rfl rfl (cell_two_newZ _ _ _ _) (by simp [Value.oneCell']) (by unfold maxLen; omega) (by omega) (by have := hBr3.size; simp; omega) ?_; intro v' w2q hown' hgrow _; have hB2 := below_append hBr3 hBr3.size hown3 hgrow)
          have hown4 := OwnI.app (zs := DS) (ys := [x, z]) hown' rfl rfl
          rw [← HD.out] at hown4
          clear hown' hgrow
          go_roundw
          case rel => exact ⟨j + 1, by omega, by go_num, hown4, hB2⟩
          case measure => simp [intOf]; omega
        · obtain rfl : j = P := by omega
          rw [← HST.out] at hown
          obtain ⟨A9, c9, rfl, hc9, hs9⟩ := hown.form
          have hl9 : (stQ (doN op) (neN op) L d (q + 1)).length = M2 := by rw [stQ_len _ _ _ _ _ (by omega), ← HM2.out, HP.out, Nat.pow_succ]; omega
          rw [hl9] at hc9 ⊢
          have HP' : Hid (M2 = 2 ^ (q + 1)) := Lib.hid (by rw [← HM2.out, HP.out, Nat.pow_succ]; omega)
          have hBe := hBr.trans (hBs.mono hBr.size)
          have hkq : (κ : Int) - 1 = (d : Int) - 1 - ((q + 1 : Nat) : Int) := by have := Hki.out; omega
          have Hkq := Lib.hid hkq
          clear hl9 hkq
          go_wp2
          go_roundw
          case rel => exact ⟨q + 1, M2, A9, c9, by omega, HP', by rw [← Hkq.out], rfl, hc9, hP2, hs9, hBe⟩
          case measure => first | (simp [intOf]; done) | (simp [intOf]; have := Hki.out; omega)
    · obtain rfl : q = d := by omega
      have hk1 : (q : Int) - 1 - (q : Int) = -1 := by omega
      rw [hk1]
      have hSl : (stQ (doN op) (neN op) L q q).length = P := by rw [stQ_len _ _ _ _ _ hq]; exact HP.out.symm
      obtain ⟨B, hrun, hsB⟩ := slice_to Av cv many (stQ (doN op) (neN op) L q q) wo hst (by rw [hSl, HP.out]; exact HMANY.out) (by rw [hSl]; exact hcv)
      rw [hSl] at hrun
      rw [stQ_all] at hsB
      have hmc : many ≤ cv := Nat.le_trans (by rw [HP.out]; exact HMANY.out) hcv
      clear hk1 hSl
      go_wp2
      go_ret2
      exact ⟨B, cv, rfl, hmc, hsB, hBr⟩
end Go.Proofs.YtecpanppnljkhaaGreatDoor

namespace Go.Proofs.YtecpanppnljkhaaGreatDoor
set_option maxRecDepth 100000
set_option linter.unusedVariables false
open Go.ChangeShapes Go.WideShapes Go.ChangeAt Go.RowKit Go.Deep
theorem cells22 : Tryz.prog.cellsOf 22 = 1 := by kernel_rfl
theorem cell_lt {w : World} {a : Addr} {v : Value} (h : w.cell? a = some v) : a.block < w.heap.size := by
  apply Classical.byContradiction
  intro hn
  have : w.heap[a.block]? = none := Array.getElem?_eq_none (by omega)
  simp [World.cell?, this] at h
theorem addr_plain {w : World} {a : Addr} {v : Value} (h : w.cell? (a.add 0) = some v) : a.spot = none := by
  simpa [Addr.add] using World.cell?_spot h
theorem open_sll {H : Type} {enc : TypeId × Value → H} {W : World} {r : Reach} {b0 : Nat} {v : Value} {d : DataW H} {p : List MemPlace} (hval : Value.okWide Tryz.prog W r b0 33 v)
    (h : DataW.Trod enc Tryz.prog W 0 (fun _ => true) true 33 v d p) (hlt : ∀ x ∈ p, x.block < W.heap.size) :
    ∃ (A : Option Addr) (c : Nat) (zs : List (List Int)), v = .slice A zs.length c ∧ zs.length ≤ c ∧ c ≤ 9223372036854775807 ∧ Sll W A zs ∧ AllShort zs := by
  obtain ⟨a0, len, cap, rfl⟩ := okWide_slice Tryz.underlying33 hval
  obtain ⟨fuel, hf⟩ := h
  rcases open_int_rows Tryz.underlying33 Tryz.underlying22 Tryz.underlying3 cells22 cells3 hf with ⟨hcs, hx⟩ | ⟨a, len', cap', A, Ln, C, Z, hcs, hb, hl, hm, hx, hi⟩
  · simp [Value.cells] at hcs
    obtain ⟨rfl, rfl, rfl⟩ := hcs
    exact ⟨none, 0, [], rfl, Nat.le_refl _, by omega, fun hh => absurd hh (by simp), fun j hj => absurd hj (by simp)⟩
  · simp [Value.cells] at hcs
    obtain ⟨rfl, rfl, rfl⟩ := hcs
    have hlen : ((List.range len).map fun r => (Z r).take (Ln r)).length = len := by simp
    have hnth : ∀ j, j < len → nthL ((List.range len).map fun r => (Z r).take (Ln r)) j = (Z j).take (Ln j) := fun j hj => by
      rw [nthL_eq _ _ (by rw [hlen]; exact hj)]; simp
    have hnl : ∀ j, j < len → ((Z j).take (Ln j)).length = Ln j := fun j hj => by
      obtain ⟨_, h2, _, h4, _⟩ := hi j (by omega)
      rw [List.length_take]; omega
    refine ⟨some a, cap, (List.range len).map fun r => (Z r).take (Ln r), by rw [hlen], by rw [hlen]; exact hl, by simpa [maxLen] using hm, fun h0 => ?_, fun j hj => ?_⟩
    · rw [hlen] at h0
      have c0 := (hi 0 (by omega)).1
      obtain ⟨b, off, spot⟩ := a
      have hsp : spot = none := addr_plain c0
      subst hsp
      refine ⟨b, off, rfl, ?_, fun j hj => ?_⟩
      · have := cell_lt c0
        rw [add_plain] at this
        exact this
      · rw [hlen] at hj
        obtain ⟨h1, h2, h3, h4, h5, h6, h7⟩ := hi j (by omega)
        rw [add_plain] at h1
        rw [hnth j hj, hnl j hj]
        refine ⟨A j, C j, h1, h2, fun hpos => ?_⟩
        rw [hnl j hj] at hpos
        cases hA : A j with
        | none => have := h6 hA; omega
        | some a' =>
          have h8 := (h7 a' hA).2
          have c1 := h8 0 (by omega)
          obtain ⟨b', off', spot'⟩ := a'
          have hsp : spot' = none := addr_plain c1
          subst hsp
          refine ⟨b', off', rfl, ?_, fun i hi' => ?_⟩
          · have := cell_lt c1
            rw [add_plain] at this
            exact this
          · rw [hnl j hj] at hi'
            have := h8 i (by omega)
            rw [add_plain] at this
            have e : nth ((Z j).take (Ln j)) i = (Z j).getD i 0 := by
              unfold nth
              rw [List.getD_eq_getElem?_getD, List.getElem?_take, if_pos hi', ← List.getD_eq_getElem?_getD]
            rw [this, e]
    · rw [hlen] at hj
      obtain ⟨h1, h2, h3, _⟩ := hi j (by omega)
      rw [hnth j hj, hnl j hj]
      have : C j ≤ 9223372036854775807 := by simpa [maxLen] using h3
      omega
end Go.Proofs.YtecpanppnljkhaaGreatDoor
