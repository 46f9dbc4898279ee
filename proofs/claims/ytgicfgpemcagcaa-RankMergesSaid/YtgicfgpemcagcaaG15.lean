/- Walks and mathematics of rank, part 15. -/
import Derived.Test.YtgicfgpemcagcaaG05
import Derived.OrdersIn
import Derived.TacticsIn
import Derived.OwnWalkIn
import Derived.RangeFuncNested
import Derived.RangeFuncBound
import Derived.RangeFuncCalls
import Derived.RangeFuncLeaves
import Derived.RangeFuncBox
import Derived.Shelf.Abstract
import Derived.WalkKit
import Derived.TacticsInMore
import Derived.LoopNIn
import Derived.LoopIn
import Derived.Maps.AppendAt
import Derived.Test.YtgicfgpemcagcaaG11
import Derived.Test.YtgicfgpemcagcaaG14
/- A region that draws its order: operations that only read, each one value wherever the condition S holds ('light'), and a chain of others ('heavy'), each of which waits for the one before it and keeps S; the tail waits for all of them. It is walked once: first the light ones in the order of the text, then the heavy ones. -/
namespace Go.Proofs.Ytgicfgpemcagcaa
open Go
/-- What comes of one operation, and what holds behind it. -/
def StepsIn' (F : Fence) (n : Nat) (P : Program) (o : Oper) (a : Act) (w : World) (R : Value → World → Prop) : Prop :=
  (∃ v w', (execOp a.eval o).run P w = .ok (.value v) w' ∧ R v w') ∨ ∃ f args w', (execOp a.eval o).run P w = .ok (.enter f args) w' ∧ CallsIn F (n - 1) P f args w' (fun e w'' => ∃ v, e = .returned v ∧ R v w'')
def Light (P : Program) (S : World → Prop) (o : Oper) (v : Value) (a : Act) : Prop := ∀ w, S w → (execOp a.eval o).run P w = .ok (.value v) w
/-- The light operations, in the order of the text (those with 'true' are heavy). -/
def wpLts (P : Program) (S : World → Prop) (L : Act → Prop) : List (Oper × Bool) → Act → Prop
  | [], a => L a
  | (o, false) :: r, a => ∃ v, Light P S o v a ∧ wpLts P S L r (a.put o.dst v)
  | (_, true) :: r, a => wpLts P S L r a
/-- The heavy ones, one after the other. -/
def wpHvs (F : Fence) (n : Nat) (P : Program) (S : World → Prop) (L : Act → World → Prop) : List Oper → Act → World → Prop
  | [], a, w => L a w
  | o :: r, a, w => StepsIn' F n P o a w (fun v w' => S w' ∧ wpHvs F n P S L r (a.put o.dst v) w')
section
variable {F : Fence} {n : Nat} {P : Program} {S : World → Prop} {Q : Exit → Act → World → Prop}
theorem wpLts_nil {L : Act → Prop} {a : Act} (h : L a) : wpLts P S L [] a := h
theorem wpLts_light {L : Act → Prop} {a : Act} {o : Oper} {r : List (Oper × Bool)} (v : Value) (h : ∀ w, S w → (execOp a.eval o).run P w = .ok (.value v) w) (hr : wpLts P S L r (a.put o.dst v)) : wpLts P S L ((o, false) :: r) a := ⟨v, h, hr⟩
theorem wpLts_heavy {L : Act → Prop} {a : Act} {o : Oper} {r : List (Oper × Bool)} (hr : wpLts P S L r a) : wpLts P S L ((o, true) :: r) a := hr
theorem wpHvs_nil {L : Act → World → Prop} {a : Act} {w : World} (h : L a w) : wpHvs F n P S L [] a w := h
theorem wpHvs_value {L : Act → World → Prop} {a : Act} {w : World} {o : Oper} {r : List Oper} (v : Value) (w' : World) (h : (execOp a.eval o).run P w = .ok (.value v) w') (hr : S w' ∧ wpHvs F n P S L r (a.put o.dst v) w') : wpHvs F n P S L (o :: r) a w := .inl ⟨v, w', h, hr⟩
theorem wpHvs_call {L : Act → World → Prop} {a : Act} {w : World} {o : Oper} {r : List Oper} (f : FuncId) (args : Array Value) (h : (execOp a.eval o).run P w = .ok (.enter f args) w)
    (hc : CallsIn F (n - 1) P f args w (fun e w'' => ∃ v, e = .returned v ∧ S w'' ∧ wpHvs F n P S L r (a.put o.dst v) w'')) : wpHvs F n P S L (o :: r) a w := .inr ⟨f, args, w, h, hc⟩

theorem StepsIn'.wp {o : Oper} {a : Act} {w : World} {R : Value → World → Prop} (hfn : ∀ f, F.fn f) (hd : F.depth = none) (hnd : ∀ c, o.op ≠ .defer c) (h : StepsIn' F n P o a w R) {K : Act → World → Prop} (hK : ∀ v w', R v w' → K (a.put o.dst v) w') : o.wpIn F n P a w K Q := by
  refine ⟨fun f _ => hfn f, ?_⟩
  rw [Oper.semAt_plain F a.eval o hnd]
  rcases h with ⟨v, w', h, hr⟩ | ⟨f, args, w', h, hc⟩
  · rw [h]; exact hK v w' hr
  · rw [h, Oper.uponIn_enter]
    refine ⟨(fun e => by rw [hd] at e; cases e), hc.mono fun e w'' ⟨v, he, hr⟩ => ?_⟩
    subst he
    exact hK v w'' hr
theorem StepsIn'.same {o : Oper} {a a' : Act} {w : World} {R : Value → World → Prop} (h : StepsIn' F n P o a w R) (he : execOp a'.eval o = execOp a.eval o) : StepsIn' F n P o a' w R := by
  unfold StepsIn' at *
  rw [he]
  exact h
theorem StepsIn'.mono {o : Oper} {a : Act} {w : World} {R R' : Value → World → Prop} (h : StepsIn' F n P o a w R) (hr : ∀ v w', R v w' → R' v w') : StepsIn' F n P o a w R' := by
  rcases h with ⟨v, w', h, h1⟩ | ⟨f, args, w', h, hc⟩
  · exact .inl ⟨v, w', h, hr _ _ h1⟩
  · exact .inr ⟨f, args, w', h, hc.mono fun e w'' ⟨v, he, h1⟩ => ⟨v, he, hr _ _ h1⟩⟩

theorem wpAnyIn_of_seq {md : Region.Mode} {ops : Array Oper} {Q' : Exit → Act → World → Prop} : ∀ (l : List Oper) (k : Nat) (listed : Array Bool) (a : Act) (w : World), (∀ j, l[j]? = ops[k + j]?) →
    Region.seqB md ops l.length k listed = true → wpListIn F n P ops Q' l a w → wpAnyIn F n P md ops Q' l.length listed a w
  | [], _, _, _, _, _, hB, h => ⟨by simpa [Region.seqB] using hB, h⟩
  | o :: l, k, listed, a, w, hl, hB, h => by
    have h0 : ops[k]? = some o := by simpa using (hl 0).symm
    simp only [List.length_cons, Region.seqB, Bool.and_eq_true, decide_eq_true_eq] at hB
    refine ⟨fun h1 => (by rw [hB.1] at h1; cases h1), fun i hi => ?_⟩
    rw [hB.1] at hi
    have hik : i = k := by simpa using hi
    subst hik
    have hw : wpOpIn F n P ops Q' i (wpListIn F n P ops Q' l) a w := by unfold wpOpIn; simp only [h0]; exact h
    exact wpOpIn_mono (fun a' w' h' => wpAnyIn_of_seq l (i + 1) _ a' w' (fun j => by have := hl (j + 1); simpa [Nat.add_assoc, Nat.add_comm 1 j] using this) hB.2 h') hw

def notDefer (o : Oper) : Bool := match o.op with
  | .defer _ => false
  | _ => true
theorem notDefer_spec {o : Oper} (h : notDefer o = true) : ∀ c, o.op ≠ .defer c := fun c e => by simp [notDefer, e] at h
/-- The heavy places below m. -/
def hvTo (hv : List Bool) (m : Nat) : List Nat := (List.range m).filter fun k => hv.getD k false
def chainedB (md : Region.Mode) (l : List Oper) : List Nat → Bool
  | a :: b :: r => Region.waitsFor md l.toArray b a && chainedB md l (b :: r)
  | _ => true
def mixB (l : List Oper) (hv : List Bool) (n : Nat) : Bool :=
  decide (n < l.length) && Region.noSelect l.toArray && Region.sinkB .any l.toArray n && Region.chainB .any l.toArray n &&
  ((List.range n).all fun k => match l[k]? with
    | some o => o.guard.isNone && notDefer o && (o.after.all fun e => decide (e.on < k)) &&
      (!hv.getD k false || (match o.dst with | some t => !(o.looksAt l.toArray).contains t | none => true)) &&
      ((List.range n).all fun j => j == k || match dstAt l j with
        | some t => (dstAt l k != some t) && (!(o.looksAt l.toArray).contains t || (decide (j < k) && Region.waitsFor .any l.toArray k j && (hv.getD k false || !hv.getD j false)))
        | none => true)
    | none => false) &&
  chainedB .any l (hvTo hv n) &&
  Region.seqB .any l.toArray (l.length - n) n (List.replicate n true ++ List.replicate (l.length - n) false).toArray

theorem chained_first {md : Region.Mode} {l : List Oper} : ∀ (r : List Nat) (h : Nat), chainedB md l (h :: r) = true → ∀ i, i ∈ r → ∃ p, p ∈ h :: r ∧ Region.waitsFor md l.toArray i p = true
  | [], _, _, i, hi => by cases hi
  | b :: r, h, hB, i, hi => by
    simp only [chainedB, Bool.and_eq_true] at hB
    rcases List.mem_cons.1 hi with rfl | hi
    · exact ⟨h, by simp, hB.1⟩
    · obtain ⟨p, hp, hw⟩ := chained_first r b hB.2 i hi
      exact ⟨p, List.mem_cons_of_mem _ hp, hw⟩
theorem chained_tail {md : Region.Mode} {l : List Oper} {r : List Nat} {h : Nat} (hB : chainedB md l (h :: r) = true) : chainedB md l r = true := by
  cases r with
  | nil => rfl
  | cons b r => simp only [chainedB, Bool.and_eq_true] at hB; exact hB.2

theorem lts_acts {L : Act → Prop} : ∀ (l : List (Oper × Bool)) (a : Act), wpLts P S L l a →
    ∃ (A : Nat → Act) (v : Nat → Value), A 0 = a ∧ (∀ k o, l[k]? = some (o, false) → Light P S o (v k) (A k) ∧ A (k + 1) = (A k).put o.dst (v k)) ∧ (∀ k o, l[k]? = some (o, true) → A (k + 1) = A k) ∧ L (A l.length)
  | [], a, h => ⟨fun _ => a, fun _ => undef, rfl, fun k o ho => by simp at ho, fun k o ho => by simp at ho, h⟩
  | (o, false) :: r, a, ⟨v, hv, h⟩ => by
    obtain ⟨A, vs, h0, hs, hh, hL⟩ := lts_acts r _ h
    refine ⟨fun | 0 => a | k + 1 => A k, fun | 0 => v | k + 1 => vs k, rfl, fun k o' ho' => ?_, fun k o' ho' => ?_, hL⟩
    · cases k with
      | zero =>
        simp only [List.getElem?_cons_zero, Option.some.injEq, Prod.mk.injEq] at ho'
        obtain ⟨rfl, _⟩ := ho'
        exact ⟨hv, h0⟩
      | succ k => exact hs k o' (by simpa using ho')
    · cases k with
      | zero => simp at ho'
      | succ k => exact hh k o' (by simpa using ho')
  | (o, true) :: r, a, h => by
    obtain ⟨A, vs, h0, hs, hh, hL⟩ := lts_acts r _ h
    refine ⟨fun | 0 => a | k + 1 => A k, fun | 0 => undef | k + 1 => vs k, rfl, fun k o' ho' => ?_, fun k o' ho' => ?_, hL⟩
    · cases k with
      | zero => simp at ho'
      | succ k => exact hs k o' (by simpa using ho')
    · cases k with
      | zero => exact h0
      | succ k => exact hh k o' (by simpa using ho')

structure MixInv (l : List Oper) (m : Nat) (hv : List Bool) (A : Nat → Act) (b : Act) (listed : Array Bool) (a : Act) : Prop where
  inv : HeadInv .any l.toArray m listed
  defers : a.defers = (A 0).defers
  size : a.tmps.size = (A 0).tmps.size
  bdefers : b.defers = (A 0).defers
  bsize : b.tmps.size = (A 0).tmps.size
  near : ∀ j, j < m → listed.getD j false = true → ∀ t, dstAt l j = some t → a.tmps[t]? = b.tmps[t]?
  far : ∀ t, (∀ j, j < m → listed.getD j false = true → dstAt l j ≠ some t) → a.tmps[t]? = (A 0).tmps[t]?
  blight : ∀ j, j < m → hv.getD j false = false → ∀ t, dstAt l j = some t → b.tmps[t]? = (A (j + 1)).tmps[t]?
  bfar : ∀ t, (∀ j, j < m → hv.getD j false = false ∨ listed.getD j false = true → dstAt l j ≠ some t) → b.tmps[t]? = (A 0).tmps[t]?

theorem wpAnyIn_mix {l : List Oper} {hv : List Bool} {m : Nat} {A : Nat → Act} {v : Nat → Value} (hfn : ∀ f, F.fn f) (hdep : F.depth = none) (hB : mixB l hv m = true)
    (hA : ∀ k o, k < m → l[k]? = some o → (hv.getD k false = false → Light P S o (v k) (A k) ∧ A (k + 1) = (A k).put o.dst (v k)) ∧ (hv.getD k false = true → A (k + 1) = A k)) :
    ∀ (fuel : Nat) (listed : Array Bool) (a : Act) (w : World) (b : Act) (r : List Nat), listed.toList.count false = fuel → MixInv l m hv A b listed a → r.Nodup → (∀ k, k ∈ r → k < m ∧ hv.getD k false = true) → (∀ k, k < m → hv.getD k false = true → (listed.getD k false = false ↔ k ∈ r)) → chainedB .any l r = true → S w →
      wpHvs F n P S (fun a' w' => wpListIn F n P l.toArray Q (l.drop m) a' w') (r.filterMap fun k => l[k]?) b w → wpAnyIn F n P .any l.toArray Q fuel listed a w := by
  simp only [mixB, Bool.and_eq_true, decide_eq_true_eq] at hB
  obtain ⟨⟨⟨⟨⟨⟨hn, hsel⟩, hsink⟩, hchain⟩, hall⟩, _⟩, hseq⟩ := hB
  have hn' : m < l.toArray.size := by simpa using hn
  have hk : ∀ k, k < m → ∃ o, l[k]? = some o ∧ o.guard = none ∧ notDefer o = true ∧ (∀ e ∈ o.after, e.on < k) ∧ ∀ j, j < m → j ≠ k → ∀ t, dstAt l j = some t → dstAt l k ≠ some t ∧ (t ∈ o.looksAt l.toArray → j < k ∧ Region.waitsFor .any l.toArray k j = true ∧ (hv.getD k false = false → hv.getD j false = false)) := by
    intro k hkn
    have := List.all_eq_true.1 hall k (List.mem_range.2 hkn)
    cases ho : l[k]? with
    | none => rw [ho] at this; simp at this
    | some o =>
      rw [ho] at this
      simp only [Bool.and_eq_true] at this
      obtain ⟨⟨⟨⟨h1, h1'⟩, h2⟩, _⟩, h3⟩ := this
      refine ⟨o, rfl, by simpa using h1, h1', fun e he => by simpa using Array.all_eq_true_iff_forall_mem.1 h2 e he, fun j hj hjk t ht => ?_⟩
      have h4 := List.all_eq_true.1 h3 j (List.mem_range.2 hj)
      simp only [Bool.or_eq_true, beq_iff_eq, hjk, false_or, ht, Bool.and_eq_true, bne_iff_ne, ne_eq, Bool.not_eq_true', decide_eq_true_eq] at h4
      refine ⟨h4.1, fun ht' => ?_⟩
      rcases h4.2 with h5 | h5
      · rw [List.contains_iff_mem.2 ht'] at h5; cases h5
      · refine ⟨h5.1.1, h5.1.2, fun h6 => ?_⟩
        rcases h5.2 with h7 | h7
        · rw [h6] at h7; cases h7
        · exact h7
  have hAfar : ∀ t k, k ≤ m → (∀ j, j < k → dstAt l j ≠ some t) → (A k).tmps[t]? = (A 0).tmps[t]? := by
    intro t k
    induction k with
    | zero => exact fun _ _ => rfl
    | succ k ih =>
      intro hkn hd
      obtain ⟨o, ho, _⟩ := hk k (by omega)
      have hdk : o.dst ≠ some t := by have := hd k (by omega); simpa [dstAt, ho] using this
      cases hh : hv.getD k false with
      | false =>
        rw [((hA k o (by omega) ho).1 hh).2, put_far _ _ _ _ hdk]
        exact ih (by omega) fun j hj => hd j (by omega)
      | true =>
        rw [(hA k o (by omega) ho).2 hh]
        exact ih (by omega) fun j hj => hd j (by omega)
  have hAnear : ∀ t j, j < m → dstAt l j = some t → ∀ k, j < k → k ≤ m → (A k).tmps[t]? = (A (j + 1)).tmps[t]? := by
    intro t j hj hd k
    induction k with
    | zero => intro h; omega
    | succ k ih =>
      intro hjk hkn
      by_cases hjk' : j = k
      · subst hjk'; rfl
      · obtain ⟨o, ho, _, _, _, h3⟩ := hk k (by omega)
        have hdk : o.dst ≠ some t := by have := (h3 j hj hjk' t hd).1; simpa [dstAt, ho] using this
        cases hh : hv.getD k false with
        | false =>
          rw [((hA k o (by omega) ho).1 hh).2, put_far _ _ _ _ hdk]
          exact ih (by omega) (by omega)
        | true =>
          rw [(hA k o (by omega) ho).2 hh]
          exact ih (by omega) (by omega)
  have hAsize : ∀ k, k ≤ m → (A k).tmps.size = (A 0).tmps.size := by
    intro k
    induction k with
    | zero => exact fun _ => rfl
    | succ k ih =>
      intro hkn
      obtain ⟨o, ho, _⟩ := hk k (by omega)
      cases hh : hv.getD k false with
      | false => rw [((hA k o (by omega) ho).1 hh).2, put_size]; exact ih (by omega)
      | true => rw [(hA k o (by omega) ho).2 hh]; exact ih (by omega)
  intro fuel
  induction fuel with
  | zero =>
    intro listed a w b r hc inv _ _ _ _ _ _
    have h1 := inv.inv.tail m (Nat.le_refl _) hn'
    have hlt : m < listed.size := by rw [inv.inv.size]; exact hn'
    simp [hlt] at h1
    have : false ∈ listed.toList := by rw [← h1]; exact Array.mem_toList_iff.2 (Array.getElem_mem hlt)
    have := List.count_pos_iff.2 this
    omega
  | succ fuel ih =>
    intro listed a w b r hc inv hnd hrm hrl hrc hS hH
    by_cases hdone : ∀ j, j < m → listed.getD j false = true
    · -- the head is done
      have hr0 : r = [] := by
        cases r with
        | nil => rfl
        | cons h r =>
          obtain ⟨h1, h2⟩ := hrm h (by simp)
          have := (hrl h h1 h2).2 (by simp)
          rw [hdone h h1] at this
          cases this
      subst hr0
      have hH' : wpListIn F n P l.toArray Q (l.drop m) b w := hH
      have ha : a = b := by
        have ht : a.tmps = b.tmps := by
          apply Array.ext_getElem?
          intro t
          by_cases hex : ∃ j, j < m ∧ dstAt l j = some t
          · obtain ⟨j, hj, hd⟩ := hex
            exact inv.near j hj (hdone j hj) t hd
          · rw [inv.far t fun j hj _ hd => hex ⟨j, hj, hd⟩, inv.bfar t fun j hj _ hd => hex ⟨j, hj, hd⟩]
        cases a with
        | mk t d =>
          cases b with
          | mk t' d' =>
            have e1 := inv.defers
            have e2 := inv.bdefers
            simp only at ht e1 e2
            rw [ht, e1, e2]
      have hl : listed = (List.replicate m true ++ List.replicate (l.length - m) false).toArray := by
        have hsz := inv.inv.size
        simp only [List.size_toArray] at hsz
        apply Array.ext_getElem?
        intro j
        rcases Nat.lt_or_ge j listed.size with hj | hj
        · rcases Nat.lt_or_ge j m with hjn | hjn
          · have := hdone j hjn
            simp [hj] at this
            simp [hj, this, List.getElem?_append, hjn]
          · have := inv.inv.tail j hjn (by simp; omega)
            simp [hj] at this
            simp [hj, this, List.getElem?_append, Nat.not_lt.2 hjn, List.getElem?_replicate]
            omega
        · rw [Array.getElem?_eq_none hj, Array.getElem?_eq_none (by simp; omega)]
      have hf : fuel + 1 = (l.drop m).length := by
        rw [← hc, hl]
        simp [List.count_replicate]
      rw [hf, hl, ha]
      refine wpAnyIn_of_seq (l.drop m) m _ _ _ (fun j => by simp [List.getElem?_drop]) ?_ hH'
      rw [List.length_drop]; exact hseq
    · have hex : ∃ j, j < m ∧ listed.getD j false = false := by
        refine Classical.byContradiction fun h => hdone fun j hj => ?_
        cases hx : listed.getD j false with
        | true => rfl
        | false => exact absurd ⟨j, hj, hx⟩ h
      have hst : ∀ j, j < m → listed.getD j false = false → listed.getD j true = false := fun j hj h => getD_in (by rw [inv.inv.size]; omega) h
      obtain ⟨j0, hj0, hu0⟩ := hex
      refine ⟨fun h0 => ?_, fun i hi => ?_⟩
      · -- some operation is ready
        exfalso
        have : ∀ d j, j ≤ d → j < m → listed.getD j false = true := by
          intro d
          induction d with
          | zero =>
            intro j hjd hj
            obtain rfl : j = 0 := by omega
            cases hx : listed.getD 0 false with
            | true => rfl
            | false =>
              obtain ⟨o, ho, _, _, h2, _⟩ := hk 0 hj
              have : 0 ∈ Region.ready .any l.toArray listed := mem_ready.2 ⟨hst 0 hj hx, o, by simpa using ho, fun e he _ => by have := h2 e he; omega⟩
              rw [h0] at this; cases this
          | succ d ihd =>
            intro j hjd hj
            by_cases hjd' : j ≤ d
            · exact ihd j hjd' hj
            · cases hx : listed.getD j false with
              | true => rfl
              | false =>
                obtain ⟨o, ho, _, _, h2, _⟩ := hk j hj
                have : j ∈ Region.ready .any l.toArray listed := mem_ready.2 ⟨hst j hj hx, o, by simpa using ho, fun e he _ => by have := h2 e he; exact ihd e.on (by omega) (by omega)⟩
                rw [h0] at this; cases this
        rw [this j0 j0 (Nat.le_refl _) hj0] at hu0
        cases hu0
      · have hin : i < m := by
          rcases Nat.lt_or_ge i m with h | h
          · exact h
          · exact absurd hi (tail_waits hsink hchain hn' inv.inv _ j0 rfl hj0 (hst j0 hj0 hu0) i h)
        obtain ⟨hun, oi', hoi', hafter⟩ := mem_ready.1 hi
        obtain ⟨o, ho, hg, hnd', h2, h3⟩ := hk i hin
        have hoi : l.toArray[i]? = some o := by simpa using ho
        obtain rfl : o = oi' := Option.some.inj (hoi.symm.trans hoi')
        have hunl : listed.getD i false = false := getD_both hun
        have hlisted : ∀ j, Region.waitsFor .any l.toArray i j = true → listed.getD j false = true := by
          intro j hw
          obtain ⟨oj, hoj, e, he, hb, hon⟩ := Region.waitsFor_spec hw
          obtain rfl : o = oj := Option.some.inj (hoi.symm.trans hoj)
          have hlj := hafter e he hb
          rwa [hon] at hlj
        have hwant : Region.wanted o (yielded l.toArray a.tmps) = true := by simp [Region.wanted, hg]
        have hsz : i < listed.size := by rw [inv.inv.size]; omega
        have hsameOf : ∀ c : Act, (∀ t, t ∈ o.looksAt l.toArray → a.tmps[t]? = c.tmps[t]?) → execOp a.eval o = execOp c.eval o := fun c hagree =>
          execOp_congr o (fun cs b => Region.noSelect_spec hsel i o cs b hoi) fun x hx => by
            cases x with
            | tmp t =>
              have := hagree t (List.mem_append_left _ (List.mem_filterMap.2 ⟨.tmp t, by simpa using hx, rfl⟩))
              simp only [Act.eval, Array.getD_eq_getD_getElem?, this]
            | _ => rfl
        have hfarA : ∀ t, (∀ j, j < m → j ≠ i → dstAt l j ≠ some t) → a.tmps[t]? = (A 0).tmps[t]? := fun t hno =>
          inv.far t fun j hj hl hd => hno j hj (fun e => by rw [e, hunl] at hl; cases hl) hd
        unfold wpOpIn
        simp only [hoi, hwant, if_true]
        cases hh : hv.getD i false with
        | false =>
          obtain ⟨hgv, hAi⟩ := (hA i o hin ho).1 hh
          have hsame := hsameOf (A i) fun t ht => by
            by_cases hex : ∃ j, j < m ∧ j ≠ i ∧ dstAt l j = some t
            · obtain ⟨j, hj, hji, hd⟩ := hex
              obtain ⟨hlt, hw, hjl⟩ := (h3 j hj hji t hd).2 ht
              rw [inv.near j hj (hlisted j hw) t hd, inv.blight j hj (hjl hh) t hd, hAnear t j hj hd i hlt (by omega)]
            · rw [hfarA t fun j hj hji hd => hex ⟨j, hj, hji, hd⟩, hAfar t i (by omega) fun j hj hd => hex ⟨j, by omega, by omega, hd⟩]
          have hst' : StepsIn' F n P o a w (fun v' w' => v' = v i ∧ w' = w) := .inl ⟨v i, w, by rw [hsame]; exact hgv w hS, rfl, rfl⟩
          refine hst'.wp hfn hdep (notDefer_spec hnd') ?_
          rintro v' w' ⟨rfl, rfl⟩
          refine ih _ _ _ b r (count_set_true hun hc) ?_ hnd hrm ?_ hrc hS hH
          · refine ⟨inv.inv.set hi hin, by rw [put_defers', inv.defers], by rw [put_size, inv.size], inv.bdefers, inv.bsize, fun j hj hlj t hd => ?_, fun t hf => ?_, inv.blight, fun t hf => inv.bfar t fun j hj hl => hf j hj (hl.imp id fun h => ?_)⟩
            · by_cases hij : i = j
              · subst hij
                have hd' : o.dst = some t := by simpa [dstAt, ho] using hd
                rw [inv.blight i hin hh t hd, hAi, hd']
                exact put_near _ _ _ _ (by rw [inv.size, hAsize i (by omega)])
              · rw [getD_set_ne false hij] at hlj
                have hd' : o.dst ≠ some t := by have := (h3 j hj (Ne.symm hij) t hd).1; simpa [dstAt, ho] using this
                rw [put_far _ _ _ _ hd']
                exact inv.near j hj hlj t hd
            · have hd' : o.dst ≠ some t := by
                have := hf i hin (by simp [hsz])
                simpa [dstAt, ho] using this
              rw [put_far _ _ _ _ hd']
              exact inv.far t fun j hj hlj => hf j hj (getD_set_true hlj)
            · exact getD_set_true h
          · intro k hkm hkh
            have hki : i ≠ k := fun e => by rw [e, hkh] at hh; cases hh
            rw [getD_set_ne false hki]
            exact hrl k hkm hkh
        | true =>
          have hir : i ∈ r := (hrl i hin hh).1 hunl
          cases r with
          | nil => cases hir
          | cons h r' =>
            have hih : i = h := by
              rcases List.mem_cons.1 hir with e | hi'
              · exact e
              · obtain ⟨p, hp, hw⟩ := chained_first r' h hrc i hi'
                obtain ⟨hpm, hph⟩ := hrm p hp
                have hpu := (hrl p hpm hph).2 hp
                rw [hlisted p hw] at hpu
                cases hpu
            subst hih
            have hsame := hsameOf b fun t ht => by
              by_cases hex : ∃ j, j < m ∧ j ≠ i ∧ dstAt l j = some t
              · obtain ⟨j, hj, hji, hd⟩ := hex
                obtain ⟨_, hw, _⟩ := (h3 j hj hji t hd).2 ht
                exact inv.near j hj (hlisted j hw) t hd
              · rw [hfarA t fun j hj hji hd => hex ⟨j, hj, hji, hd⟩, inv.bfar t fun j hj hl hd => hex ⟨j, hj, (fun e => by
                  subst e
                  rcases hl with hl | hl
                  · rw [hh] at hl; cases hl
                  · rw [hunl] at hl; cases hl), hd⟩]
            rw [List.filterMap_cons_some ho] at hH
            have hst' : StepsIn' F n P o b w (fun v w' => S w' ∧ wpHvs F n P S (fun a' w' => wpListIn F n P l.toArray Q (l.drop m) a' w') (r'.filterMap fun k => l[k]?) (b.put o.dst v) w') := hH
            refine (hst'.same hsame).wp hfn hdep (notDefer_spec hnd') ?_
            rintro v' w' ⟨hS', hH'⟩
            have hnd2 := List.nodup_cons.1 hnd
            refine ih _ _ _ (b.put o.dst v') r' (count_set_true hun hc) ?_ hnd2.2 (fun k hk => hrm k (List.mem_cons_of_mem _ hk)) ?_ (chained_tail hrc) hS' hH'
            · refine ⟨inv.inv.set hi hin, by rw [put_defers', inv.defers], by rw [put_size, inv.size], by rw [put_defers', inv.bdefers], by rw [put_size, inv.bsize], fun j hj hlj t hd => ?_, fun t hf => ?_, fun j hj hjh t hd => ?_, fun t hf => ?_⟩
              · by_cases hij : i = j
                · subst hij
                  have hd' : o.dst = some t := by simpa [dstAt, ho] using hd
                  rw [hd']
                  exact put_near _ _ _ _ (by rw [inv.size, inv.bsize])
                · rw [getD_set_ne false hij] at hlj
                  have hd' : o.dst ≠ some t := by have := (h3 j hj (Ne.symm hij) t hd).1; simpa [dstAt, ho] using this
                  rw [put_far _ _ _ _ hd', put_far _ _ _ _ hd']
                  exact inv.near j hj hlj t hd
              · have hd' : o.dst ≠ some t := by
                  have := hf i hin (by simp [hsz])
                  simpa [dstAt, ho] using this
                rw [put_far _ _ _ _ hd']
                exact inv.far t fun j hj hlj => hf j hj (getD_set_true hlj)
              · have hij : j ≠ i := fun e => by rw [e, hh] at hjh; cases hjh
                have hd' : o.dst ≠ some t := by have := (h3 j hj hij t hd).1; simpa [dstAt, ho] using this
                rw [put_far _ _ _ _ hd']
                exact inv.blight j hj hjh t hd
              · have hd' : o.dst ≠ some t := by
                  have := hf i hin (.inr (by simp [hsz]))
                  simpa [dstAt, ho] using this
                rw [put_far _ _ _ _ hd']
                exact inv.bfar t fun j hj hl => hf j hj (hl.imp id fun h => getD_set_true h)
            · intro k hkm hkh
              by_cases hki : i = k
              · subst hki
                constructor
                · intro h; simp [hsz] at h
                · intro h; exact absurd h hnd2.1
              · rw [getD_set_ne false hki, hrl k hkm hkh, List.mem_cons]
                exact ⟨fun h => h.resolve_left (Ne.symm hki), Or.inr⟩

/-- The law. -/
theorem wpIn_region_mix {id : Nat} {a : Act} {w : World} {l : List Oper} (S : World → Prop) (hv : List Bool) (m : Nat) (hfn : ∀ f, F.fn f) (hdep : F.depth = none) (hm : P.follows .mixedOrders = true) (hB : mixB l hv m = true) (hS : S w.drew)
    (h : wpLts P S (fun a' => wpHvs F n P S (fun a'' w'' => wpListIn F n P l.toArray Q (l.drop m) a'' w'') ((hvTo hv m).filterMap fun k => l[k]?) a' w.drew) ((l.take m).zip ((List.range m).map fun k => hv.getD k false)) a) : (Code.region id l.toArray true).wpIn F n P Q a w := by
  obtain ⟨A, v, h0, hs, hh, hL⟩ := lts_acts _ _ h
  have hn : m < l.length := by
    simp only [mixB, Bool.and_eq_true, decide_eq_true_eq] at hB
    exact hB.1.1.1.1.1.1
  have hch : chainedB .any l (hvTo hv m) = true := by
    simp only [mixB, Bool.and_eq_true] at hB
    exact hB.1.2
  rw [show ((l.take m).zip ((List.range m).map fun k => hv.getD k false)).length = m by simp; omega] at hL
  have hz : ∀ k o, k < m → l[k]? = some o → ((l.take m).zip ((List.range m).map fun k => hv.getD k false))[k]? = some (o, hv.getD k false) := fun k o hk ho => by
    rw [List.getElem?_zip_eq_some]
    exact ⟨by rw [List.getElem?_take]; simp [hk, ho], by simp [hk]⟩
  have hA : ∀ k o, k < m → l[k]? = some o → (hv.getD k false = false → Light P S o (v k) (A k) ∧ A (k + 1) = (A k).put o.dst (v k)) ∧ (hv.getD k false = true → A (k + 1) = A k) := fun k o hk ho =>
    ⟨fun h => hs k o (by rw [hz k o hk ho, h]), fun h => hh k o (by rw [hz k o hk ho, h])⟩
  refine wpIn_region_any hm ?_
  have hdst : ∀ k, k < m → ∃ o, l[k]? = some o := fun k hk => ⟨l[k]'(by omega), List.getElem?_eq_getElem (by omega)⟩
  have hmix := hB
  simp only [mixB, Bool.and_eq_true, decide_eq_true_eq] at hmix
  obtain ⟨⟨⟨_, hall⟩, _⟩, _⟩ := hmix
  have hne : ∀ j k, j < m → k < m → j ≠ k → ∀ t, dstAt l j = some t → dstAt l k ≠ some t := by
    intro j k hj hk hjk t ht
    have := List.all_eq_true.1 hall k (List.mem_range.2 hk)
    obtain ⟨o, ho⟩ := hdst k hk
    rw [ho] at this
    simp only [Bool.and_eq_true] at this
    have h4 := List.all_eq_true.1 this.2 j (List.mem_range.2 hj)
    simp only [Bool.or_eq_true, beq_iff_eq, hjk, false_or, ht, Bool.and_eq_true, bne_iff_ne, ne_eq] at h4
    exact h4.1
  have keep : ∀ k, k ≤ m → (A k).defers = (A 0).defers ∧ (A k).tmps.size = (A 0).tmps.size ∧ (∀ t, (∀ j, j < k → hv.getD j false = false → dstAt l j ≠ some t) → (A k).tmps[t]? = (A 0).tmps[t]?) ∧ ∀ j, j < k → hv.getD j false = false → ∀ t, dstAt l j = some t → (A k).tmps[t]? = (A (j + 1)).tmps[t]? := by
    intro k
    induction k with
    | zero => exact fun _ => ⟨rfl, rfl, fun _ _ => rfl, fun j hj => by omega⟩
    | succ k ih =>
      intro hk
      obtain ⟨i1, i2, i3, i4⟩ := ih (by omega)
      obtain ⟨o, ho⟩ := hdst k (by omega)
      cases hh' : hv.getD k false with
      | false =>
        have e := ((hA k o (by omega) ho).1 hh').2
        refine ⟨by rw [e, put_defers', i1], by rw [e, put_size, i2], fun t ht => ?_, fun j hj hjh t hd => ?_⟩
        · have hdk : o.dst ≠ some t := by have := ht k (by omega) hh'; simpa [dstAt, ho] using this
          rw [e, put_far _ _ _ _ hdk]
          exact i3 t fun j hj => ht j (by omega)
        · by_cases hjk : j = k
          · subst hjk; rfl
          · have hdk : o.dst ≠ some t := by have := hne j k (by omega) (by omega) hjk t hd; simpa [dstAt, ho] using this
            rw [e, put_far _ _ _ _ hdk]
            exact i4 j (by omega) hjh t hd
      | true =>
        have e := (hA k o (by omega) ho).2 hh'
        refine ⟨by rw [e, i1], by rw [e, i2], fun t ht => ?_, fun j hj hjh t hd => ?_⟩
        · rw [e]; exact i3 t fun j hj => ht j (by omega)
        · have hjk : j ≠ k := fun e => by rw [e, hh'] at hjh; cases hjh
          rw [e]; exact i4 j (by omega) hjh t hd
  obtain ⟨k1, k2, k3, k4⟩ := keep m (Nat.le_refl _)
  have hnod : (hvTo hv m).Nodup := List.Pairwise.filter _ List.nodup_range
  have hmem : ∀ k, k ∈ hvTo hv m ↔ k < m ∧ hv.getD k false = true := fun k => by unfold hvTo; rw [List.mem_filter, List.mem_range]
  refine wpAnyIn_mix hfn hdep hB hA _ _ _ _ (A m) (hvTo hv m) (by simp) ?_ hnod (fun k hk => (hmem k).1 hk) (fun k hk hkh => ⟨fun _ => (hmem k).2 ⟨hk, hkh⟩, fun _ => getD_replicate_false _ _⟩) hch hS hL
  subst h0
  exact ⟨⟨by simp, fun j oj _ hl => (by rw [getD_replicate_false] at hl; cases hl), fun t _ ht => getD_in (by simpa using ht) (getD_replicate_false _ _)⟩, rfl, rfl, k1, k2,
    fun j _ hl => (by rw [getD_replicate_false] at hl; cases hl), fun t _ => rfl, fun j hj hjh t hd => k4 j hj hjh t hd, fun t ht => k3 t fun j hj hjh => ht j hj (.inl hjh)⟩
def mixT : List Oper → List Bool → List (Oper × Bool)
  | o :: l, b :: hv => (o, b) :: mixT l hv
  | _, _ => []
def mixH : List Oper → List Bool → List Oper
  | o :: l, true :: hv => o :: mixH l hv
  | _ :: l, false :: hv => mixH l hv
  | _, _ => []
def mixD : List Oper → List Bool → List Oper
  | _ :: l, _ :: hv => mixD l hv
  | l, _ => l
theorem mixT_eq : ∀ (l : List Oper) (hv : List Bool), hv.length ≤ l.length → mixT l hv = (l.take hv.length).zip ((List.range hv.length).map fun k => hv.getD k false)
  | l, [], _ => by cases l <;> rfl
  | [], b :: hv, h => by simp at h
  | o :: l, b :: hv, h => by
    rw [mixT, mixT_eq l hv (by simpa using h), List.length_cons, List.range_succ_eq_map, List.take_succ_cons, List.map_cons, List.map_map, List.zip_cons_cons]
    congr 1
theorem mixD_eq : ∀ (l : List Oper) (hv : List Bool), hv.length ≤ l.length → mixD l hv = l.drop hv.length
  | l, [], _ => by cases l <;> rfl
  | [], b :: hv, h => by simp at h
  | o :: l, b :: hv, h => by
    rw [mixD, mixD_eq l hv (by simpa using h), List.length_cons, List.drop_succ_cons]
theorem mixH_eq : ∀ (l : List Oper) (hv : List Bool), hv.length ≤ l.length → mixH l hv = (hvTo hv hv.length).filterMap fun k => l[k]?
  | l, [], _ => by cases l <;> rfl
  | [], b :: hv, h => by simp at h
  | o :: l, b :: hv, h => by
    have ih := mixH_eq l hv (by simpa using h)
    have e : hvTo (b :: hv) (hv.length + 1) = (if b = true then [0] else []) ++ (hvTo hv hv.length).map Nat.succ := by
      unfold hvTo
      rw [List.range_succ_eq_map, List.filter_cons, List.filter_map]
      cases b <;> simp <;> rfl
    rw [List.length_cons, e, List.filterMap_append, List.filterMap_map]
    cases b with
    | true => rw [mixH, ih]; simp; rfl
    | false => rw [mixH, ih]; simp; rfl
/-- The law, as a walk uses it. -/
theorem wpIn_region_mix' {id : Nat} {a : Act} {w : World} {l : List Oper} (S : World → Prop) (hv : List Bool) (hfn : ∀ f, F.fn f) (hdep : F.depth = none) (hm : P.follows .mixedOrders = true) (hB : mixB l hv hv.length = true) (hS : S w.drew)
    (h : wpLts P S (fun a' => wpHvs F n P S (fun a'' w'' => wpListIn F n P l.toArray Q (mixD l hv) a'' w'') (mixH l hv) a' w.drew) (mixT l hv) a) : (Code.region id l.toArray true).wpIn F n P Q a w := by
  have hn : hv.length < l.length := by
    simp only [mixB, Bool.and_eq_true, decide_eq_true_eq] at hB
    exact hB.1.1.1.1.1.1
  rw [mixT_eq l hv (by omega), mixD_eq l hv (by omega), mixH_eq l hv (by omega)] at h
  exact wpIn_region_mix S hv hv.length hfn hdep hm hB hS h
end
end Go.Proofs.Ytgicfgpemcagcaa
/- The iterator over the segments of a list has its contract: all of them, in order; or the first k, where a round has said 'no more'. -/
namespace Go.Proofs.Ytgicfgpemcagcaa
set_option linter.unusedVariables false
set_option maxRecDepth 100000
open Go.RowKit Go.Shelf

attribute [local go_sem] Oper.semAt_some

def KpB (n₀ B : Nat) (W W' : World) : Prop := Below n₀ W W' ∧ W'.heap[B]? = W.heap[B]?
theorem kpB_t {n₀ B : Nat} {X Y Z : World} (h : KpB n₀ B X Y) (k : KpB n₀ B Y Z) : KpB n₀ B X Z := ⟨h.1.trans k.1, k.2.trans h.2⟩
theorem kpB_b {n₀ B : Nat} {w : World} (hn : n₀ ≤ w.heap.size) (hB : B < w.heap.size) (W : World) (l : Nat) (o o' : Obj) (hl : w.heap.size ≤ l) (h : W.heap[l]? = some o) (h1 : o.isCells = false) (h2 : o.isWalk = false) : KpB n₀ B W (W.putObj l o') :=
  ⟨belowK_b hn W l o o' hl h h1 h2, World.putObj_heap_other (by omega)⟩
theorem kpB_refl (n₀ B : Nat) (W : World) : KpB n₀ B W W := ⟨Below.refl _ _, rfl⟩
theorem kpB_of_below {n₀ B m : Nat} (hn : n₀ ≤ m) (hB : B < m) {W W' : World} (h : Below m W W') : KpB n₀ B W W' := ⟨h.mono hn, h.block B hB⟩
/-- What has come when k rounds are over. -/
def fr (n k : Nat) : List (Fin n) := (List.finRange n).take k
theorem fr_succ (n k : Nat) (h : k < n) : fr n (k + 1) = fr n k ++ [⟨k, h⟩] := by
  unfold fr
  rw [List.take_succ_eq_append_getElem (by simpa using h)]
  simp
theorem fr_length (n k : Nat) (h : k ≤ n) : (fr n k).length = k := by simp [fr, h]
theorem fr_all (n : Nat) : fr n n = List.finRange n := by unfold fr; rw [List.take_of_length_le (by simp)]
/-- What the iterator over segments hands out: the number, and the segment of the list at A. -/
def segV (A : Option Addr) (lens : List Int) (x : Fin lens.length) : Array Value := #[.int .i64 ((x.val : Nat) : Int), .slice (sgA A (ofs lens x.val) (ofs lens (x.val + 1))) (ofs lens (x.val + 1) - ofs lens x.val) (ofs lens (x.val + 1) - ofs lens x.val)]

set_option maxHeartbeats 2000000 in
theorem segs_in (F : Fence) (n : Nat) (h7 : F.fn 82) (hro : F.round = none) (hn : 1 ≤ n) (i Bl Bs n₀ b off c cl : Nat) (A : Option Addr) (l lens : List Int) (hz : Segs l lens) (hcl : l.length ≤ cl) (hb : b < n₀) (J Jx : List (Fin lens.length) → World → Prop)
    (hY : ∀ pre x W, J pre W → pre.length < lens.length → YieldAt F (n - 1) Try.prog i (segV A lens x) W fun e W' =>
      (e = .returned (.bool true) ∧ J (pre ++ [x]) W' ∧ KpB n₀ Bl W W') ∨ (e = .returned (.bool false) ∧ Jx (pre ++ [x]) W'))
    (W : World) (hBs : W.cell? ⟨Bs, 0, none⟩ = some (.slice (some ⟨b, off, none⟩) lens.length c)) (hBl : Blk W Bl 22 #[.slice A l.length cl]) (hc : ∀ j, j < lens.length → W.cell? ⟨b, off + j, none⟩ = some (.int .i64 (nth lens j))) (h0 : J [] W) :
    CallsIn F n Try.prog 82 #[.func (.yield i) #[] #[], .pointer (some ⟨Bs, 0, none⟩), .pointer (some ⟨Bl, 0, none⟩)] W fun e W' => (∃ v, e = .returned v) ∧
      ((∃ ys, ys = List.finRange lens.length ∧ J ys W') ∨ (∃ pre, (∃ k, k ≤ lens.length ∧ pre = fr lens.length k) ∧ Jx pre W')) := by
  have hlen := hz.few
  have hll := hz.short
  refine callsIn_of_wp Try.func82 rfl h7 ?_ hro
  simp only [Try.ntmps82, List.size_toArray, List.length_cons, List.length_nil, Nat.reduceAdd, Nat.reduceSub, Array.replicate_succ, Array.replicate_zero, List.push_toArray, List.append_toArray, List.nil_append, List.cons_append]
  gi_wp2
  gi_loopw [4, 10] (fun p i wr => ∃ k : Nat, k ≤ lens.length ∧ i = .int .i64 k ∧ p = .int .i64 ((ofs lens k : Nat) : Int) ∧ J (fr lens.length k) wr ∧ KpB n₀ Bl W wr)
    (fun _ i _ => lens.length - (intOf i).toNat)
  case atStart => exact ⟨0, Nat.zero_le _, rfl, by rw [ofs_zero]; rfl, h0, kpB_refl _ _ _⟩
  case round =>
    obtain ⟨k, hk, rfl, rfl, hJs, hnx⟩ := hrel
    by_cases hlt : k < lens.length
    · have hcx' := (hnx.1.cell (p := ⟨b, off + k, none⟩) hb).trans (hc k hlt)
      have hbk : Blk wr Bl 22 #[.slice A l.length cl] := hnx.2.trans hBl
      have hbl' := hbk.cell 0
      simp at hbl'
      obtain ⟨fn, tmps, assign, body, hy, hR⟩ := hY _ ⟨k, hlt⟩ wr hJs (by rw [fr_length _ _ hk]; exact hlt)
      obtain ⟨e1, e2, e3, e4, e5⟩ := hz.step k hlt
      have HF := Lib.hid (fr_succ lens.length k hlt)
      simp only [segV] at hy
      obtain ⟨p, hp⟩ : ∃ p, ofs lens k = p := ⟨_, rfl⟩
      obtain ⟨q, hq⟩ : ∃ q, ofs lens (k + 1) = q := ⟨_, rfl⟩
      obtain ⟨y, hy2⟩ : ∃ y, nth lens k = y := ⟨_, rfl⟩
      rw [hp, hq] at e1 hy
      rw [hp] at e2
      rw [hq] at e2 e3
      rw [hy2] at e1 e4 e5 hcx'
      have HQ := Lib.hid hq
      have hsum : (p : Int) + y = (q : Int) := by omega
      have hrun := fun W => slice_lhm A l.length cl p q e2 e3 hcl W
      have k1 : (0 : Int) ≤ (k : Int) := by omega
      have k2 : (k : Int) < (lens.length : Int) := by omega
      rw [hp]
      clear hp hq hy2 e1 hJs
      gi_wp2
      refine hR.mono ?_
      rintro e W3 (⟨rfl, hJ3, hk3⟩ | ⟨rfl, hJx3⟩)
      · gi_wp2
        go_roundw
        case rel => exact ⟨k + 1, by omega, by go_num, by rw [HQ.out], by rw [HF.out]; exact hJ3, kpB_t hnx hk3⟩
        case measure => simp [intOf]; omega
      · gi_wp2
        refine bodyPost_ret (results_none rfl _ _ _) rfl ?_
        exact ⟨⟨_, rfl⟩, .inr ⟨_, ⟨k + 1, by omega, HF.out.symm⟩, hJx3⟩⟩
    · obtain rfl : k = lens.length := by omega
      gi_wp2
      go_end0
      exact ⟨⟨_, rfl⟩, .inl ⟨_, fr_all _, hJs⟩⟩
set_option maxHeartbeats 1000000 in
theorem segs_nil_in (F : Fence) (n : Nat) (h7 : F.fn 82) (hro : F.round = none) (i Bl Bs : Nat) (A' : Option Addr) (c : Nat) (J : List (Fin (List.length ([] : List Int))) → World → Prop) (W : World) (hBs : W.cell? ⟨Bs, 0, none⟩ = some (.slice A' 0 c)) (h0 : J [] W) :
    CallsIn F n Try.prog 82 #[.func (.yield i) #[] #[], .pointer (some ⟨Bs, 0, none⟩), .pointer (some ⟨Bl, 0, none⟩)] W fun e W' => (∃ v, e = .returned v) ∧ J [] W' := by
  refine callsIn_of_wp Try.func82 rfl h7 ?_ hro
  simp only [Try.ntmps82, List.size_toArray, List.length_cons, List.length_nil, Nat.reduceAdd, Nat.reduceSub, Array.replicate_succ, Array.replicate_zero, List.push_toArray, List.append_toArray, List.nil_append, List.cons_append]
  gi_wp2
  gi_loopw [10] (fun i wr => i = .int .i64 0 ∧ J [] wr) (fun _ _ => 0)
  case atStart => exact ⟨rfl, h0⟩
  case round =>
    obtain ⟨rfl, hJs⟩ := hrel
    gi_wp2
    go_end0
    exact ⟨⟨_, rfl⟩, hJs⟩
/-- segments(l, lens) hands back a value that 'SeqStopsK', at 'Kp := Below n₀'. -/
theorem segs_stops (F : Fence) (n : Nat) (h7 : F.fn 82) (hro : F.round = none) (hn : 1 ≤ n) (Bl Bs n₀ c cl : Nat) (A A' : Option Addr) (l lens : List Int) (hz : Segs l lens) (hcl : l.length ≤ cl) (w : World) (hBs : Bs < w.heap.size) (hn₀ : n₀ ≤ w.heap.size)
    (hc : w.cell? ⟨Bs, 0, none⟩ = some (.slice A' lens.length c)) (hl : Blk w Bl 22 #[.slice A l.length cl]) (hS : 0 < lens.length → ∃ b off, A' = some ⟨b, off, none⟩ ∧ b < n₀ ∧ ∀ j, j < lens.length → w.cell? ⟨b, off + j, none⟩ = some (.int .i64 (nth lens j))) :
    SeqStopsK F n Try.prog 82 #[.pointer (some ⟨Bs, 0, none⟩), .pointer (some ⟨Bl, 0, none⟩)] (segV A lens) (KpB n₀ Bl) (fun ys => ys = List.finRange lens.length) (fun pre => ∃ k, k ≤ lens.length ∧ pre = fr lens.length k) lens.length w := fun i J Jx W hW _ _ hY h0 => by
  have hc' := (hW.cell (p := ⟨Bs, 0, none⟩) (by show Bs < w.heap.size; omega)).trans hc
  have hl' := hl.below hW hl.lt
  rcases Nat.eq_zero_or_pos lens.length with h | h
  · have e := List.eq_nil_of_length_eq_zero h
    subst e
    exact (segs_nil_in F n h7 hro i Bl Bs A' c J W hc' h0).mono fun e W' ⟨he, hj⟩ => ⟨he, .inl ⟨_, rfl, hj⟩⟩
  · obtain ⟨b, off, rfl, hb, hcs⟩ := hS h
    exact segs_in F n h7 hro hn i Bl Bs n₀ b off c cl A l lens hz hcl hb J Jx hY W hc' hl' (fun j hj => (hW.cell (p := ⟨b, off + j, none⟩) (by show b < w.heap.size; omega)).trans (hcs j hj)) h0
theorem segments_any (u v : Value) (hu : ∃ A n c, u = .slice A n c) (hv : ∃ A n c, v = .slice A n c) (w : World) : Calls Try.prog 69 #[u, v] w fun e w' => e = .returned (.func (.func 82) #[] #[.pointer (some ⟨w.heap.size + 1, 0, none⟩), .pointer (some ⟨w.heap.size, 0, none⟩)]) ∧ w' = (w.alloc (.cells #[u] 22)).alloc (.cells #[v] 22) := by
  obtain ⟨A, n, c, rfl⟩ := hu
  obtain ⟨A', n', c', rfl⟩ := hv
  go_enter Try.func69, Try.ntmps69
  go_wp2
  go_ret
  exact ⟨rfl, rfl⟩
/-! ### what a caller's invariant is made of abides the law's own book-keeping -/
/-- What leaves all that was there alone leaves also what is no cells alone. -/
theorem below_others {X Y : World} (h : Below X.heap.size X Y) : KeepsOthers X Y :=
  ⟨h.size, fun k o hk _ => (h.block k (Array.getElem?_eq_some_iff.1 hk).1).trans hk⟩
end Go.Proofs.Ytgicfgpemcagcaa
/- The mathematics of sorted segments: places by keys and numbers, splits. -/
namespace Go.Proofs.Ytgicfgpemcagcaa
set_option linter.unusedVariables false
open Go.RowKit
/-- a goes ahead of b: by keys, then by numbers. -/
def ltB (key : Int → Int) (a b : Int) : Bool := decide (key a < key b ∨ key a = key b ∧ a < b)
theorem ltB_iff (key : Int → Int) (a b : Int) : ltB key a b = true ↔ (key a < key b ∨ key a = key b ∧ a < b) := by unfold ltB; simp
theorem ltB_irr (key : Int → Int) (a : Int) : ltB key a a = false := by unfold ltB; simp
theorem ltB_asy {key : Int → Int} {a b : Int} (h : ltB key a b = true) : ltB key b a = false := by
  rw [ltB_iff] at h
  unfold ltB
  rw [decide_eq_false_iff_not]
  omega
theorem ltB_tri {key : Int → Int} {a b : Int} (h : ltB key a b = false) (h' : a ≠ b) : ltB key b a = true := by
  unfold ltB at h ⊢
  rw [decide_eq_false_iff_not] at h
  rw [decide_eq_true_iff]
  omega
/-- The numbers from lo to just below hi. -/
def rgI (lo hi : Nat) : List Int := mk (fun k => ((lo + k : Nat) : Int)) (hi - lo)
theorem rgI_len (lo hi : Nat) : (rgI lo hi).length = hi - lo := mk_length _ _
theorem mem_rgI {lo hi : Nat} {x : Int} : x ∈ rgI lo hi ↔ ∃ k : Nat, x = (k : Int) ∧ lo ≤ k ∧ k < hi := by
  unfold rgI mk
  rw [List.mem_map]
  constructor
  · rintro ⟨k, hk, rfl⟩
    rw [List.mem_range] at hk
    exact ⟨lo + k, rfl, by omega, by omega⟩
  · rintro ⟨k, rfl, h1, h2⟩
    exact ⟨k - lo, List.mem_range.2 (by omega), by congr 1; omega⟩
theorem rgI_order (lo hi : Nat) : (rgI lo hi).Pairwise (· < ·) := by
  unfold rgI mk
  rw [List.pairwise_map]
  exact List.pairwise_lt_range.imp (fun h => by omega)
theorem countP_at (r : Int → Int → Bool) (irr : ∀ a, r a a = false) (asy : ∀ a b, r a b = true → r b a = false) : ∀ (L : List Int) (hp : L.Pairwise (fun a b => r a b = true)) (j : Nat), j < L.length → L.countP (fun a => r a (nth L j)) = j
  | [], _, j, h => absurd h (by simp)
  | x :: xs, hp, 0, h => by
    rw [List.pairwise_cons] at hp
    show (x :: xs).countP (fun a => r a x) = 0
    rw [List.countP_eq_zero]
    intro a ha
    rcases List.mem_cons.1 ha with rfl | ha
    · rw [irr]; simp
    · rw [asy _ _ (hp.1 a ha)]; simp
  | x :: xs, hp, j + 1, h => by
    rw [List.pairwise_cons] at hp
    have hj : j < xs.length := by simpa using h
    have ih := countP_at r irr asy xs hp.2 j hj
    show (x :: xs).countP (fun a => r a (nth xs j)) = j + 1
    rw [List.countP_cons, ih, if_pos (hp.1 _ (nth_mem xs j hj))]
/-! ### lists that are made segment by segment -/
def glu (g : Nat → List Int) : Nat → List Int
  | 0 => []
  | s + 1 => glu g s ++ g s
theorem kp_glu (f : List Int → List Int) (l lens : List Int) : ∀ m, kpK f l lens m = glu (fun s => f (sgL l lens s)) m
  | 0 => rfl
  | m + 1 => by show kpK f l lens m ++ _ = glu _ m ++ _; rw [kp_glu f l lens m]
theorem glu_len {l lens : List Int} (hz : Segs l lens) {g : Nat → List Int} : ∀ (m : Nat), m ≤ lens.length → (∀ s, s < m → (g s).length = ofs lens (s + 1) - ofs lens s) → (glu g m).length = ofs lens m
  | 0, _, _ => by rw [ofs_zero]; rfl
  | m + 1, hm, hg => by
    have := hz.step m (by omega)
    show (glu g m ++ g m).length = _
    rw [List.length_append, glu_len hz m (by omega) (fun s hs => hg s (by omega)), hg m (by omega)]
    omega
theorem ofs_mono {l lens : List Int} (hz : Segs l lens) {a b : Nat} (hab : a ≤ b) (hb : b ≤ lens.length) : ofs lens a ≤ ofs lens b := by
  have h1 := psum_mono lens hz.pos a b hab hb
  have h2 := hz.ofs a (by omega)
  have h3 := hz.ofs b hb
  omega
theorem glu_nth {l lens : List Int} (hz : Segs l lens) {g : Nat → List Int} : ∀ (m : Nat), m ≤ lens.length → (∀ s, s < m → (g s).length = ofs lens (s + 1) - ofs lens s) → ∀ s j, s < m → j < ofs lens (s + 1) - ofs lens s → nth (glu g m) (ofs lens s + j) = nth (g s) j
  | 0, _, _, s, j, h, _ => absurd h (by omega)
  | m + 1, hm, hg, s, j, hs, hj => by
    have hl := glu_len hz m (by omega) (fun s hs => hg s (by omega))
    show nth (glu g m ++ g m) _ = _
    by_cases e : s = m
    · subst e
      rw [nth_app_ge _ _ _ (by omega), hl, show ofs lens s + j - ofs lens s = j by omega]
    · have := ofs_mono hz (show s + 1 ≤ m by omega) (by omega)
      rw [nth_app_lt _ _ _ (by omega)]
      exact glu_nth hz m (by omega) (fun s hs => hg s (by omega)) s j (by omega) hj
theorem sg_len {l lens : List Int} (hz : Segs l lens) (s : Nat) (hs : s < lens.length) : (sgL l lens s).length = ofs lens (s + 1) - ofs lens s := by
  have := hz.step s hs
  rw [hz.seg_length s hs]; omega
theorem sg_of_len {l lens : List Int} (hz : Segs l lens) {t : List Int} (ht : t.length = l.length) : Segs t lens := ⟨hz.pos, hz.few, by rw [ht]; exact hz.short, by rw [ht]; exact hz.sum⟩
/-- The segments of what is made segment by segment. -/
theorem sg_glu {l lens : List Int} (hz : Segs l lens) {g : Nat → List Int} (m : Nat) (hm : m ≤ lens.length) (hg : ∀ s, s < m → (g s).length = ofs lens (s + 1) - ofs lens s) (s : Nat) (hs : s < m) : sgL (glu g m) lens s = g s := by
  have hl := glu_len hz m hm hg
  have h1 := hz.step s (by omega)
  have h2 := ofs_mono hz (show s + 1 ≤ m by omega) hm
  have hlen : (sgL (glu g m) lens s).length = ofs lens (s + 1) - ofs lens s := by
    unfold sgL; rw [List.length_take, List.length_drop]; omega
  refine eq_of_nth (by rw [hlen, hg s hs]) fun j hj => ?_
  rw [seg_nth _ _ _ _ hj]
  exact glu_nth hz m hm hg s j hs (by omega)
/-- Each place is in one of the segments. -/
theorem seg_of {l lens : List Int} (hz : Segs l lens) : ∀ (m : Nat), m ≤ lens.length → ∀ i, i < ofs lens m → ∃ s, s < m ∧ ofs lens s ≤ i ∧ i < ofs lens (s + 1)
  | 0, _, i, h => by rw [ofs_zero] at h; omega
  | m + 1, hm, i, h => by
    by_cases hi : i < ofs lens m
    · obtain ⟨s, h1, h2⟩ := seg_of hz m (by omega) i hi
      exact ⟨s, by omega, h2⟩
    · exact ⟨m, by omega, by omega, h⟩
/-- Two lists are the same if their segments are. -/
theorem eq_of_sg {l t lens : List Int} (hz : Segs l lens) (ht : t.length = l.length) (h : ∀ s, s < lens.length → sgL l lens s = sgL t lens s) : l = t := by
  refine eq_of_nth ht.symm fun i hi => ?_
  obtain ⟨s, h1, h2, h3⟩ := seg_of hz lens.length (Nat.le_refl _) i (by rw [hz.ofs_all]; exact hi)
  have e := h s h1
  have hl := sg_len hz s h1
  have hl' := sg_len (sg_of_len hz ht) s h1
  have e1 := seg_nth l lens s (i - ofs lens s) (by omega)
  have e2 := seg_nth t lens s (i - ofs lens s) (by omega)
  rw [show ofs lens s + (i - ofs lens s) = i by omega] at e1 e2
  rw [← e1, ← e2, e]
theorem up_nth (n k : Nat) (h : k < n) : nth (upL n) k = (k : Int) := nth_mk _ _ _ h
theorem up_length (n : Nat) : (upL n).length = n := mk_length _ _
theorem sg_up {n : Nat} {lens : List Int} (hz : Segs (upL n) lens) (s : Nat) (hs : s < lens.length) : sgL (upL n) lens s = rgI (ofs lens s) (ofs lens (s + 1)) := by
  have h1 := hz.step s hs
  have hl := sg_len hz s hs
  rw [up_length] at h1
  refine eq_of_nth (by rw [hl, rgI_len]) fun j hj => ?_
  rw [seg_nth _ _ _ _ hj, up_nth _ _ (by omega)]
  unfold rgI
  rw [nth_mk _ _ _ (by omega)]
/-! ### numbers, segment by segment, in order of keys -/
/-- Each segment of S has its own numbers; the first k of them are in order. -/
structure SInvK (key : Int → Int) (lens S : List Int) (k : Nat) : Prop where
  segs : Segs S lens
  perm : ∀ s, s < lens.length → (sgL S lens s).Perm (rgI (ofs lens s) (ofs lens (s + 1)))
  order : ∀ s, s < k → s < lens.length → (sgL S lens s).Pairwise (fun a b => ltB key a b = true)
def SInv (key : Int → Int) (lens S : List Int) : Prop := SInvK key lens S lens.length
theorem sinv_up {n : Nat} {lens : List Int} (hz : Segs (upL n) lens) (key : Int → Int) : SInvK key lens (upL n) 0 :=
  ⟨hz, fun s hs => by rw [sg_up hz s hs], fun s h => absurd h (by omega)⟩
theorem sinv_up0 {n : Nat} {lens : List Int} (hz : Segs (upL n) lens) (key : Int → Int) (hk : ∀ a b, key a = key b) : SInv key lens (upL n) :=
  ⟨hz, fun s hs => by rw [sg_up hz s hs], fun s _ hs => by
    rw [sg_up hz s hs]
    exact (rgI_order _ _).imp (fun {a b} h => by rw [ltB_iff]; exact .inr ⟨hk a b, h⟩)⟩
theorem SInvK.zero {key key' : Int → Int} {lens S : List Int} {k : Nat} (h : SInvK key lens S k) : SInvK key' lens S 0 := ⟨h.segs, h.perm, fun s hs => absurd hs (by omega)⟩
theorem SInvK.mem {key : Int → Int} {lens S : List Int} {k : Nat} (h : SInvK key lens S k) (s j : Nat) (hs : s < lens.length) (hj : j < ofs lens (s + 1) - ofs lens s) : ∃ x : Nat, nth S (ofs lens s + j) = (x : Int) ∧ ofs lens s ≤ x ∧ x < ofs lens (s + 1) := by
  have hl := sg_len h.segs s hs
  have hm := nth_mem (sgL S lens s) j (by omega)
  rw [(h.perm s hs).mem_iff, mem_rgI, seg_nth _ _ _ _ (by omega)] at hm
  exact hm
theorem SInvK.num {key : Int → Int} {lens S : List Int} {k : Nat} (h : SInvK key lens S k) (i : Nat) (hi : i < S.length) : ∃ x : Nat, nth S i = (x : Int) ∧ x < S.length := by
  obtain ⟨s, h1, h2, h3⟩ := seg_of h.segs lens.length (Nat.le_refl _) i (by rw [h.segs.ofs_all]; exact hi)
  obtain ⟨x, hx, h4, h5⟩ := h.mem s (i - ofs lens s) h1 (by omega)
  rw [show ofs lens s + (i - ofs lens s) = i by omega] at hx
  have := h.segs.step s h1
  exact ⟨x, hx, by omega⟩
theorem rgI_nodup (lo hi : Nat) : (rgI lo hi).Nodup := (rgI_order lo hi).imp (fun h => by omega)
theorem nodup_nth {L : List Int} (h : L.Nodup) {i j : Nat} (hi : i < L.length) (hj : j < L.length) (e : nth L i = nth L j) : i = j := by
  rw [nth_eq L i hi, nth_eq L j hj] at e
  have h' := List.pairwise_iff_getElem.1 h
  rcases Nat.lt_trichotomy i j with h1 | h1 | h1
  · exact absurd e (h' i j hi hj h1)
  · exact h1
  · exact absurd e.symm (h' j i hj hi h1)
theorem SInvK.inj {key : Int → Int} {lens S : List Int} {k : Nat} (h : SInvK key lens S k) {i j : Nat} (hi : i < S.length) (hj : j < S.length) (e : nth S i = nth S j) : i = j := by
  obtain ⟨s, h1, h2, h3⟩ := seg_of h.segs lens.length (Nat.le_refl _) i (by rw [h.segs.ofs_all]; exact hi)
  obtain ⟨t, g1, g2, g3⟩ := seg_of h.segs lens.length (Nat.le_refl _) j (by rw [h.segs.ofs_all]; exact hj)
  obtain ⟨x, hx, h4, h5⟩ := h.mem s (i - ofs lens s) h1 (by omega)
  obtain ⟨y, hy, g4, g5⟩ := h.mem t (j - ofs lens t) g1 (by omega)
  rw [show ofs lens s + (i - ofs lens s) = i by omega] at hx
  rw [show ofs lens t + (j - ofs lens t) = j by omega] at hy
  rw [hx, hy] at e
  have est : s = t := by
    rcases Nat.lt_trichotomy s t with h6 | h6 | h6
    · have := ofs_mono h.segs (show s + 1 ≤ t by omega) (by omega : t ≤ lens.length); omega
    · exact h6
    · have := ofs_mono h.segs (show t + 1 ≤ s by omega) (by omega : s ≤ lens.length); omega
  subst est
  have hl := sg_len h.segs s h1
  have hnd : (sgL S lens s).Nodup := (h.perm s h1).nodup_iff.2 (rgI_nodup _ _)
  have := nodup_nth hnd (i := i - ofs lens s) (j := j - ofs lens s) (by omega) (by omega) (by
    rw [seg_nth _ _ _ _ (by omega), seg_nth _ _ _ _ (by omega), show ofs lens s + (i - ofs lens s) = i by omega, show ofs lens s + (j - ofs lens s) = j by omega, hx, hy, e])
  omega
/-! ### what leads back -/
theorem bkK_at {p : List Int} (hinj : ∀ i j, i < p.length → j < p.length → nth p i = nth p j → i = j) (hr : ∀ i, i < p.length → 0 ≤ nth p i ∧ nth p i < p.length) : ∀ (k : Nat), k ≤ p.length → ∀ i, i < k → nth (bkK p p.length k) (nth p i).toNat = (i : Int)
  | 0, _, i, h => absurd h (by omega)
  | k + 1, hk, i, hi => by
    have hl := bkK_len p p.length k
    have h1 := hr i (by omega)
    have h2 := hr k (by omega)
    show nth ((bkK p p.length k).set (nth p k).toNat k) (nth p i).toNat = _
    by_cases e : i = k
    · subst e
      rw [nth_eq _ _ (by rw [List.length_set, hl]; omega), List.getElem_set_self]
    · have hne : (nth p k).toNat ≠ (nth p i).toNat := fun e2 => e (hinj i k (by omega) (by omega) (by omega))
      have ih := bkK_at hinj hr k (by omega) i (by omega)
      rw [nth_eq _ _ (by rw [List.length_set, hl]; omega), List.getElem_set_ne hne, ← nth_eq _ _ (by rw [hl]; omega)]
      exact ih
theorem bkL_at {p : List Int} (hinj : ∀ i j, i < p.length → j < p.length → nth p i = nth p j → i = j) (hr : ∀ i, i < p.length → 0 ≤ nth p i ∧ nth p i < p.length) (i : Nat) (hi : i < p.length) : nth (bkL p) (nth p i).toNat = (i : Int) := bkK_at hinj hr p.length (Nat.le_refl _) i hi
/-- The place of the number i in its segment, from lo to hi. -/
def plc (key : Int → Int) (lo hi : Nat) (i : Int) : Nat := lo + (rgI lo hi).countP (fun a => ltB key a i)
def plcS (key : Int → Int) (lo hi : Nat) : List Int := mk (fun j => ((plc key lo hi ((lo + j : Nat) : Int) : Nat) : Int)) (hi - lo)
def plcL (key : Int → Int) (lens : List Int) (m : Nat) : List Int := glu (fun s => plcS key (ofs lens s) (ofs lens (s + 1))) m
theorem plcS_len (key : Int → Int) (lo hi : Nat) : (plcS key lo hi).length = hi - lo := mk_length _ _
theorem plcL_len {l lens : List Int} (hz : Segs l lens) (key : Int → Int) : (plcL key lens lens.length).length = l.length := by
  rw [← hz.ofs_all]; exact glu_len hz _ (Nat.le_refl _) fun s _ => plcS_len _ _ _
theorem plcL_nth {l lens : List Int} (hz : Segs l lens) (key : Int → Int) (s i : Nat) (hs : s < lens.length) (h1 : ofs lens s ≤ i) (h2 : i < ofs lens (s + 1)) : nth (plcL key lens lens.length) i = ((plc key (ofs lens s) (ofs lens (s + 1)) (i : Int) : Nat) : Int) := by
  have := glu_nth hz (g := fun s => plcS key (ofs lens s) (ofs lens (s + 1))) lens.length (Nat.le_refl _) (fun s _ => plcS_len _ _ _) s (i - ofs lens s) hs (by omega)
  rw [show ofs lens s + (i - ofs lens s) = i by omega] at this
  unfold plcL
  rw [this]
  unfold plcS
  rw [nth_mk _ _ _ (by omega), show ofs lens s + (i - ofs lens s) = i by omega]
/-- Numbers in order stand at their places. -/
theorem SInv.at_ {key : Int → Int} {lens S : List Int} (h : SInv key lens S) (s j : Nat) (hs : s < lens.length) (hj : j < ofs lens (s + 1) - ofs lens s) : plc key (ofs lens s) (ofs lens (s + 1)) (nth S (ofs lens s + j)) = ofs lens s + j := by
  have hl := sg_len h.segs s hs
  have := countP_at (ltB key) (ltB_irr key) (fun a b => ltB_asy) (sgL S lens s) (h.order s hs hs) j (by omega)
  unfold plc
  rw [← (h.perm s hs).countP_eq, ← seg_nth S lens s j (by omega), this]
theorem SInv.back {key : Int → Int} {lens S : List Int} (h : SInv key lens S) : bkL S = plcL key lens lens.length := by
  have hz := h.segs
  have hll := plcL_len hz key
  refine eq_of_nth (by rw [bkL_len, hll]) fun i hi => ?_
  rw [bkL_len] at hi
  obtain ⟨s, h1, h2, h3⟩ := seg_of hz lens.length (Nat.le_refl _) i (by rw [hz.ofs_all]; exact hi)
  have hl := sg_len hz s h1
  -- i stands somewhere in its segment
  have hmem : (i : Int) ∈ sgL S lens s := by rw [(h.perm s h1).mem_iff, mem_rgI]; exact ⟨i, rfl, h2, h3⟩
  obtain ⟨j, hj, hji⟩ := List.mem_iff_getElem.1 hmem
  have hji' : nth S (ofs lens s + j) = (i : Int) := by rw [← seg_nth S lens s j hj, nth_eq _ _ hj]; exact hji
  have hst := h.segs.step s h1
  have hb := bkL_at (p := S) (fun a b ha hb e => h.inj ha hb e) (fun a ha => by
    obtain ⟨x, hx, hx2⟩ := h.num a ha
    omega) (ofs lens s + j) (by omega)
  rw [hji', Int.toNat_natCast] at hb
  rw [hb, plcL_nth hz key s i h1 h2 h3]
  have := h.at_ s j h1 (by omega)
  rw [hji'] at this
  rw [this]
theorem plcL_congr {l lens : List Int} (hz : Segs l lens) {key key' : Int → Int} (h : ∀ a b : Nat, a < l.length → b < l.length → ltB key a b = ltB key' a b) : plcL key lens lens.length = plcL key' lens lens.length := by
  refine eq_of_nth (by rw [plcL_len hz, plcL_len hz]) fun i hi => ?_
  rw [plcL_len hz] at hi
  obtain ⟨s, h1, h2, h3⟩ := seg_of hz lens.length (Nat.le_refl _) i (by rw [hz.ofs_all]; exact hi)
  rw [plcL_nth hz key s i h1 h2 h3, plcL_nth hz key' s i h1 h2 h3]
  have hst := hz.step s h1
  unfold plc
  congr 2
  refine List.countP_congr fun x hx => ?_
  obtain ⟨k, rfl, hk1, hk2⟩ := mem_rgI.1 hx
  rw [h k i (by omega) hi]
/-! ### splits -/
/-- Those that are set go behind the others. -/
def spF (b : Int → Bool) (part : List Int) : List Int := part.filter (fun x => !b x) ++ part.filter b
theorem spF_perm (b : Int → Bool) (part : List Int) : (spF b part).Perm part := by
  unfold spF
  refine List.perm_append_comm.trans ?_
  exact List.filter_append_perm b part
theorem spF_len (b : Int → Bool) (part : List Int) : (spF b part).length = part.length := (spF_perm b part).length_eq
theorem spF_order {key key' : Int → Int} {b : Int → Bool} {part : List Int} (h : part.Pairwise (fun x y => ltB key x y = true)) (hk : ∀ x ∈ part, ∀ y ∈ part, b x = b y → ltB key x y = true → ltB key' x y = true) (hk2 : ∀ x ∈ part, ∀ y ∈ part, b x = false → b y = true → ltB key' x y = true) : (spF b part).Pairwise (fun x y => ltB key' x y = true) := by
  unfold spF
  rw [List.pairwise_append]
  refine ⟨?_, ?_, ?_⟩
  · have h1 := h.filter (fun x => !b x)
    refine List.Pairwise.imp_of_mem (fun {x y} hx hy hxy => ?_) h1
    rw [List.mem_filter] at hx hy
    have e1 : b x = false := by simpa using hx.2
    have e2 : b y = false := by simpa using hy.2
    exact hk x hx.1 y hy.1 (by rw [e1, e2]) hxy
  · have h1 := h.filter b
    refine List.Pairwise.imp_of_mem (fun {x y} hx hy hxy => ?_) h1
    rw [List.mem_filter] at hx hy
    exact hk x hx.1 y hy.1 (by rw [hx.2, hy.2]) hxy
  · intro x hx y hy
    rw [List.mem_filter] at hx hy
    exact hk2 x hx.1 y hy.1 (by simpa using hx.2) hy.2
theorem kp_len {f : List Int → List Int} (hf : ∀ s, (f s).length = s.length) {l lens : List Int} (hz : Segs l lens) : (kpK f l lens lens.length).length = l.length := by
  rw [hz.kp_len hf _ (Nat.le_refl _), hz.ofs_all]
theorem sg_kp {f : List Int → List Int} (hf : ∀ s, (f s).length = s.length) {l lens : List Int} (hz : Segs l lens) (s : Nat) (hs : s < lens.length) : sgL (kpK f l lens lens.length) lens s = f (sgL l lens s) := by
  rw [kp_glu]
  exact sg_glu hz _ (Nat.le_refl _) (fun t ht => by rw [hf, sg_len hz t ht]) s hs
theorem SInv.split {key key' : Int → Int} {b : Int → Bool} {lens S : List Int} (h : SInv key lens S) (hk : ∀ x y : Nat, x < S.length → y < S.length → b x = b y → ltB key x y = true → ltB key' x y = true) (hk2 : ∀ x y : Nat, x < S.length → y < S.length → b x = false → b y = true → ltB key' x y = true) : SInv key' lens (kpK (spF b) S lens lens.length) := by
  have hz := h.segs
  have hl := kp_len (spF_len b) hz
  have hin : ∀ s, s < lens.length → ∀ x ∈ sgL S lens s, ∃ k : Nat, x = (k : Int) ∧ k < S.length := fun s hs x hx => by
    rw [(h.perm s hs).mem_iff, mem_rgI] at hx
    obtain ⟨k, rfl, h1, h2⟩ := hx
    have := hz.step s hs
    exact ⟨k, rfl, by omega⟩
  refine ⟨sg_of_len hz hl, fun s hs => ?_, fun s _ hs => ?_⟩
  · rw [sg_kp (spF_len b) hz s hs]
    exact (spF_perm b _).trans (h.perm s hs)
  · rw [sg_kp (spF_len b) hz s hs]
    refine spF_order (h.order s hs hs) (fun x hx y hy => ?_) (fun x hx y hy => ?_)
    · obtain ⟨a, rfl, ha⟩ := hin s hs x hx
      obtain ⟨c, rfl, hc⟩ := hin s hs y hy
      exact hk a c ha hc
    · obtain ⟨a, rfl, ha⟩ := hin s hs x hx
      obtain ⟨c, rfl, hc⟩ := hin s hs y hy
      exact hk2 a c ha hc
/-- The key of the lowest k bits of the word of a number. -/
def keyK (l : List Int) (k : Nat) (x : Int) : Int := (nth l x.toNat + 2147483648) % 2 ^ k
theorem keyK_zero (l : List Int) (x : Int) : keyK l 0 x = 0 := by unfold keyK; simp [Int.emod_one]
theorem mod_pow_succ (m p : Int) (h2 : 0 < p) : m % (p * 2) = m % p + p * (m / p % 2) := by
  have e1 : m % p + p * (m / p) = m := Int.emod_add_mul_ediv m p
  have e2 : m / p % 2 + 2 * (m / p / 2) = m / p := Int.emod_add_mul_ediv (m / p) 2
  have b1 := Int.emod_nonneg m (show p ≠ 0 by omega)
  have b2 := Int.emod_lt_of_pos m h2
  have e4 : m = (m % p + p * (m / p % 2)) + (p * 2) * (m / p / 2) := by
    have : p * (m / p) = p * (m / p % 2) + (p * 2) * (m / p / 2) := by
      rw [Int.mul_assoc, ← Int.mul_add, e2]
    omega
  have e5 : (m % p + p * (m / p % 2)) % (p * 2) = m % p + p * (m / p % 2) := by
    rcases (show m / p % 2 = 0 ∨ m / p % 2 = 1 by omega) with h | h
    · rw [h]; exact Int.emod_eq_of_lt (by omega) (by omega)
    · rw [h]; exact Int.emod_eq_of_lt (by omega) (by omega)
  conv => lhs; rw [e4]
  rw [Int.add_mul_emod_self_left, e5]
theorem keyK_succ (l : List Int) (k : Nat) (x : Int) : keyK l (k + 1) x = keyK l k x + (if bitB (nth l x.toNat) k = true then 2 ^ k else 0) := by
  unfold keyK bitB
  have h2 : (0 : Int) < 2 ^ k := Int.pow_pos (by omega)
  rw [Int.pow_succ, mod_pow_succ _ _ h2]
  rcases (show (nth l x.toNat + 2147483648) / 2 ^ k % 2 = 0 ∨ (nth l x.toNat + 2147483648) / 2 ^ k % 2 = 1 by omega) with h | h
  · rw [h]; simp
  · rw [h]; simp
theorem keyK_lt (l : List Int) (k : Nat) (x : Int) : 0 ≤ keyK l k x ∧ keyK l k x < 2 ^ k := by
  have h2 : (0 : Int) < 2 ^ k := Int.pow_pos (by omega)
  exact ⟨Int.emod_nonneg _ (by omega), Int.emod_lt_of_pos _ h2⟩
theorem SInv.pass {l lens S : List Int} {k : Nat} (h : SInv (keyK l k) lens S) : SInv (keyK l (k + 1)) lens (kpK (spF fun x => bitB (nth l x.toNat) k) S lens lens.length) := by
  refine h.split (fun x y hx hy hb hlt => ?_) (fun x y hx hy h1 h2 => ?_)
  · rw [ltB_iff] at hlt ⊢
    rw [keyK_succ, keyK_succ, hb]
    omega
  · rw [ltB_iff, keyK_succ, keyK_succ, h1, h2]
    have := keyK_lt l k x
    have := keyK_lt l k y
    simp
    omega
theorem keyK_all {l : List Int} (hw : ∀ j, j < l.length → isW (nth l j)) (x : Nat) (hx : x < l.length) : keyK l 32 x = nth l x + 2147483648 := by
  have := hw x hx
  unfold isW at this
  unfold keyK
  rw [Int.toNat_natCast]
  exact Int.emod_eq_of_lt (by omega) (by omega)
end Go.Proofs.Ytgicfgpemcagcaa
