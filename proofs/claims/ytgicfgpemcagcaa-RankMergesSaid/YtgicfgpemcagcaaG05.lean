/- Walks and mathematics of rank, part 5. -/
import Derived.Test.YtgicfgpemcagcaaG04
import Derived.Deep.CutRange
import Derived.Laws.MakeOwn
import Derived.Deep.QuietTactic
import Derived.BigQuiet
import Derived.StillTail
/- Walks of prim: placewise.first, at each of its closures. -/
namespace Go.Proofs.Ytgicfgpemcagcaa
set_option linter.unusedVariables false
open Go.RowKit

end Go.Proofs.Ytgicfgpemcagcaa
/- Walks of prim: check, checkEven, total. -/
namespace Go.Proofs.Ytgicfgpemcagcaa
set_option linter.unusedVariables false
open Go.RowKit

theorem below_drewN' (w : World) (m : Nat) : Below w.heap.size w (w.drewN m) := below_drewN (Below.refl _ _) m
/-- 'Returned this value, and nothing of old is turned'. -/
theorem Drew.retV {w : World} {v : Value} {e : Ending} {w' : World} (h : Drew w v e w') : RetV w v e w' := by
  obtain ⟨h1, m, rfl⟩ := h
  exact ⟨h1, below_drewN' w m⟩
theorem Sll.drewN {w : World} {A : Option Addr} {L : List (List Int)} (h : Sll w A L) (m : Nat) : Sll (w.drewN m) A L := h
theorem Sll.len {w : World} {A : Option Addr} {L : List (List Int)} (h : Sll w A L) : True := trivial
theorem Sll.below {w w' : World} {A : Option Addr} {L : List (List Int)} (h : Sll w A L) (hb : Below w.heap.size w w') : Sll w' A L := fun hl => by
  obtain ⟨b, off, e, hlt, hc⟩ := h hl
  refine ⟨b, off, e, Nat.lt_of_lt_of_le hlt hb.size, fun j hj => ?_⟩
  obtain ⟨A', c', h1, h2, h3⟩ := hc j hj
  exact ⟨A', c', (hb.cell (p := ⟨b, off + j, none⟩) hlt).trans h1, h2, h3.step hb⟩
def AllShort (L : List (List Int)) : Prop := ∀ j, j < L.length → (nthL L j).length ≤ 9223372036854775807

theorem headD_nthL (L : List (List Int)) : L.headD [] = nthL L 0 := by cases L <;> rfl
/-! ### at their lists -/
theorem sll1 {w : World} {g : Nat} {A1 : Option Addr} {c1 : Nat} {l1 : List Int} (hb : Blk w g 22 #[.slice A1 l1.length c1]) (h1 : Sl w A1 l1) (hc1 : l1.length ≤ c1) : Sll w (some ⟨g, 0, none⟩) [l1] := fun _ =>
  ⟨g, 0, rfl, hb.lt, fun j hj => by
    match j, hj with
    | 0, _ => exact ⟨A1, c1, (hb.cell 0), hc1, h1⟩⟩
theorem sll2 {w : World} {g : Nat} {A1 A2 : Option Addr} {c1 c2 : Nat} {l1 l2 : List Int} (hb : Blk w g 22 #[.slice A1 l1.length c1, .slice A2 l2.length c2]) (h1 : Sl w A1 l1) (h2 : Sl w A2 l2) (hc1 : l1.length ≤ c1) (hc2 : l2.length ≤ c2) : Sll w (some ⟨g, 0, none⟩) [l1, l2] := fun _ =>
  ⟨g, 0, rfl, hb.lt, fun j hj => by
    match j, hj with
    | 0, _ => exact ⟨A1, c1, (hb.cell 0), hc1, h1⟩
    | 1, _ => exact ⟨A2, c2, (hb.cell 1), hc2, h2⟩⟩
theorem sll3 {w : World} {g : Nat} {A1 A2 A3 : Option Addr} {c1 c2 c3 : Nat} {l1 l2 l3 : List Int} (hb : Blk w g 22 #[.slice A1 l1.length c1, .slice A2 l2.length c2, .slice A3 l3.length c3]) (h1 : Sl w A1 l1) (h2 : Sl w A2 l2) (h3 : Sl w A3 l3) (hc1 : l1.length ≤ c1) (hc2 : l2.length ≤ c2) (hc3 : l3.length ≤ c3) : Sll w (some ⟨g, 0, none⟩) [l1, l2, l3] := fun _ =>
  ⟨g, 0, rfl, hb.lt, fun j hj => by
    match j, hj with
    | 0, _ => exact ⟨A1, c1, (hb.cell 0), hc1, h1⟩
    | 1, _ => exact ⟨A2, c2, (hb.cell 1), hc2, h2⟩
    | 2, _ => exact ⟨A3, c3, (hb.cell 2), hc3, h3⟩⟩
theorem allShort_of {L : List (List Int)} (h : ∀ l ∈ L, l.length ≤ 9223372036854775807) : AllShort L := fun j hj => h _ (nthL_mem L j hj)
def Ok (l : List Int) : Prop := l.length ≤ 9223372036854775807
/-! ### total -/
theorem totE_neg {l : List Int} (h : posB l = false) : totE l = 14 := by simp [totE, h]
theorem sum_bound (l : List Int) (hw : ∀ j, j < l.length → isW (nth l j)) (k : Nat) (hk : k ≤ l.length) : -2147483648 * (k : Int) ≤ psum l k ∧ psum l k ≤ 2147483648 * (k : Int) := by
  induction k with
  | zero => simp [psum_zero]
  | succ k ih =>
    have := ih (by omega)
    have h1 := hw k (by omega)
    unfold isW at h1
    rw [psum_succ l k (by omega)]
    omega
end Go.Proofs.Ytgicfgpemcagcaa
/- A region that draws its order, of which each operation of the head leaves one value and keeps a condition on the world, whatever the order is, and whose tail waits for all of the head: it is walked once, in the order of the text. -/
namespace Go.Proofs.Ytgicfgpemcagcaa
open Go
section
variable {P : Program} {Q : Exit → Act → World → Prop} {S : World → Prop}

/-- In state a the operation leaves v in every world that meets S, and S holds behind it. -/
def Gives (P : Program) (S : World → Prop) (o : Oper) (v : Value) (a : Act) : Prop :=
  ∀ w, S w → (execOp a.eval o).run P w = .ok (.value v) w ∨ ∃ f args, (execOp a.eval o).run P w = .ok (.enter f args) w ∧ Calls P f args w (fun e w' => e = .returned v ∧ S w')

theorem Gives.wp {o : Oper} {v : Value} {a : Act} (h : Gives P S o v a) {w : World} (hS : S w) {K : Act → World → Prop} (hK : ∀ w', S w' → K (a.put o.dst v) w') : o.wp P a w K Q := by
  unfold Oper.wp
  rcases h w hS with h | ⟨f, args, h, hc⟩
  · rw [h]; exact hK w hS
  · rw [h]
    refine Calls.mono hc fun e w' ⟨he, hw⟩ => ?_
    subst he
    exact hK w' hw

theorem Gives.same {o : Oper} {v : Value} {a a' : Act} (h : Gives P S o v a) (he : execOp a'.eval o = execOp a.eval o) : Gives P S o v a' := by
  unfold Gives at *
  rw [he]
  exact h

def wpTab (P : Program) (S : World → Prop) (L : Act → Prop) : List Oper → Act → Prop
  | [], a => L a
  | o :: r, a => ∃ v, Gives P S o v a ∧ wpTab P S L r (a.put o.dst v)

theorem wpTab_nil {L : Act → Prop} {a : Act} (h : L a) : wpTab P S L [] a := h
theorem wpTab_value {L : Act → Prop} {a : Act} {o : Oper} {r : List Oper} {v : Value} (h : ∀ w, S w → (execOp a.eval o).run P w = .ok (.value v) w) (hr : wpTab P S L r (a.put o.dst v)) : wpTab P S L (o :: r) a :=
  ⟨v, fun w hS => .inl (h w hS), hr⟩
theorem wpTab_call {L : Act → Prop} {a : Act} {o : Oper} {r : List Oper} {v : Value} {f : FuncId} {args : Array Value} (h : ∀ w, (execOp a.eval o).run P w = .ok (.enter f args) w)
    (hc : ∀ w, S w → Calls P f args w (fun e w' => e = .returned v ∧ S w')) (hr : wpTab P S L r (a.put o.dst v)) : wpTab P S L (o :: r) a :=
  ⟨v, fun w hS => .inr ⟨f, args, h w, hc w hS⟩, hr⟩

theorem tab_acts {L : Act → Prop} : ∀ (l : List Oper) (a : Act), wpTab P S L l a →
    ∃ (A : Nat → Act) (v : Nat → Value), A 0 = a ∧ (∀ k o, l[k]? = some o → Gives P S o (v k) (A k) ∧ A (k + 1) = (A k).put o.dst (v k)) ∧ L (A l.length)
  | [], a, h => ⟨fun _ => a, fun _ => undef, rfl, fun k o ho => by simp at ho, h⟩
  | o :: r, a, ⟨v, hv, h⟩ => by
    obtain ⟨A, vs, h0, hs, hL⟩ := tab_acts r _ h
    refine ⟨fun | 0 => a | k + 1 => A k, fun | 0 => v | k + 1 => vs k, rfl, fun k o' ho' => ?_, hL⟩
    cases k with
    | zero =>
      simp only [List.getElem?_cons_zero, Option.some.injEq] at ho'
      subst ho'
      exact ⟨hv, h0⟩
    | succ k => exact hs k o' (by simpa using ho')

def dstAt (l : List Oper) (j : Nat) : Option Tmp := (l[j]?).bind (·.dst)

def tabB (l : List Oper) (n : Nat) : Bool :=
  decide (n < l.length) && Region.noSelect l.toArray && Region.sinkB .any l.toArray n && Region.chainB .any l.toArray n &&
  ((List.range n).all fun k => match l[k]? with
    | some o => o.guard.isNone && (o.after.all fun e => decide (e.on < k)) && ((List.range n).all fun j => j == k || match dstAt l j with
        | some t => (dstAt l k != some t) && (!(o.looksAt l.toArray).contains t || (decide (j < k) && Region.waitsFor .any l.toArray k j))
        | none => true)
    | none => false) &&
  Region.seqB .any l.toArray (l.length - n) n (List.replicate n true ++ List.replicate (l.length - n) false).toArray

theorem put_size (a : Act) (d : Option Tmp) (v : Value) : (a.put d v).tmps.size = a.tmps.size := by
  cases d <;> simp [Act.put]
theorem put_defers' (a : Act) (d : Option Tmp) (v : Value) : (a.put d v).defers = a.defers := by
  cases d <;> rfl
theorem put_far (a : Act) (d : Option Tmp) (v : Value) (t : Tmp) (h : d ≠ some t) : (a.put d v).tmps[t]? = a.tmps[t]? := by
  cases d with
  | none => rfl
  | some d =>
    have : d ≠ t := fun e => h (e ▸ rfl)
    simp [Act.put, Array.getElem?_setIfInBounds_ne this]
theorem put_near (a b : Act) (t : Tmp) (v : Value) (h : a.tmps.size = b.tmps.size) : (a.put (some t) v).tmps[t]? = (b.put (some t) v).tmps[t]? := by
  simp [Act.put, Array.getElem?_setIfInBounds, h]

structure TabInv (l : List Oper) (n : Nat) (A : Nat → Act) (listed : Array Bool) (a : Act) : Prop where
  inv : HeadInv .any l.toArray n listed
  defers : a.defers = (A 0).defers
  size : a.tmps.size = (A 0).tmps.size
  near : ∀ j, j < n → listed.getD j false = true → ∀ t, dstAt l j = some t → a.tmps[t]? = (A n).tmps[t]?
  far : ∀ t, (∀ j, j < n → listed.getD j false = true → dstAt l j ≠ some t) → a.tmps[t]? = (A 0).tmps[t]?

theorem count_set_true {listed : Array Bool} {i : Nat} {f : Nat} (h : listed.getD i true = false) (hc : listed.toList.count false = f + 1) : (listed.setIfInBounds i true).toList.count false = f := by
  rcases Nat.lt_or_ge i listed.size with h' | h'
  · simp [h'] at h
    have := List.count_set (a := true) (b := false) (l := listed.toList) (i := i) (by simpa using h')
    rw [Array.toList_setIfInBounds, this, hc]
    simp [h]
  · simp [Array.getElem?_eq_none h'] at h

theorem wpAny_tab {l : List Oper} {n : Nat} {A : Nat → Act} {v : Nat → Value} (hB : tabB l n = true)
    (hA : ∀ k o, k < n → l[k]? = some o → Gives P S o (v k) (A k) ∧ A (k + 1) = (A k).put o.dst (v k))
    (hL : ∀ w, S w → wpList P l.toArray Q (l.drop n) (A n) w) :
    ∀ (fuel : Nat) (listed : Array Bool) (a : Act) (w : World), listed.toList.count false = fuel → TabInv l n A listed a → S w → wpAny P .any l.toArray Q fuel listed a w := by
  simp only [tabB, Bool.and_eq_true, decide_eq_true_eq] at hB
  obtain ⟨⟨⟨⟨⟨hn, hsel⟩, hsink⟩, hchain⟩, hall⟩, hseq⟩ := hB
  have hn' : n < l.toArray.size := by simpa using hn
  have hk : ∀ k, k < n → ∃ o, l[k]? = some o ∧ o.guard = none ∧ (∀ e ∈ o.after, e.on < k) ∧ ∀ j, j < n → j ≠ k → ∀ t, dstAt l j = some t → dstAt l k ≠ some t ∧ (t ∈ o.looksAt l.toArray → j < k ∧ Region.waitsFor .any l.toArray k j = true) := by
    intro k hkn
    have := List.all_eq_true.1 hall k (List.mem_range.2 hkn)
    cases ho : l[k]? with
    | none => rw [ho] at this; simp at this
    | some o =>
      rw [ho] at this
      simp only [Bool.and_eq_true] at this
      obtain ⟨⟨h1, h2⟩, h3⟩ := this
      refine ⟨o, rfl, by simpa using h1, fun e he => by simpa using Array.all_eq_true_iff_forall_mem.1 h2 e he, fun j hj hjk t ht => ?_⟩
      have h4 := List.all_eq_true.1 h3 j (List.mem_range.2 hj)
      simp only [Bool.or_eq_true, beq_iff_eq, hjk, false_or, ht, Bool.and_eq_true, bne_iff_ne, ne_eq, Bool.not_eq_true', decide_eq_true_eq] at h4
      refine ⟨h4.1, fun ht' => ?_⟩
      rcases h4.2 with h5 | h5
      · rw [List.contains_iff_mem.2 ht'] at h5; cases h5
      · exact h5
  have hAd : ∀ k, k ≤ n → (A k).defers = (A 0).defers ∧ (A k).tmps.size = (A 0).tmps.size := by
    intro k
    induction k with
    | zero => exact fun _ => ⟨rfl, rfl⟩
    | succ k ih =>
      intro hkn
      obtain ⟨o, ho, _⟩ := hk k (by omega)
      obtain ⟨h1, h2⟩ := ih (by omega)
      rw [(hA k o (by omega) ho).2, put_defers', put_size]
      exact ⟨h1, h2⟩
  have hAfar : ∀ t k, k ≤ n → (∀ j, j < k → dstAt l j ≠ some t) → (A k).tmps[t]? = (A 0).tmps[t]? := by
    intro t k
    induction k with
    | zero => exact fun _ _ => rfl
    | succ k ih =>
      intro hkn hd
      obtain ⟨o, ho, _⟩ := hk k (by omega)
      have hdk : o.dst ≠ some t := by have := hd k (by omega); simpa [dstAt, ho] using this
      rw [(hA k o (by omega) ho).2, put_far _ _ _ _ hdk]
      exact ih (by omega) fun j hj => hd j (by omega)
  have hAnear : ∀ t j, j < n → dstAt l j = some t → ∀ k, j < k → k ≤ n → (A k).tmps[t]? = (A (j + 1)).tmps[t]? := by
    intro t j hj hd k
    induction k with
    | zero => intro h; omega
    | succ k ih =>
      intro hjk hkn
      by_cases hjk' : j = k
      · subst hjk'; rfl
      · obtain ⟨o, ho, _, _, h3⟩ := hk k (by omega)
        have hdk : o.dst ≠ some t := by have := (h3 j hj hjk' t hd).1; simpa [dstAt, ho] using this
        rw [(hA k o (by omega) ho).2, put_far _ _ _ _ hdk]
        exact ih (by omega) (by omega)
  intro fuel
  induction fuel with
  | zero =>
    intro listed a w hc inv _
    have h1 := inv.inv.tail n (Nat.le_refl _) hn'
    have hlt : n < listed.size := by rw [inv.inv.size]; exact hn'
    simp [hlt] at h1
    have : false ∈ listed.toList := by rw [← h1]; exact Array.mem_toList_iff.2 (Array.getElem_mem hlt)
    have := List.count_pos_iff.2 this
    omega
  | succ fuel ih =>
    intro listed a w hc inv hS
    by_cases hdone : ∀ j, j < n → listed.getD j false = true
    · -- the head is done
      have ha : a = A n := by
        obtain ⟨d1, d2⟩ := hAd n (Nat.le_refl _)
        have ht : a.tmps = (A n).tmps := by
          apply Array.ext_getElem?
          intro t
          by_cases hex : ∃ j, j < n ∧ dstAt l j = some t
          · obtain ⟨j, hj, hd⟩ := hex
            exact inv.near j hj (hdone j hj) t hd
          · rw [inv.far t fun j hj _ hd => hex ⟨j, hj, hd⟩, hAfar t n (Nat.le_refl _) fun j hj hd => hex ⟨j, hj, hd⟩]
        cases a with
        | mk t d =>
          cases hAn : A n with
          | mk t' d' =>
            have e1 := inv.defers
            rw [hAn] at ht d1
            simp only at ht e1 d1
            rw [ht, e1, d1]
      have hl : listed = (List.replicate n true ++ List.replicate (l.length - n) false).toArray := by
        have hsz := inv.inv.size
        simp only [List.size_toArray] at hsz
        apply Array.ext_getElem?
        intro j
        rcases Nat.lt_or_ge j listed.size with hj | hj
        · rcases Nat.lt_or_ge j n with hjn | hjn
          · have := hdone j hjn
            simp [hj] at this
            simp [hj, this, List.getElem?_append, hjn]
          · have := inv.inv.tail j hjn (by simp; omega)
            simp [hj] at this
            simp [hj, this, List.getElem?_append, Nat.not_lt.2 hjn, List.getElem?_replicate]
            omega
        · rw [Array.getElem?_eq_none hj, Array.getElem?_eq_none (by simp; omega)]
      have hf : fuel + 1 = (l.drop n).length := by
        rw [← hc, hl]
        simp [List.count_replicate]
      rw [hf, hl, ha]
      refine wpAny_of_seq (l.drop n) n _ _ _ (fun j => by simp [List.getElem?_drop]) ?_ (hL w hS)
      rw [List.length_drop]; exact hseq
    · have hex : ∃ j, j < n ∧ listed.getD j false = false := by
        refine Classical.byContradiction fun h => hdone fun j hj => ?_
        cases hx : listed.getD j false with
        | true => rfl
        | false => exact absurd ⟨j, hj, hx⟩ h
      have hst : ∀ j, j < n → listed.getD j false = false → listed.getD j true = false := fun j hj h => getD_in (by rw [inv.inv.size]; omega) h
      obtain ⟨j0, hj0, hu0⟩ := hex
      refine ⟨fun h0 => ?_, fun i hi => ?_⟩
      · -- some operation is ready
        exfalso
        have : ∀ d j, j ≤ d → j < n → listed.getD j false = true := by
          intro d
          induction d with
          | zero =>
            intro j hjd hj
            obtain rfl : j = 0 := by omega
            cases hx : listed.getD 0 false with
            | true => rfl
            | false =>
              obtain ⟨o, ho, _, h2, _⟩ := hk 0 hj
              have : 0 ∈ Region.ready .any l.toArray listed := mem_ready.2 ⟨hst 0 hj hx, o, by simpa using ho, fun e he _ => by have := h2 e he; omega⟩
              rw [h0] at this; cases this
          | succ d ihd =>
            intro j hjd hj
            by_cases hjd' : j ≤ d
            · exact ihd j hjd' hj
            · cases hx : listed.getD j false with
              | true => rfl
              | false =>
                obtain ⟨o, ho, _, h2, _⟩ := hk j hj
                have : j ∈ Region.ready .any l.toArray listed := mem_ready.2 ⟨hst j hj hx, o, by simpa using ho, fun e he _ => by have := h2 e he; exact ihd e.on (by omega) (by omega)⟩
                rw [h0] at this; cases this
        rw [this j0 j0 (Nat.le_refl _) hj0] at hu0
        cases hu0
      · have hin : i < n := by
          rcases Nat.lt_or_ge i n with h | h
          · exact h
          · exact absurd hi (tail_waits hsink hchain hn' inv.inv _ j0 rfl hj0 (hst j0 hj0 hu0) i h)
        obtain ⟨hun, oi', hoi', hafter⟩ := mem_ready.1 hi
        obtain ⟨o, ho, hg, h2, h3⟩ := hk i hin
        have hoi : l.toArray[i]? = some o := by simpa using ho
        obtain rfl : o = oi' := Option.some.inj (hoi.symm.trans hoi')
        obtain ⟨hgv, hAi⟩ := hA i o hin ho
        have hunl : listed.getD i false = false := getD_both hun
        have hagree : ∀ t, t ∈ o.looksAt l.toArray → a.tmps[t]? = (A i).tmps[t]? := by
          intro t ht
          by_cases hex : ∃ j, j < n ∧ j ≠ i ∧ dstAt l j = some t
          · obtain ⟨j, hj, hji, hd⟩ := hex
            obtain ⟨hlt, hw⟩ := (h3 j hj hji t hd).2 ht
            obtain ⟨oj, hoj, e, he, hb, hon⟩ := Region.waitsFor_spec hw
            obtain rfl : o = oj := Option.some.inj (hoi.symm.trans hoj)
            have hlj := hafter e he hb
            rw [hon] at hlj
            rw [inv.near j hj hlj t hd, hAnear t j hj hd n (by omega) (Nat.le_refl _), hAnear t j hj hd i hlt (by omega)]
          · rw [inv.far t fun j hj hl hd => hex ⟨j, hj, (fun e => by rw [e, hunl] at hl; cases hl), hd⟩, hAfar t i (by omega) fun j hj hd => hex ⟨j, by omega, by omega, hd⟩]
        have hsame : execOp a.eval o = execOp (A i).eval o := execOp_congr o (fun cs b => Region.noSelect_spec hsel i o cs b hoi) fun x hx => by
          cases x with
          | tmp t =>
            have := hagree t (List.mem_append_left _ (List.mem_filterMap.2 ⟨.tmp t, by simpa using hx, rfl⟩))
            simp only [Act.eval, Array.getD_eq_getD_getElem?, this]
          | _ => rfl
        have hwant : Region.wanted o (yielded l.toArray a.tmps) = true := by simp [Region.wanted, hg]
        unfold wpOp
        simp only [hoi, hwant, if_true]
        refine .inl ((hgv.same hsame).wp hS fun w' hS' => ?_)
        refine ih _ _ _ (count_set_true hun hc) ?_ hS'
        refine ⟨inv.inv.set hi hin, by rw [put_defers', inv.defers], by rw [put_size, inv.size], fun j hj hlj t hd => ?_, fun t hf => ?_⟩
        · by_cases hij : i = j
          · subst hij
            have hd' : o.dst = some t := by simpa [dstAt, ho] using hd
            rw [hAnear t i hin hd n hin (Nat.le_refl _), hAi, hd']
            exact put_near _ _ _ _ (by rw [inv.size, (hAd i (by omega)).2])
          · rw [getD_set_ne false hij] at hlj
            have hd' : o.dst ≠ some t := by have := (h3 j hj (Ne.symm hij) t hd).1; simpa [dstAt, ho] using this
            rw [put_far _ _ _ _ hd']
            exact inv.near j hj hlj t hd
        · have hsz : i < listed.size := by rw [inv.inv.size]; omega
          have hd' : o.dst ≠ some t := by
            have := hf i hin (by simp [hsz])
            simpa [dstAt, ho] using this
          rw [put_far _ _ _ _ hd']
          exact inv.far t fun j hj hlj => hf j hj (getD_set_true hlj)

/-- The law. -/
theorem wp_region_tab {id : Nat} {a : Act} {w : World} {l : List Oper} (S : World → Prop) (n : Nat) (hm : P.follows .mixedOrders = true) (hB : tabB l n = true) (hS : S w.drew)
    (h : wpTab P S (fun a' => ∀ w', S w' → wpList P l.toArray Q (l.drop n) a' w') (l.take n) a) : (Code.region id l.toArray true).wp P Q a w := by
  obtain ⟨A, v, h0, hs, hL⟩ := tab_acts _ _ h
  have hn : n < l.length := by
    simp only [tabB, Bool.and_eq_true, decide_eq_true_eq] at hB
    exact hB.1.1.1.1.1
  rw [show (l.take n).length = n by simp; omega] at hL
  refine wp_region_any hm ?_
  refine wpAny_tab hB (A := A) (v := v) (fun k o hk ho => hs k o (by rw [List.getElem?_take]; simp [hk, ho])) hL _ _ _ _ (by simp) ?_ hS
  subst h0
  exact ⟨⟨by simp, fun j oj _ hl => (by rw [getD_replicate_false] at hl; cases hl), fun t _ ht => getD_in (by simpa using ht) (getD_replicate_false _ _)⟩, rfl, rfl,
    fun j _ hl => (by rw [getD_replicate_false] at hl; cases hl), fun t _ => rfl⟩
end
end Go.Proofs.Ytgicfgpemcagcaa
