/- The same law outside a fence. -/
import Derived.Test.YtecpanppnljkhaaGreatDoorQh
namespace Go.Proofs.YtecpanppnljkhaaGreatDoor
open Go
def Steps' (P : Program) (o : Oper) (a : Act) (w : World) (R : Value → World → Prop) : Prop :=
  (∃ v w', (execOp a.eval o).run P w = .ok (.value v) w' ∧ R v w') ∨ ∃ f args w', (execOp a.eval o).run P w = .ok (.enter f args) w' ∧ Calls P f args w' (fun e w'' => ∃ v, e = .returned v ∧ R v w'')
def wpHvP (P : Program) (S : World → Prop) (L : Act → World → Prop) : List Oper → Act → World → Prop
  | [], a, w => L a w
  | o :: r, a, w => Steps' P o a w (fun v w' => S w' ∧ wpHvP P S L r (a.put o.dst v) w')
section
variable {P : Program} {S : World → Prop} {Q : Exit → Act → World → Prop}
theorem wpHvP_nil {L : Act → World → Prop} {a : Act} {w : World} (h : L a w) : wpHvP P S L [] a w := h
theorem wpHvP_value {L : Act → World → Prop} {a : Act} {w : World} {o : Oper} {r : List Oper} (v : Value) (w' : World) (h : (execOp a.eval o).run P w = .ok (.value v) w') (hr : S w' ∧ wpHvP P S L r (a.put o.dst v) w') : wpHvP P S L (o :: r) a w := .inl ⟨v, w', h, hr⟩
theorem wpHvP_call {L : Act → World → Prop} {a : Act} {w : World} {o : Oper} {r : List Oper} (f : FuncId) (args : Array Value) (h : (execOp a.eval o).run P w = .ok (.enter f args) w)
    (hc : Calls P f args w (fun e w'' => ∃ v, e = .returned v ∧ S w'' ∧ wpHvP P S L r (a.put o.dst v) w'')) : wpHvP P S L (o :: r) a w := .inr ⟨f, args, w, h, hc⟩
theorem Steps'.wp {o : Oper} {a : Act} {w : World} {R : Value → World → Prop} (h : Steps' P o a w R) {K : Act → World → Prop} (hK : ∀ v w', R v w' → K (a.put o.dst v) w') : o.wp P a w K Q := by
  unfold Oper.wp
  rcases h with ⟨v, w', h, hr⟩ | ⟨f, args, w', h, hc⟩
  · rw [h]; exact hK v w' hr
  · rw [h]
    refine Calls.mono hc fun e w'' ⟨v, he, hr⟩ => ?_
    subst he
    exact hK v w'' hr
theorem Steps'.same {o : Oper} {a a' : Act} {w : World} {R : Value → World → Prop} (h : Steps' P o a w R) (he : execOp a'.eval o = execOp a.eval o) : Steps' P o a' w R := by
  unfold Steps' at *
  rw [he]
  exact h
theorem Steps'.mono {o : Oper} {a : Act} {w : World} {R R' : Value → World → Prop} (h : Steps' P o a w R) (hr : ∀ v w', R v w' → R' v w') : Steps' P o a w R' := by
  rcases h with ⟨v, w', h, h1⟩ | ⟨f, args, w', h, hc⟩
  · exact .inl ⟨v, w', h, hr _ _ h1⟩
  · exact .inr ⟨f, args, w', h, hc.mono fun e w'' ⟨v, he, h1⟩ => ⟨v, he, hr _ _ h1⟩⟩

theorem wpAny_mix {l : List Oper} {hv : List Bool} {m : Nat} {A : Nat → Act} {v : Nat → Value} (hB : mixB l hv m = true)
    (hA : ∀ k o, k < m → l[k]? = some o → (hv.getD k false = false → Light P S o (v k) (A k) ∧ A (k + 1) = (A k).put o.dst (v k)) ∧ (hv.getD k false = true → A (k + 1) = A k)) :
    ∀ (fuel : Nat) (listed : Array Bool) (a : Act) (w : World) (b : Act) (r : List Nat), listed.toList.count false = fuel → MixInv l m hv A b listed a → r.Nodup → (∀ k, k ∈ r → k < m ∧ hv.getD k false = true) → (∀ k, k < m → hv.getD k false = true → (listed.getD k false = false ↔ k ∈ r)) → chainedB .any l r = true → S w →
      wpHvP P S (fun a' w' => wpList P l.toArray Q (l.drop m) a' w') (r.filterMap fun k => l[k]?) b w → wpAny P .any l.toArray Q fuel listed a w := by
  simp only [mixB, Bool.and_eq_true, decide_eq_true_eq] at hB
  obtain ⟨⟨⟨⟨⟨⟨hn, hsel⟩, hsink⟩, hchain⟩, hall⟩, _⟩, hseq⟩ := hB
  have hn' : m < l.toArray.size := by simpa using hn
  have hk : ∀ k, k < m → ∃ o, l[k]? = some o ∧ o.guard = none ∧ notDefer o = true ∧ (∀ e ∈ o.after, e.on < k) ∧ ∀ j, j < m → j ≠ k → ∀ t, dstAt l j = some t → dstAt l k ≠ some t ∧ (t ∈ o.looksAt l.toArray → j < k ∧ Region.waitsFor .any l.toArray k j = true ∧ (hv.getD k false = false → hv.getD j false = false)) := by
    intro k hkn
    have := List.all_eq_true.1 hall k (List.mem_range.2 hkn)
    cases ho : l[k]? with
    | none => rw [ho] at this; simp at this
    | some o =>
      rw [ho] at this
      simp only [Bool.and_eq_true] at this
      obtain ⟨⟨⟨⟨h1, h1'⟩, h2⟩, _⟩, h3⟩ := this
      refine ⟨o, rfl, by simpa using h1, h1', fun e he => by simpa using Array.all_eq_true_iff_forall_mem.1 h2 e he, fun j hj hjk t ht => ?_⟩
      have h4 := List.all_eq_true.1 h3 j (List.mem_range.2 hj)
      simp only [Bool.or_eq_true, beq_iff_eq, hjk, false_or, ht, Bool.and_eq_true, bne_iff_ne, ne_eq, Bool.not_eq_true', decide_eq_true_eq] at h4
      refine ⟨h4.1, fun ht' => ?_⟩
      rcases h4.2 with h5 | h5
      · rw [List.contains_iff_mem.2 ht'] at h5; cases h5
      · refine ⟨h5.1.1, h5.1.2, fun h6 => ?_⟩
        rcases h5.2 with h7 | h7
        · rw [h6] at h7; cases h7
        · exact h7
  have hAfar : ∀ t k, k ≤ m → (∀ j, j < k → dstAt l j ≠ some t) → (A k).tmps[t]? = (A 0).tmps[t]? := by
    intro t k
    induction k with
    | zero => exact fun _ _ => rfl
    | succ k ih =>
      intro hkn hd
      obtain ⟨o, ho, _⟩ := hk k (by omega)
      have hdk : o.dst ≠ some t := by have := hd k (by omega); simpa [dstAt, ho] using this
      cases hh : hv.getD k false with
      | false =>
        rw [((hA k o (by omega) ho).1 hh).2, put_far _ _ _ _ hdk]
        exact ih (by omega) fun j hj => hd j (by omega)
      | true =>
        rw [(hA k o (by omega) ho).2 hh]
        exact ih (by omega) fun j hj => hd j (by omega)
  have hAnear : ∀ t j, j < m → dstAt l j = some t → ∀ k, j < k → k ≤ m → (A k).tmps[t]? = (A (j + 1)).tmps[t]? := by
    intro t j hj hd k
    induction k with
    | zero => intro h; omega
    | succ k ih =>
      intro hjk hkn
      by_cases hjk' : j = k
      · subst hjk'; rfl
      · obtain ⟨o, ho, _, _, _, h3⟩ := hk k (by omega)
        have hdk : o.dst ≠ some t := by have := (h3 j hj hjk' t hd).1; simpa [dstAt, ho] using this
        cases hh : hv.getD k false with
        | false =>
          rw [((hA k o (by omega) ho).1 hh).2, put_far _ _ _ _ hdk]
          exact ih (by omega) (by omega)
        | true =>
          rw [(hA k o (by omega) ho).2 hh]
          exact ih (by omega) (by omega)
  have hAsize : ∀ k, k ≤ m → (A k).tmps.size = (A 0).tmps.size := by
    intro k
    induction k with
    | zero => exact fun _ => rfl
    | succ k ih =>
      intro hkn
      obtain ⟨o, ho, _⟩ := hk k (by omega)
      cases hh : hv.getD k false with
      | false => rw [((hA k o (by omega) ho).1 hh).2, put_size]; exact ih (by omega)
      | true => rw [(hA k o (by omega) ho).2 hh]; exact ih (by omega)
  intro fuel
  induction fuel with
  | zero =>
    intro listed a w b r hc inv _ _ _ _ _ _
    have h1 := inv.inv.tail m (Nat.le_refl _) hn'
    have hlt : m < listed.size := by rw [inv.inv.size]; exact hn'
    simp [hlt] at h1
    have : false ∈ listed.toList := by rw [← h1]; exact Array.mem_toList_iff.2 (Array.getElem_mem hlt)
    have := List.count_pos_iff.2 this
    omega
  | succ fuel ih =>
    intro listed a w b r hc inv hnd hrm hrl hrc hS hH
    by_cases hdone : ∀ j, j < m → listed.getD j false = true
    · -- the head is done
      have hr0 : r = [] := by
        cases r with
        | nil => rfl
        | cons h r =>
          obtain ⟨h1, h2⟩ := hrm h (by simp)
          have := (hrl h h1 h2).2 (by simp)
          rw [hdone h h1] at this
          cases this
      subst hr0
      have hH' : wpList P l.toArray Q (l.drop m) b w := hH
      have ha : a = b := by
        have ht : a.tmps = b.tmps := by
          apply Array.ext_getElem?
          intro t
          by_cases hex : ∃ j, j < m ∧ dstAt l j = some t
          · obtain ⟨j, hj, hd⟩ := hex
            exact inv.near j hj (hdone j hj) t hd
          · rw [inv.far t fun j hj _ hd => hex ⟨j, hj, hd⟩, inv.bfar t fun j hj _ hd => hex ⟨j, hj, hd⟩]
        cases a with
        | mk t d =>
          cases b with
          | mk t' d' =>
            have e1 := inv.defers
            have e2 := inv.bdefers
            simp only at ht e1 e2
            rw [ht, e1, e2]
      have hl : listed = (List.replicate m true ++ List.replicate (l.length - m) false).toArray := by
        have hsz := inv.inv.size
        simp only [List.size_toArray] at hsz
        apply Array.ext_getElem?
        intro j
        rcases Nat.lt_or_ge j listed.size with hj | hj
        · rcases Nat.lt_or_ge j m with hjn | hjn
          · have := hdone j hjn
            simp [hj] at this
            simp [hj, this, List.getElem?_append, hjn]
          · have := inv.inv.tail j hjn (by simp; omega)
            simp [hj] at this
            simp [hj, this, List.getElem?_append, Nat.not_lt.2 hjn, List.getElem?_replicate]
            omega
        · rw [Array.getElem?_eq_none hj, Array.getElem?_eq_none (by simp; omega)]
      have hf : fuel + 1 = (l.drop m).length := by
        rw [← hc, hl]
        simp [List.count_replicate]
      rw [hf, hl, ha]
      refine wpAny_of_seq (l.drop m) m _ _ _ (fun j => by simp [List.getElem?_drop]) ?_ hH'
      rw [List.length_drop]; exact hseq
    · have hex : ∃ j, j < m ∧ listed.getD j false = false := by
        refine Classical.byContradiction fun h => hdone fun j hj => ?_
        cases hx : listed.getD j false with
        | true => rfl
        | false => exact absurd ⟨j, hj, hx⟩ h
      have hst : ∀ j, j < m → listed.getD j false = false → listed.getD j true = false := fun j hj h => getD_in (by rw [inv.inv.size]; omega) h
      obtain ⟨j0, hj0, hu0⟩ := hex
      refine ⟨fun h0 => ?_, fun i hi => ?_⟩
      · -- some operation is ready
        exfalso
        have : ∀ d j, j ≤ d → j < m → listed.getD j false = true := by
          intro d
          induction d with
          | zero =>
            intro j hjd hj
            obtain rfl : j = 0 := by omega
            cases hx : listed.getD 0 false with
            | true => rfl
            | false =>
              obtain ⟨o, ho, _, _, h2, _⟩ := hk 0 hj
              have : 0 ∈ Region.ready .any l.toArray listed := mem_ready.2 ⟨hst 0 hj hx, o, by simpa using ho, fun e he _ => by have := h2 e he; omega⟩
              rw [h0] at this; cases this
          | succ d ihd =>
            intro j hjd hj
            by_cases hjd' : j ≤ d
            · exact ihd j hjd' hj
            · cases hx : listed.getD j false with
              | true => rfl
              | false =>
                obtain ⟨o, ho, _, _, h2, _⟩ := hk j hj
                have : j ∈ Region.ready .any l.toArray listed := mem_ready.2 ⟨hst j hj hx, o, by simpa using ho, fun e he _ => by have := h2 e he; exact ihd e.on (by omega) (by omega)⟩
                rw [h0] at this; cases this
        rw [this j0 j0 (Nat.le_refl _) hj0] at hu0
        cases hu0
      · have hin : i < m := by
          rcases Nat.lt_or_ge i m with h | h
          · exact h
          · exact absurd hi (tail_waits hsink hchain hn' inv.inv _ j0 rfl hj0 (hst j0 hj0 hu0) i h)
        obtain ⟨hun, oi', hoi', hafter⟩ := mem_ready.1 hi
        obtain ⟨o, ho, hg, hnd', h2, h3⟩ := hk i hin
        have hoi : l.toArray[i]? = some o := by simpa using ho
        obtain rfl : o = oi' := Option.some.inj (hoi.symm.trans hoi')
        have hunl : listed.getD i false = false := getD_both hun
        have hlisted : ∀ j, Region.waitsFor .any l.toArray i j = true → listed.getD j false = true := by
          intro j hw
          obtain ⟨oj, hoj, e, he, hb, hon⟩ := Region.waitsFor_spec hw
          obtain rfl : o = oj := Option.some.inj (hoi.symm.trans hoj)
          have hlj := hafter e he hb
          rwa [hon] at hlj
        have hwant : Region.wanted o (yielded l.toArray a.tmps) = true := by simp [Region.wanted, hg]
        have hsz : i < listed.size := by rw [inv.inv.size]; omega
        have hsameOf : ∀ c : Act, (∀ t, t ∈ o.looksAt l.toArray → a.tmps[t]? = c.tmps[t]?) → execOp a.eval o = execOp c.eval o := fun c hagree =>
          execOp_congr o (fun cs b => Region.noSelect_spec hsel i o cs b hoi) fun x hx => by
            cases x with
            | tmp t =>
              have := hagree t (List.mem_append_left _ (List.mem_filterMap.2 ⟨.tmp t, by simpa using hx, rfl⟩))
              simp only [Act.eval, Array.getD_eq_getD_getElem?, this]
            | _ => rfl
        have hfarA : ∀ t, (∀ j, j < m → j ≠ i → dstAt l j ≠ some t) → a.tmps[t]? = (A 0).tmps[t]? := fun t hno =>
          inv.far t fun j hj hl hd => hno j hj (fun e => by rw [e, hunl] at hl; cases hl) hd
        unfold wpOp
        simp only [hoi, hwant, if_true]
        cases hh : hv.getD i false with
        | false =>
          obtain ⟨hgv, hAi⟩ := (hA i o hin ho).1 hh
          have hsame := hsameOf (A i) fun t ht => by
            by_cases hex : ∃ j, j < m ∧ j ≠ i ∧ dstAt l j = some t
            · obtain ⟨j, hj, hji, hd⟩ := hex
              obtain ⟨hlt, hw, hjl⟩ := (h3 j hj hji t hd).2 ht
              rw [inv.near j hj (hlisted j hw) t hd, inv.blight j hj (hjl hh) t hd, hAnear t j hj hd i hlt (by omega)]
            · rw [hfarA t fun j hj hji hd => hex ⟨j, hj, hji, hd⟩, hAfar t i (by omega) fun j hj hd => hex ⟨j, by omega, by omega, hd⟩]
          have hst' : Steps' P o a w (fun v' w' => v' = v i ∧ w' = w) := .inl ⟨v i, w, by rw [hsame]; exact hgv w hS, rfl, rfl⟩
          refine .inl (hst'.wp ?_)
          rintro v' w' ⟨rfl, rfl⟩
          refine ih _ _ _ b r (count_set_true hun hc) ?_ hnd hrm ?_ hrc hS hH
          · refine ⟨inv.inv.set hi hin, by rw [put_defers', inv.defers], by rw [put_size, inv.size], inv.bdefers, inv.bsize, fun j hj hlj t hd => ?_, fun t hf => ?_, inv.blight, fun t hf => inv.bfar t fun j hj hl => hf j hj (hl.imp id fun h => ?_)⟩
            · by_cases hij : i = j
              · subst hij
                have hd' : o.dst = some t := by simpa [dstAt, ho] using hd
                rw [inv.blight i hin hh t hd, hAi, hd']
                exact put_near _ _ _ _ (by rw [inv.size, hAsize i (by omega)])
              · rw [getD_set_ne false hij] at hlj
                have hd' : o.dst ≠ some t := by have := (h3 j hj (Ne.symm hij) t hd).1; simpa [dstAt, ho] using this
                rw [put_far _ _ _ _ hd']
                exact inv.near j hj hlj t hd
            · have hd' : o.dst ≠ some t := by
                have := hf i hin (by simp [hsz])
                simpa [dstAt, ho] using this
              rw [put_far _ _ _ _ hd']
              exact inv.far t fun j hj hlj => hf j hj (getD_set_true hlj)
            · exact getD_set_true h
          · intro k hkm hkh
            have hki : i ≠ k := fun e => by rw [e, hkh] at hh; cases hh
            rw [getD_set_ne false hki]
            exact hrl k hkm hkh
        | true =>
          have hir : i ∈ r := (hrl i hin hh).1 hunl
          cases r with
          | nil => cases hir
          | cons h r' =>
            have hih : i = h := by
              rcases List.mem_cons.1 hir with e | hi'
              · exact e
              · obtain ⟨p, hp, hw⟩ := chained_first r' h hrc i hi'
                obtain ⟨hpm, hph⟩ := hrm p hp
                have hpu := (hrl p hpm hph).2 hp
                rw [hlisted p hw] at hpu
                cases hpu
            subst hih
            have hsame := hsameOf b fun t ht => by
              by_cases hex : ∃ j, j < m ∧ j ≠ i ∧ dstAt l j = some t
              · obtain ⟨j, hj, hji, hd⟩ := hex
                obtain ⟨_, hw, _⟩ := (h3 j hj hji t hd).2 ht
                exact inv.near j hj (hlisted j hw) t hd
              · rw [hfarA t fun j hj hji hd => hex ⟨j, hj, hji, hd⟩, inv.bfar t fun j hj hl hd => hex ⟨j, hj, (fun e => by
                  subst e
                  rcases hl with hl | hl
                  · rw [hh] at hl; cases hl
                  · rw [hunl] at hl; cases hl), hd⟩]
            rw [List.filterMap_cons_some ho] at hH
            have hst' : Steps' P o b w (fun v w' => S w' ∧ wpHvP P S (fun a' w' => wpList P l.toArray Q (l.drop m) a' w') (r'.filterMap fun k => l[k]?) (b.put o.dst v) w') := hH
            refine .inl ((hst'.same hsame).wp ?_)
            rintro v' w' ⟨hS', hH'⟩
            have hnd2 := List.nodup_cons.1 hnd
            refine ih _ _ _ (b.put o.dst v') r' (count_set_true hun hc) ?_ hnd2.2 (fun k hk => hrm k (List.mem_cons_of_mem _ hk)) ?_ (chained_tail hrc) hS' hH'
            · refine ⟨inv.inv.set hi hin, by rw [put_defers', inv.defers], by rw [put_size, inv.size], by rw [put_defers', inv.bdefers], by rw [put_size, inv.bsize], fun j hj hlj t hd => ?_, fun t hf => ?_, fun j hj hjh t hd => ?_, fun t hf => ?_⟩
              · by_cases hij : i = j
                · subst hij
                  have hd' : o.dst = some t := by simpa [dstAt, ho] using hd
                  rw [hd']
                  exact put_near _ _ _ _ (by rw [inv.size, inv.bsize])
                · rw [getD_set_ne false hij] at hlj
                  have hd' : o.dst ≠ some t := by have := (h3 j hj (Ne.symm hij) t hd).1; simpa [dstAt, ho] using this
                  rw [put_far _ _ _ _ hd', put_far _ _ _ _ hd']
                  exact inv.near j hj hlj t hd
              · have hd' : o.dst ≠ some t := by
                  have := hf i hin (by simp [hsz])
                  simpa [dstAt, ho] using this
                rw [put_far _ _ _ _ hd']
                exact inv.far t fun j hj hlj => hf j hj (getD_set_true hlj)
              · have hij : j ≠ i := fun e => by rw [e, hh] at hjh; cases hjh
                have hd' : o.dst ≠ some t := by have := (h3 j hj hij t hd).1; simpa [dstAt, ho] using this
                rw [put_far _ _ _ _ hd']
                exact inv.blight j hj hjh t hd
              · have hd' : o.dst ≠ some t := by
                  have := hf i hin (.inr (by simp [hsz]))
                  simpa [dstAt, ho] using this
                rw [put_far _ _ _ _ hd']
                exact inv.bfar t fun j hj hl => hf j hj (hl.imp id fun h => getD_set_true h)
            · intro k hkm hkh
              by_cases hki : i = k
              · subst hki
                constructor
                · intro h; simp [hsz] at h
                · intro h; exact absurd h hnd2.1
              · rw [getD_set_ne false hki, hrl k hkm hkh, List.mem_cons]
                exact ⟨fun h => h.resolve_left (Ne.symm hki), Or.inr⟩

/-- The law. -/
theorem wp_region_mix {id : Nat} {a : Act} {w : World} {l : List Oper} (S : World → Prop) (hv : List Bool) (m : Nat) (hm : P.follows .mixedOrders = true) (hB : mixB l hv m = true) (hS : S w.drew)
    (h : wpLts P S (fun a' => wpHvP P S (fun a'' w'' => wpList P l.toArray Q (l.drop m) a'' w'') ((hvTo hv m).filterMap fun k => l[k]?) a' w.drew) ((l.take m).zip ((List.range m).map fun k => hv.getD k false)) a) : (Code.region id l.toArray true).wp P Q a w := by
  obtain ⟨A, v, h0, hs, hh, hL⟩ := lts_acts _ _ h
  have hn : m < l.length := by
    simp only [mixB, Bool.and_eq_true, decide_eq_true_eq] at hB
    exact hB.1.1.1.1.1.1
  have hch : chainedB .any l (hvTo hv m) = true := by
    simp only [mixB, Bool.and_eq_true] at hB
    exact hB.1.2
  rw [show ((l.take m).zip ((List.range m).map fun k => hv.getD k false)).length = m by simp; omega] at hL
  have hz : ∀ k o, k < m → l[k]? = some o → ((l.take m).zip ((List.range m).map fun k => hv.getD k false))[k]? = some (o, hv.getD k false) := fun k o hk ho => by
    rw [List.getElem?_zip_eq_some]
    exact ⟨by rw [List.getElem?_take]; simp [hk, ho], by simp [hk]⟩
  have hA : ∀ k o, k < m → l[k]? = some o → (hv.getD k false = false → Light P S o (v k) (A k) ∧ A (k + 1) = (A k).put o.dst (v k)) ∧ (hv.getD k false = true → A (k + 1) = A k) := fun k o hk ho =>
    ⟨fun h => hs k o (by rw [hz k o hk ho, h]), fun h => hh k o (by rw [hz k o hk ho, h])⟩
  refine wp_region_any hm ?_
  have hdst : ∀ k, k < m → ∃ o, l[k]? = some o := fun k hk => ⟨l[k]'(by omega), List.getElem?_eq_getElem (by omega)⟩
  have hmix := hB
  simp only [mixB, Bool.and_eq_true, decide_eq_true_eq] at hmix
  obtain ⟨⟨⟨_, hall⟩, _⟩, _⟩ := hmix
  have hne : ∀ j k, j < m → k < m → j ≠ k → ∀ t, dstAt l j = some t → dstAt l k ≠ some t := by
    intro j k hj hk hjk t ht
    have := List.all_eq_true.1 hall k (List.mem_range.2 hk)
    obtain ⟨o, ho⟩ := hdst k hk
    rw [ho] at this
    simp only [Bool.and_eq_true] at this
    have h4 := List.all_eq_true.1 this.2 j (List.mem_range.2 hj)
    simp only [Bool.or_eq_true, beq_iff_eq, hjk, false_or, ht, Bool.and_eq_true, bne_iff_ne, ne_eq] at h4
    exact h4.1
  have keep : ∀ k, k ≤ m → (A k).defers = (A 0).defers ∧ (A k).tmps.size = (A 0).tmps.size ∧ (∀ t, (∀ j, j < k → hv.getD j false = false → dstAt l j ≠ some t) → (A k).tmps[t]? = (A 0).tmps[t]?) ∧ ∀ j, j < k → hv.getD j false = false → ∀ t, dstAt l j = some t → (A k).tmps[t]? = (A (j + 1)).tmps[t]? := by
    intro k
    induction k with
    | zero => exact fun _ => ⟨rfl, rfl, fun _ _ => rfl, fun j hj => by omega⟩
    | succ k ih =>
      intro hk
      obtain ⟨i1, i2, i3, i4⟩ := ih (by omega)
      obtain ⟨o, ho⟩ := hdst k (by omega)
      cases hh' : hv.getD k false with
      | false =>
        have e := ((hA k o (by omega) ho).1 hh').2
        refine ⟨by rw [e, put_defers', i1], by rw [e, put_size, i2], fun t ht => ?_, fun j hj hjh t hd => ?_⟩
        · have hdk : o.dst ≠ some t := by have := ht k (by omega) hh'; simpa [dstAt, ho] using this
          rw [e, put_far _ _ _ _ hdk]
          exact i3 t fun j hj => ht j (by omega)
        · by_cases hjk : j = k
          · subst hjk; rfl
          · have hdk : o.dst ≠ some t := by have := hne j k (by omega) (by omega) hjk t hd; simpa [dstAt, ho] using this
            rw [e, put_far _ _ _ _ hdk]
            exact i4 j (by omega) hjh t hd
      | true =>
        have e := (hA k o (by omega) ho).2 hh'
        refine ⟨by rw [e, i1], by rw [e, i2], fun t ht => ?_, fun j hj hjh t hd => ?_⟩
        · rw [e]; exact i3 t fun j hj => ht j (by omega)
        · have hjk : j ≠ k := fun e => by rw [e, hh'] at hjh; cases hjh
          rw [e]; exact i4 j (by omega) hjh t hd
  obtain ⟨k1, k2, k3, k4⟩ := keep m (Nat.le_refl _)
  have hnod : (hvTo hv m).Nodup := List.Pairwise.filter _ List.nodup_range
  have hmem : ∀ k, k ∈ hvTo hv m ↔ k < m ∧ hv.getD k false = true := fun k => by unfold hvTo; rw [List.mem_filter, List.mem_range]
  refine wpAny_mix hB hA _ _ _ _ (A m) (hvTo hv m) (by simp) ?_ hnod (fun k hk => (hmem k).1 hk) (fun k hk hkh => ⟨fun _ => (hmem k).2 ⟨hk, hkh⟩, fun _ => getD_replicate_false _ _⟩) hch hS hL
  subst h0
  exact ⟨⟨by simp, fun j oj _ hl => (by rw [getD_replicate_false] at hl; cases hl), fun t _ ht => getD_in (by simpa using ht) (getD_replicate_false _ _)⟩, rfl, rfl, k1, k2,
    fun j _ hl => (by rw [getD_replicate_false] at hl; cases hl), fun t _ => rfl, fun j hj hjh t hd => k4 j hj hjh t hd, fun t ht => k3 t fun j hj hjh => ht j hj (.inl hjh)⟩
/-- The law, as a walk uses it. -/
theorem wp_region_mix' {id : Nat} {a : Act} {w : World} {l : List Oper} (S : World → Prop) (hv : List Bool) (hm : P.follows .mixedOrders = true) (hB : mixB l hv hv.length = true) (hS : S w.drew)
    (h : wpLts P S (fun a' => wpHvP P S (fun a'' w'' => wpList P l.toArray Q (mixD l hv) a'' w'') (mixH l hv) a' w.drew) (mixT l hv) a) : (Code.region id l.toArray true).wp P Q a w := by
  have hn : hv.length < l.length := by
    simp only [mixB, Bool.and_eq_true, decide_eq_true_eq] at hB
    exact hB.1.1.1.1.1.1
  rw [mixT_eq l hv (by omega), mixD_eq l hv (by omega), mixH_eq l hv (by omega)] at h
  exact wp_region_mix S hv hv.length hm hB hS h
end
end Go.Proofs.YtecpanppnljkhaaGreatDoor
