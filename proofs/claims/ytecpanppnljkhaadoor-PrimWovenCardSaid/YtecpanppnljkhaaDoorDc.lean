/- Walks of prim: Grow, addAll, an add that fits; Trap. -/
import Derived.Test.YtecpanppnljkhaaDoorDb
import Derived.Laws.CopyOwn
import Derived.WalkSpells
import Derived.OwnWalk
namespace Go.Proofs.YtecpanppnljkhaaDoor
set_option linter.unusedVariables false
open Go.RowKit Go.Shelf

set_option maxRecDepth 100000 in
set_option maxHeartbeats 1000000 in
theorem grow_any (A : Option Addr) (n c m : Nat) (w : World) (hn : n ≤ c) (hm : n + m ≤ c) (hc : c ≤ 16777216) :
    Calls Tryd.prog 110 #[.slice A n c, .int .i64 (m : Int)] w fun e w' => e = .returned (.slice A n c) ∧ w = w' := by
  have h1 : (0 : Int) ≤ (m : Int) := by omega
  have hd : decide ((m : Int) < 0) = false := by simp
  have hd2 : decide (0 < (m : Int) - ((c : Int) - (n : Int))) = false := by simp; omega
  go_enter Tryd.func110, Tryd.ntmps110
  go_wp2
  go_ret
  exact ⟨rfl, rfl⟩

/-- What the copy leaves is the list and the part. -/
theorem row_splice {w : World} {base r cap : Nat} {zs part : List Int} {cur : List Value} {w' : World} (h : OwnI w base (.slice (some ⟨r, 0, none⟩) zs.length cap) zs) (hcur : w.heap[r]? = some (.cells cur.toArray 3 (0, 0)))
    (hfit : zs.length + part.length ≤ cap) (h' : w'.heap[r]? = some (.cells (splice cur zs.length (part.map (Value.int .i64))).toArray 3 (0, 0))) :
    OwnI w' base (.slice (some ⟨r, 0, none⟩) (zs.length + part.length) cap) (zs ++ part) := by
  rcases h.2 with ⟨h0, _⟩ | ⟨g, c', cur', e, hb, hg, h1, h2, h3, h4⟩
  · cases h0
  · injection e with e1 e2 e3
    injection e1 with e1
    injection e1 with e1
    subst e1; subst e3
    rw [hcur] at hg
    injection hg with hg
    injection hg with hg
    subst hg
    simp at h3 h4
    refine ⟨by simp, .inr ⟨r, cap, _, by rw [List.length_append], hb, h', by simpa using hfit, h2, ?_, ?_⟩⟩
    · rw [List.size_toArray, length_splice _ _ _ (by simp; omega), h3]; simp
    · unfold splice
      simp only [Nat.mul_one, List.length_append]
      rw [h4, List.map_append, ← List.append_assoc, List.take_left' (by simp)]
theorem own_cur {w : World} {base r cap n : Nat} {zs : List Int} (h : OwnI w base (.slice (some ⟨r, 0, none⟩) n cap) zs) : ∃ cur : List Value, w.heap[r]? = some (.cells cur.toArray 3 (0, 0)) ∧ cur.length = cap ∧ base ≤ r := by
  rcases h.2 with ⟨h0, _⟩ | ⟨g, c', cur', e, hb, hg, h1, h2, h3, h4⟩
  · cases h0
  · injection e with e1 e2 e3
    injection e1 with e1
    injection e1 with e1
    subst e1; subst e3
    exact ⟨cur'.toList, by simpa using hg, by simpa using h3, hb⟩
theorem grownBy_setRow (W : World) (r : Nat) (cs : Array Value) : W.grownBy (W.setRow r cs) (some r) :=
  ⟨rfl, rfl, rfl, by simp [World.setRow], fun k _ hk => setRow_other W r k cs (fun e => hk (by rw [e]))⟩
theorem grownBy_then {A B C : World} {r1 r2 : Option Nat} (h1 : A.grownBy B r1) (h2 : B.grownBy C r2) (k : Nat) (hk : k < A.heap.size) (n1 : some k ≠ r1) (n2 : some k ≠ r2) : C.heap[k]? = A.heap[k]? :=
  (h2.block k (Nat.lt_of_lt_of_le hk h1.size) n2).trans (h1.block k hk n1)
/-- Behind a copy into the row. -/
theorem added_copy {w : World} {base g i r cap : Nat} {t : TypeId} {cs : Array Value} {zs part : List Int} {cur : List Value} (hv : Blk w g t cs) (ht : t ≠ 3) (hrow : OwnI w base (.slice (some ⟨r, 0, none⟩) zs.length cap) zs)
    (hcur : w.heap[r]? = some (.cells cur.toArray 3 (0, 0))) (hfit : zs.length + part.length ≤ cap) (v' : Value) (hv' : v' = .slice (some ⟨r, 0, none⟩) (zs.length + part.length) cap) :
    Added w ((w.setCell ⟨g, i, none⟩ v').setRow r (cur.take zs.length ++ (part.map (Value.int .i64) ++ cur.drop (zs.length + (part.map (Value.int .i64)).length))).toArray) base g i t cs (.slice (some ⟨r, 0, none⟩) zs.length cap) v' zs part := by
  subst hv'
  obtain ⟨_, _, _, hbr⟩ := own_cur hrow
  have hne : r ≠ g := fun e => hv.not_row ht hrow (by rw [e]; rfl)
  have hcur' : (w.setCell ⟨g, i, none⟩ (.slice (some ⟨r, 0, none⟩) (zs.length + part.length) cap)).heap[r]? = some (.cells cur.toArray 3 (0, 0)) := (Below.heap_setCell w ⟨g, i, none⟩ _ r hne).trans hcur
  have g1 := grownBy_set w ⟨g, i, none⟩ (.slice (some ⟨r, 0, none⟩) (zs.length + part.length) cap)
  have g2 := grownBy_setRow (w.setCell ⟨g, i, none⟩ (.slice (some ⟨r, 0, none⟩) (zs.length + part.length) cap)) r (cur.take zs.length ++ (part.map (Value.int .i64) ++ cur.drop (zs.length + (part.map (Value.int .i64)).length))).toArray
  refine ⟨(hv.set_ i _).grown g2 (fun e => hne (by cases e; rfl)), ?_, ?_, fun n hn hg hw => ?_, fun b t' cs' h hb hnr => ?_⟩
  · refine row_splice hrow hcur hfit ?_
    rw [setRow_heap _ r _ _ _ _ hcur']
    rfl
  · refine (KeepsOthers.setCell _ _ _).trans (KeepsOthers.of_grownBy g2 fun j o ej hj => ?_)
    cases ej
    rw [hcur'] at hj; cases hj; rfl
  · exact ((Below.refl n w).setCell (p := ⟨g, i, none⟩) hg _).grown g2 (by simpa using hw) (fun k e => by cases e; omega)
  · exact (h.far (p := ⟨g, i, none⟩) hb _).grown g2 hnr
theorem added_none {w : World} {base g i r cap : Nat} {t : TypeId} {cs : Array Value} {zs : List Int} (hv : Blk w g t cs) (ht : t ≠ 3) (hrow : OwnI w base (.slice (some ⟨r, 0, none⟩) zs.length cap) zs) (v' : Value) (hv' : v' = .slice (some ⟨r, 0, none⟩) zs.length cap) :
    Added w (w.setCell ⟨g, i, none⟩ v') base g i t cs (.slice (some ⟨r, 0, none⟩) zs.length cap) v' zs [] := by
  subst hv'
  have hn := hv.not_row ht hrow
  refine ⟨hv.set_ i _, ?_, KeepsOthers.setCell _ _ _, fun n hn hg hw => (Below.refl n w).setCell (p := ⟨g, i, none⟩) hg _, fun b t' cs' h hb hnr => h.far (p := ⟨g, i, none⟩) hb _⟩
  rw [List.append_nil]
  exact hrow.kept (grownBy_set w ⟨g, i, none⟩ _) (.inr hn.symm)
def AddAll (w : World) (base g i r cap : Nat) (t : TypeId) (cs : Array Value) (zs part : List Int) (e : Ending) (w' : World) : Prop :=
  (∃ u, e = .returned u) ∧ Added w w' base g i t cs (.slice (some ⟨r, 0, none⟩) zs.length cap) (.slice (some ⟨r, 0, none⟩) (zs.length + part.length) cap) zs part
theorem words_elem : (Tryd.prog.info? 3).map (·.size) = some 1 := by kernel_rfl
set_option maxRecDepth 100000 in
set_option maxHeartbeats 1000000 in
theorem addAll_any (base g i r cap : Nat) (t : TypeId) (cs : Array Value) (zs part : List Int) (Ap : Option Addr) (cp : Nat) (w : World) (hv : Blk w g t cs) (hi0 : cs[i]? = some (.slice (some ⟨r, 0, none⟩) zs.length cap)) (ht : t ≠ 3)
    (hrow : OwnI w base (.slice (some ⟨r, 0, none⟩) zs.length cap) zs) (hb : base ≤ w.heap.size) (w0 : World) (hw0 : Below w0.heap.size w0 w) (hg0 : w0.heap.size ≤ g) (hp : Sl w0 Ap part) (hfit : zs.length + part.length ≤ cap) (hl : cap ≤ 16777216) :
    Calls Tryd.prog 83 #[.pointer (some ⟨g, i, none⟩), .slice Ap part.length cp] w (AddAll w base g i r cap t cs zs part) := by
  have c1 := hv.cell i
  have f1 := hv.frozen i
  rw [hi0] at c1
  have HI := Lib.hid hi0; clear hi0
  obtain ⟨cur, hcur, hcl, hbr⟩ := own_cur hrow
  have hne : r ≠ g := fun e => hv.not_row ht hrow (by rw [e]; rfl)
  rcases Nat.eq_zero_or_pos part.length with h0 | h0
  · have hnil : part = [] := List.eq_nil_of_length_eq_zero h0
    subst hnil
    have HA := Lib.hid (added_none (i := i) hv ht hrow)
    obtain ⟨n, hn⟩ : ∃ n, zs.length = n := ⟨_, rfl⟩
    have hnc : n ≤ cap := by rw [← hn]; simpa using hfit
    have C1 := Lib.hid (grow_any (some ⟨r, 0, none⟩) n cap 0 w hnc (by omega) hl)
    unfold AddAll
    rw [show ([] : List Int).length = 0 from rfl, Nat.add_zero]
    rw [hn] at c1 HA ⊢
    have k1 : (n : Int) ≤ (cap : Int) := by omega
    clear hn hfit h0 hcur hcl
    by_cases hcn : cap = n
    · subst hcn
      go_enter Tryd.func83, Tryd.ntmps83
      go_wp2_with (first | (go_at_call 110; refine C1.out.mono ?_; rintro e w' ⟨rfl, rfl⟩) | (with_reducible refine wpList_copy_nothing rfl (.tmp 26) (.tmp 27) 63 22 rfl 3 Tryd.underlying63 words_elem _ _ _ _ _ _ rfl rfl (by simp) ?_))
      go_end0
      exact ⟨⟨_, rfl⟩, HA.out _ rfl⟩
    · go_enter Tryd.func83, Tryd.ntmps83
      go_wp2_with (first | (go_at_call 110; refine C1.out.mono ?_; rintro e w' ⟨rfl, rfl⟩) | (with_reducible refine wpList_copy_nothing rfl (.tmp 26) (.tmp 27) 63 22 rfl 3 Tryd.underlying63 words_elem _ _ _ _ _ _ rfl rfl (by simp) ?_))
      go_end0
      exact ⟨⟨_, rfl⟩, HA.out _ rfl⟩
  · obtain ⟨bp, op, rfl, hbp, hcp⟩ := hp h0
    have hbg : bp ≠ g := by omega
    have HA := Lib.hid (added_copy (i := i) hv ht hrow hcur hfit)
    have HC := Lib.hid (fun j v => show (part.map (Value.int .i64))[j]? = some v → (w.setCell ⟨g, i, none⟩ (.slice (some ⟨r, 0, none⟩) (zs.length + part.length) cap)).cell? ((⟨bp, op, none⟩ : Addr).add j) = some v from fun hj => by
      rw [List.getElem?_map] at hj
      have hjl : j < part.length := by
        rcases Nat.lt_or_ge j part.length with h | h
        · exact h
        · rw [List.getElem?_eq_none h] at hj; cases hj
      rw [List.getElem?_eq_getElem hjl] at hj
      simp only [Option.map_some, Option.some.injEq] at hj
      have he : (⟨bp, op, none⟩ : Addr).add j = ⟨bp, op + j, none⟩ := by unfold Addr.add; split <;> simp_all
      rw [he, World.cell?_of_block (Below.heap_setCell w ⟨g, i, none⟩ _ bp hbg), hw0.cell (p := ⟨bp, op + j, none⟩) hbp, hcp j hjl, nth_eq part j hjl, ← hj])
    have hcur' := Lib.hid ((Below.heap_setCell w ⟨g, i, none⟩ (.slice (some ⟨r, 0, none⟩) (zs.length + part.length) cap) r hne).trans hcur)
    have hlen := Lib.hid (show (part.map (Value.int .i64)).length = part.length by simp)
    obtain ⟨P, hP⟩ : ∃ P, part.map (Value.int .i64) = P := ⟨_, rfl⟩
    have hone : Hid (∀ v ∈ P, v.oneCell' = true) := Lib.hid (by rw [← hP]; simp [Value.oneCell'])
    rw [hP] at HA HC hlen
    obtain ⟨n, hn⟩ : ∃ n, zs.length = n := ⟨_, rfl⟩
    obtain ⟨m, hm⟩ : ∃ m, part.length = m := ⟨_, rfl⟩
    unfold AddAll
    rw [hn, hm] at hfit HA HC hcur' ⊢
    rw [hm] at hlen h0
    rw [hn] at c1
    have C1 := Lib.hid (grow_any (some ⟨r, 0, none⟩) n cap m w (by omega) hfit hl)
    have hcn : ¬ cap = n := by omega
    have k1 : (0 : Int) ≤ (n : Int) + (m : Int) := by omega
    have k2 : (n : Int) + (m : Int) ≤ (cap : Int) := by omega
    have k3 : (n : Int) ≤ (n : Int) + (m : Int) := by omega
    have k4 : n ≤ n + m := by omega
    have HF := Lib.hid (show n + m ≤ cur.length by omega)
    clear hn hm hP hcur hcl hfit
    go_enter Tryd.func83, Tryd.ntmps83
    go_wp2_with (first | (go_at_call 110; refine C1.out.mono ?_; rintro e w' ⟨rfl, rfl⟩) | (with_reducible refine wpList_copy_own rfl (.tmp 26) (.tmp 27) 63 22 rfl 3 Tryd.underlying63 words_elem r n _ _ ⟨bp, op, none⟩ _ _ rfl rfl cur.toArray 3 hcur'.out P (by rw [hlen.out]; simp) HC.out (by rw [hlen.out]; simpa using HF.out) hone.out ?_))
    go_end0
    exact ⟨⟨_, rfl⟩, HA.out _ rfl⟩
end Go.Proofs.YtecpanppnljkhaaDoor
