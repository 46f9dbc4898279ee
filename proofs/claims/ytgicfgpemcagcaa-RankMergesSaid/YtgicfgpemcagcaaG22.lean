/- Walks and mathematics of rank, part 22. -/
import Derived.Test.YtgicfgpemcagcaaG21
/- Walks of rank: the closure that compares, putInOrder. -/
namespace Go.Proofs.Ytgicfgpemcagcaa
set_option linter.unusedVariables false
set_option maxRecDepth 100000
open Go.RowKit Go.Shelf
open Go.Sort (SWO PermIn SortedIn Holds)
def orI (a b : Int) : Int := if a = 0 then b else a
/-- What the closure reads: the list of comparisons, the row, its elements. -/
structure CmpAt (W : World) (cx fb g ge n c : Nat) (sV lV : Value) (f : Nat → Int) : Prop where
  box : Blk W cx 82 #[.slice (some ⟨fb, 0, none⟩) 2 2]
  fns : Blk W fb 34 #[.func (.func 74) #[.pointer (some ⟨g, 0, none⟩)] #[], .func (.func 75) #[.pointer (some ⟨g, 0, none⟩)] #[]]
  row : Blk W g 67 #[.slice (some ⟨ge, 0, none⟩) n c, sV, lV]
  els : ∀ x, x < n → W.cell? ⟨ge, x * 2 + 1, none⟩ = some (.int .i64 (f x))
def cfN (f : Nat → Int) (x y : Nat) : Int := orI (cmpI (f x) (f y)) (cmpI (x : Int) (y : Int))
set_option maxHeartbeats 4000000 in
theorem closure_cmp (cx fb g ge n c x y : Nat) (sV lV : Value) (f : Nat → Int) (w : World) (h : CmpAt w cx fb g ge n c sV lV f) (hx : x < n) (hy : y < n) :
    Calls Try.prog 84 #[.int .i64 (x : Int), .int .i64 (y : Int), .pointer (some ⟨cx, 0, none⟩)] w fun e w' => e = .returned (.int .i64 (cfN f x y)) ∧ ∃ q, w' = w.drewN q := by
  have C1 := byWord_any g ge n c x y (f x) (f y) sV lV w h.row hx hy (h.els x hx) (h.els y hy)
  have C2 := fun W => byNumber_any (.pointer (some ⟨g, 0, none⟩)) (x : Int) (y : Int) W
  have HE : Hid (cfN f x y = orI (cmpI (f x) (f y)) (cmpI (x : Int) (y : Int))) := Lib.hid rfl
  obtain ⟨k1, hk1⟩ : ∃ k, cmpI (f x) (f y) = k := ⟨_, rfl⟩
  obtain ⟨k2, hk2⟩ : ∃ k, cmpI (x : Int) (y : Int) = k := ⟨_, rfl⟩
  rw [hk1] at C1 HE
  rw [hk2] at HE
  simp only [hk2] at C2
  have cb0 := h.box.cell 0
  have cf0 := h.fns.cell 0
  have cf1 := h.fns.cell 1
  simp at cb0 cf0 cf1
  have C1 := Lib.hid C1
  have C2 := Lib.hid C2
  clear hk1 hk2
  by_cases h1 : k1 = 0
  · subst h1
    by_cases h2 : k2 = 0
    · subst h2
      have HE2 := Lib.hid (show cfN f x y = 0 by rw [HE.out]; rfl)
      go_enter Try.func84, Try.ntmps84
      go_wp2
      refine wp_loop_rounds 3 ?_
      rw [rounds_succ]
      go_wp2_with (go_at_call 74; refine C1.out.mono ?_; rintro e w' ⟨rfl, rfl⟩)
      rw [rounds_succ]
      go_wp2_with (go_at_call 75; refine (C2.out _).mono ?_; rintro e w' ⟨rfl, rfl⟩)
      rw [rounds_succ]
      go_wp2
      go_ret
      exact ⟨by rw [HE2.out]; rfl, 1, rfl⟩
    · have hd : (k2 != 0) = true := by rw [bne_iff_ne]; exact h2
      have HE2 := Lib.hid (show cfN f x y = k2 by rw [HE.out]; rfl)
      go_enter Try.func84, Try.ntmps84
      go_wp2
      refine wp_loop_rounds 2 ?_
      rw [rounds_succ]
      go_wp2_with (go_at_call 74; refine C1.out.mono ?_; rintro e w' ⟨rfl, rfl⟩)
      rw [rounds_succ]
      go_wp2_with (go_at_call 75; refine (C2.out _).mono ?_; rintro e w' ⟨rfl, rfl⟩)
      go_ret
      exact ⟨by rw [HE2.out]; rfl, 1, rfl⟩
  · have hd : (k1 != 0) = true := by rw [bne_iff_ne]; exact h1
    have HE2 := Lib.hid (show cfN f x y = k1 by rw [HE.out]; unfold orI; rw [if_neg h1])
    go_enter Try.func84, Try.ntmps84
    go_wp2
    refine wp_loop_rounds 1 ?_
    rw [rounds_succ]
    go_wp2_with (go_at_call 74; refine C1.out.mono ?_; rintro e w' ⟨rfl, rfl⟩)
    go_ret
    exact ⟨by rw [HE2.out]; rfl, 1, rfl⟩
end Go.Proofs.Ytgicfgpemcagcaa
/- Walks of rank: slices.SortFunc on a part of the numbers of a row. -/
namespace Go.Proofs.Ytgicfgpemcagcaa
set_option linter.unusedVariables false
set_option maxRecDepth 100000
open Go.RowKit Go.Shelf
open Go.Sort (SWO PermIn SortedIn Holds)
theorem sort1_grown {α : Type} [Inhabited α] (enc : α → Value) (w : World) (blk off n : Nat) (d : Array α) (os : Array Obj) : w.grownBy (sortWorld enc w blk off n d os) (some blk) := by
  refine ⟨rfl, rfl, rfl, ?_, fun i hi hne => ?_⟩
  · unfold sortWorld Go.Sort.grow; simp
  · unfold sortWorld Go.Sort.putRow Go.Sort.mapBlock Go.Sort.grow
    have hne' : blk ≠ i := fun e => hne (by rw [e])
    simp only [Go.Sort.heap_ahead]
    rw [Array.getElem?_append_left (by simpa using hi), Array.getElem?_modify, if_neg hne']
theorem CmpAt.grown {W W' : World} {cx fb g ge n c gs : Nat} {sV lV : Value} {f : Nat → Int} (h : CmpAt W cx fb g ge n c sV lV f) (hg : W.grownBy W' (some gs)) (h1 : cx ≠ gs) (h2 : fb ≠ gs) (h3 : g ≠ gs) (h4 : ge ≠ gs) (h5 : ge < W.heap.size) : CmpAt W' cx fb g ge n c sV lV f :=
  ⟨h.box.grown hg (by simpa using h1), h.fns.grown hg (by simpa using h2), h.row.grown hg (by simpa using h3), fun x hx => (hg.cell_far ⟨ge, x * 2 + 1, none⟩ h5 (by simpa using h4)).trans (h.els x hx)⟩
theorem cfN_lt (f : Nat → Int) (x y : Nat) : decide (cfN f x y < 0) = decide (f x < f y ∨ f x = f y ∧ x < y) := by
  unfold cfN orI cmpI
  by_cases h1 : f x < f y
  · simp [h1]
  · by_cases h2 : f y < f x
    · have : f x ≠ f y := by omega
      simp [h1, h2, this]
    · have e : f x = f y := by omega
      by_cases h3 : x < y
      · simp [e, h3]
      · by_cases h4 : y < x
        · have h3' : ¬ ((x : Int) < (y : Int)) := by omega
          simp [e, h3, h4]
        · simp [e, h3, h4]
def encN (N : Nat) (x : Fin N) : Value := .int .i64 ((x.val : Nat) : Int)
def cfF (f : Nat → Int) (N : Nat) (x y : Fin N) : Int := cfN f x.val y.val
theorem ltF (f : Nat → Int) (N : Nat) (x y : Fin N) : ltOf (cfF f N) x y = decide (f x.val < f y.val ∨ f x.val = f y.val ∧ x.val < y.val) := by
  unfold ltOf cfF
  exact cfN_lt f x.val y.val
theorem swoF (f : Nat → Int) (N : Nat) : SWO (ltOf (cfF f N)) where
  irrefl x := by rw [ltF]; simp
  trans x y z h1 h2 := by rw [ltF] at *; simp at *; omega
  ntrans x y z h1 h2 := by rw [ltF] at *; simp at *; omega
theorem putCells_size {α : Type} [Inhabited α] (enc : α → Value) (off : Nat) (d : Array α) (c : Array Value) : (Go.Sort.putCells enc off d c).size = c.size := by simp [Go.Sort.putCells]
/-- A part of a row of the call's own, written anew. -/
theorem own_sorted {N : Nat} [Inhabited (Fin N)] {W : World} {base gs n c o : Nat} {T : List Int} {d d' : Array (Fin N)} {m : Nat} {os : Array Obj} (h : OwnI W base (.slice (some ⟨gs, 0, none⟩) T.length c) T) (hd : Holds (encN N) W gs o d) (hs : d'.size = d.size) (ho : o + d.size ≤ T.length) :
    OwnI (sortWorld (encN N) W gs o m d' os) base (.slice (some ⟨gs, 0, none⟩) T.length c) (T.take o ++ d'.toList.map (fun x => ((x.val : Nat) : Int)) ++ T.drop (o + d.size)) := by
  have hlt := (h.lt gs rfl).2
  have hlen : (T.take o ++ d'.toList.map (fun x => ((x.val : Nat) : Int)) ++ T.drop (o + d.size)).length = T.length := by
    simp [hs]; omega
  rcases h.2 with ⟨e, _⟩ | ⟨g, cap, cur, e, h1, h2, h3, h4, h5, h6⟩
  · cases e
  · cases e
    refine ⟨by simp only [List.length_map]; omega, .inr ⟨gs, c, Go.Sort.putCells (encN N) o d' cur, by rw [hlen], h1, ?_, by rw [hlen]; exact h3, h4, by rw [putCells_size]; exact h5, ?_⟩⟩
    · unfold sortWorld Go.Sort.putRow Go.Sort.mapBlock Go.Sort.grow
      simp only [Go.Sort.heap_ahead]
      rw [Array.getElem?_append_left (by simpa using hlt), Array.getElem?_modify, if_pos rfl, h2]
      rfl
    · rw [hlen]
      have hblk : (sortWorld (encN N) W gs o m d' os).heap[gs]? = some (.cells (Go.Sort.putCells (encN N) o d' cur) 3 (0, 0)) := by
        unfold sortWorld Go.Sort.putRow Go.Sort.mapBlock Go.Sort.grow
        simp only [Go.Sort.heap_ahead]
        rw [Array.getElem?_append_left (by simpa using hlt), Array.getElem?_modify, if_pos rfl, h2]
        rfl
      have hcell : ∀ i, (Go.Sort.putCells (encN N) o d' cur)[i]? = (Go.Sort.putRow (encN N) W gs o d').cell? ⟨gs, i, none⟩ := fun i => by
        have hb2 : (Go.Sort.putRow (encN N) W gs o d').heap[gs]? = some (.cells (Go.Sort.putCells (encN N) o d' cur) 3 (0, 0)) := by
          unfold Go.Sort.putRow Go.Sort.mapBlock
          rw [Array.getElem?_modify, if_pos rfl, h2]
          rfl
        rw [cell_of_row _ gs i _ 3 (0, 0) hb2]
      apply List.ext_getElem?
      intro i
      by_cases hi : i < T.length
      · rw [List.getElem?_take_of_lt (by omega), Array.getElem?_toList, hcell i, List.getElem?_map]
        by_cases hi1 : i < o
        · rw [Go.Sort.cell?_putRow_other _ _ _ _ _ _ (.inr (.inl hi1)), List.append_assoc, List.getElem?_append_left (by simp; omega), List.getElem?_take_of_lt hi1, h.cellAt i hi, List.getElem?_eq_getElem hi, nth_eq T i hi]
          rfl
        · by_cases hi2 : i < o + d.size
          · have := Go.Sort.cell?_putRow (encN N) W gs o d d' hd hs (i - o) (by omega)
            rw [show o + (i - o) = i by omega] at this
            rw [this, List.getElem?_append_left (by simp [hs]; omega), List.getElem?_append_right (by simp; omega)]
            rw [List.length_take, Nat.min_eq_left (by omega), List.getElem?_map, Array.getElem?_toList, Array.getElem?_eq_getElem (show i - o < d'.size by omega)]
            simp only [Option.map_some]
            rw [getElem!_pos d' (i - o) (by omega)]
            rfl
          · rw [Go.Sort.cell?_putRow_other _ _ _ _ _ _ (.inr (.inr (by show o + d'.size ≤ i; omega))), List.getElem?_append_right (by simp [hs]; omega), h.cellAt i hi, List.getElem?_drop]
            rw [show o + d.size + (i - (List.take o T ++ List.map (fun x => ((x.val : Nat) : Int)) d'.toList).length) = i by simp [hs]; omega, List.getElem?_eq_getElem hi, nth_eq T i hi]
            rfl
      · rw [List.getElem?_eq_none (by simp; omega), List.getElem?_eq_none (by simp only [List.length_map]; omega)]
end Go.Proofs.Ytgicfgpemcagcaa
/- Walks of rank: a part of a row's numbers put in order. -/
namespace Go.Proofs.Ytgicfgpemcagcaa
set_option linter.unusedVariables false
set_option maxRecDepth 100000
open Go.RowKit Go.Shelf
open Go.Sort (SWO PermIn SortedIn Holds)
/-- What sorting a part leaves. -/
def SortedPart (W : World) (base o k c : Nat) (A : Option Addr) (T : List Int) (f : Nat → Int) (e : Ending) (w' : World) : Prop :=
  e = .returned (.tuple #[]) ∧ ∃ s' : List Int, s'.Perm ((T.drop o).take k) ∧ s'.Pairwise (fun a b => ltB (fun x => f x.toNat) b a = false) ∧ OwnI w' base (.slice A T.length c) (T.take o ++ s' ++ T.drop (o + k)) ∧ W.grownBy w' (Value.slice A T.length c).ownBlock
theorem part_map {N k o : Nat} {T : List Int} (ho : o + k ≤ T.length) (hn : ∀ j, j < T.length → ∃ x : Nat, nth T j = (x : Int) ∧ x < N) :
    ∃ d : Array (Fin N), d.size = k ∧ (∀ j (hj : j < d.size), ((d[j].val : Nat) : Int) = nth T (o + j)) ∧ d.toList.map (fun x => ((x.val : Nat) : Int)) = (T.drop o).take k := by
  have hlt : ∀ j : Fin k, (nth T (o + j.val)).toNat < N := fun j => by
    obtain ⟨x, hx, hxN⟩ := hn (o + j.val) (by have := j.isLt; omega)
    rw [hx]; simpa using hxN
  refine ⟨Array.ofFn (n := k) fun j => ⟨(nth T (o + j.val)).toNat, hlt j⟩, by simp, fun j hj => ?_, ?_⟩
  · simp only [Array.getElem_ofFn]
    obtain ⟨x, hx, _⟩ := hn (o + j) (by simp at hj; omega)
    rw [hx]; simp
  · apply List.ext_getElem
    · simp; omega
    · intro i h1 h2
      simp only [List.getElem_map, Array.getElem_toList, Array.getElem_ofFn, List.getElem_take, List.getElem_drop]
      simp at h1
      obtain ⟨x, hx, _⟩ := hn (o + i) (by omega)
      rw [hx, ← nth_eq T (o + i) (by omega), hx]; simp
set_option maxHeartbeats 2000000 in
theorem sort_part (W : World) (base o k kc c cx fb g ge n ce : Nat) (A : Option Addr) (sV lV : Value) (T : List Int) (f : Nat → Int) (h : OwnI W base (.slice A T.length c) T) (ho : o + k ≤ T.length) (hT : T.length ≤ 1048576) (hn : ∀ j, j < T.length → ∃ x : Nat, nth T j = (x : Int) ∧ x < n)
    (hC : CmpAt W cx fb g ge n ce sV lV f) (h1 : some cx ≠ (Value.slice A T.length c).ownBlock) (h2 : some fb ≠ (Value.slice A T.length c).ownBlock) (h3 : some g ≠ (Value.slice A T.length c).ownBlock) (h4 : some ge ≠ (Value.slice A T.length c).ownBlock) (h5 : ge < W.heap.size) :
    Calls Try.prog 83 #[.slice (sgA A o (o + k)) k kc, .func (.func 84) #[] #[.pointer (some ⟨cx, 0, none⟩)]] W (SortedPart W base o k c A T f) := by
  rcases Nat.eq_zero_or_pos k with hk | hk
  · subst hk
    have hcon := AnyF.slices_SortFunc_none (P := Try.prog) (ρ := Try.sortI_ren) { Try.sortI with } (sgA A o (o + 0)) kc (.func (.func 84) #[] #[.pointer (some ⟨cx, 0, none⟩)]) W
    change Calls Try.prog 83 _ _ _ at hcon
    refine hcon.mono ?_
    rintro e w' ⟨rfl, rfl⟩
    exact ⟨rfl, [], by simp, List.Pairwise.nil, by rw [List.append_nil, Nat.add_zero, List.take_append_drop]; exact h, World.grownBy.refl _ _⟩
  · obtain ⟨gs, rfl⟩ : ∃ gs, A = some ⟨gs, 0, none⟩ := by
      rcases h.2 with ⟨e, e2⟩ | ⟨q, cap, cur, e, _⟩
      · omega
      · cases e; exact ⟨_, rfl⟩
    replace h1 : cx ≠ gs := by simpa [Value.ownBlock] using h1
    replace h2 : fb ≠ gs := by simpa [Value.ownBlock] using h2
    replace h3 : g ≠ gs := by simpa [Value.ownBlock] using h3
    replace h4 : ge ≠ gs := by simpa [Value.ownBlock] using h4
    have hN : 0 < n := by
      obtain ⟨x, _, hx⟩ := hn o (by omega)
      omega
    haveI : Inhabited (Fin n) := ⟨⟨0, hN⟩⟩
    obtain ⟨d, hds, hdv, hdm⟩ := part_map (o := o) (k := k) ho hn
    have hlt := (h.lt gs rfl).2
    have hH : Holds (encN n) W gs o d := fun j hj => by
      refine ⟨?_, h.frozenAt _⟩
      rw [h.cellAt (o + j) (by omega), getElem!_pos d j hj]
      unfold encN
      rw [hdv j hj]
    have eg : ∀ args w, (callFunc 84 args).run Try.prog w = .ok (.enter 84 args) w := enters_of Try.func84 (by kernel_rfl) rfl
    have hcmp : CmpLays1 Try.prog 84 #[.pointer (some ⟨cx, 0, none⟩)] (encN n) (cfF f n) gs o d.size W := fun m os dk _ x y => by
      have hC' := hC.grown (sort1_grown (encN n) W gs o m dk os) h1 h2 h3 h4 h5
      refine (closure_cmp cx fb g ge n ce x.val y.val sV lV f _ hC' x.isLt y.isLt).mono ?_
      rintro e w' ⟨rfl, q, rfl⟩
      exact ⟨rfl, q, #[], by rw [Go.Sort.grow_empty]⟩
    have hcon := Any.slices_SortFunc Try.sortI (encN n) (fun _ => rfl) (cfF f n) (swoF f n) 84 #[.pointer (some ⟨cx, 0, none⟩)] gs o kc d W eg hcmp hH hlt (by omega)
    change Calls Try.prog 83 _ _ _ at hcon
    have hsg : sgA (some ⟨gs, 0, none⟩) o (o + k) = some ⟨gs, o, none⟩ := by
      unfold sgA
      rw [if_neg (by omega)]
      simp only [Option.map_some]
      rw [add_plain, Nat.zero_add]
    rw [hds] at hcon
    rw [hsg]
    refine hcon.mono ?_
    rintro e w' ⟨rfl, d', m, os, hp, hs, rfl⟩
    obtain ⟨p1, p2, p3⟩ := hp
    have p1' : d'.size = k := by rw [p1, hds]
    have e1 : (d'.extract 0 k).toList = d'.toList := by rw [← p1']; simp
    have e2 : (d.extract 0 k).toList = d.toList := by rw [← hds]; simp
    rw [e1, e2] at p3
    refine ⟨rfl, d'.toList.map (fun x => ((x.val : Nat) : Int)), ?_, ?_, ?_, sort1_grown _ _ _ _ _ _ _⟩
    · rw [← hdm]; exact p3.map _
    · rw [List.pairwise_map, List.pairwise_iff_getElem]
      intro i j hi hj hij
      simp at hi hj
      have := hs i j (Nat.zero_le _) hij (by omega)
      rw [ltF, getElem!_pos d' i hi, getElem!_pos d' j hj] at this
      simp only [Array.getElem_toList]
      unfold ltB
      simp only [Int.toNat_natCast]
      simp at this ⊢
      omega
    · have := own_sorted (n := 0) (m := m) (os := os) h hH (by rw [p1', hds]) (by omega)
      rw [hds] at this
      exact this
set_option maxHeartbeats 2000000 in
theorem putInOrder_any (W : World) (base o k kc c fb g ge n ce : Nat) (A : Option Addr) (sV lV : Value) (T : List Int) (f : Nat → Int) (h : OwnI W base (.slice A T.length c) T) (ho : o + k ≤ T.length) (hT : T.length ≤ 1048576) (hn : ∀ j, j < T.length → ∃ x : Nat, nth T j = (x : Int) ∧ x < n)
    (hf : Blk W fb 34 #[.func (.func 74) #[.pointer (some ⟨g, 0, none⟩)] #[], .func (.func 75) #[.pointer (some ⟨g, 0, none⟩)] #[]]) (hg : Blk W g 67 #[.slice (some ⟨ge, 0, none⟩) n ce, sV, lV]) (he : ∀ x, x < n → W.cell? ⟨ge, x * 2 + 1, none⟩ = some (.int .i64 (f x)))
    (h4 : some ge ≠ (Value.slice A T.length c).ownBlock) (h5 : ge < W.heap.size) :
    Calls Try.prog 73 #[.slice (sgA A o (o + k)) k kc, .slice (some ⟨fb, 0, none⟩) 2 2] W (SortedPart W base o k c A T f) := by
  have hB := Blk.new W 82 #[.slice (some ⟨fb, 0, none⟩) 2 2]
  have hC : CmpAt (W.alloc (.cells #[.slice (some ⟨fb, 0, none⟩) 2 2] 82)) W.heap.size fb g ge n ce sV lV f := ⟨hB, hf.alloc _, hg.alloc _, fun x hx => (World.cell?_of_block (Below.heap_alloc W _ ge h5)).trans (he x hx)⟩
  have C1 := Lib.hid (sort_part (W.alloc (.cells #[.slice (some ⟨fb, 0, none⟩) 2 2] 82)) base o k kc c W.heap.size fb g ge n ce A sV lV T f (h.alloc _) ho hT hn hC (hB.not_row (by decide) (h.alloc _)) (hf.not_row (by decide) h) (hg.not_row (by decide) h) h4 (by simp; omega))
  obtain ⟨v, hv⟩ : ∃ v, sgA A o (o + k) = v := ⟨_, rfl⟩
  rw [hv] at C1 ⊢
  clear hv
  go_enter Try.func73, Try.ntmps73
  go_wp2_with fail
  refine C1.out.mono ?_
  rintro e w' ⟨rfl, s', p1, p2, p3, p4⟩
  go_wp2
  go_end0
  exact ⟨rfl, s', p1, p2, p3, (World.grownBy_alloc W _ _).trans p4⟩
end Go.Proofs.Ytgicfgpemcagcaa
