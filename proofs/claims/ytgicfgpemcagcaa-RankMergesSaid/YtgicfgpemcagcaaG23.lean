/- Walks and mathematics of rank, part 23. -/
import Derived.Test.YtgicfgpemcagcaaG22
/- Walks of rank: (*row).sort. -/
namespace Go.Proofs.Ytgicfgpemcagcaa
set_option linter.unusedVariables false
set_option maxRecDepth 100000
open Go.RowKit Go.Shelf
attribute [local go_sem] Oper.semAt_some
/-- The order of the words of elements. -/
def pkey (ps : List (Int × Int)) (x : Int) : Int := (pth ps x.toNat).2
theorem seg_app {l lens T s' : List Int} (hz : Segs l lens) (hT : T.length = l.length) (i : Nat) (hi : i < lens.length) (hs : s'.length = ofs lens (i + 1) - ofs lens i) (t : Nat) (ht : t < lens.length) :
    sgL (T.take (ofs lens i) ++ s' ++ T.drop (ofs lens i + (ofs lens (i + 1) - ofs lens i))) lens t = if t = i then s' else sgL T lens t := by
  have h1 := hz.step i hi
  have hl2 : (T.take (ofs lens i) ++ s' ++ T.drop (ofs lens i + (ofs lens (i + 1) - ofs lens i))).length = l.length := by simp; omega
  have hzT := sg_of_len hz hT
  have hz2 := sg_of_len hz hl2
  have hlt := sg_len hz2 t ht
  have hlT := sg_len hzT t ht
  split
  · rename_i e
    subst e
    refine eq_of_nth (by omega) fun j hj => ?_
    rw [seg_nth _ _ _ _ hj, List.append_assoc, nth_app_ge _ _ _ (by rw [List.length_take]; omega), List.length_take, Nat.min_eq_left (by omega), nth_app_lt _ _ _ (by omega), show ofs lens t + j - ofs lens t = j by omega]
  · rename_i e
    refine eq_of_nth (by omega) fun j hj => ?_
    rw [seg_nth _ _ _ _ hj, seg_nth _ _ _ _ (by omega)]
    have h2 := hz.step t ht
    rcases Nat.lt_or_ge t i with h3 | h3
    · have := ofs_mono hz (show t + 1 ≤ i by omega) (by omega)
      rw [List.append_assoc, nth_app_lt _ _ _ (by simp; omega), nth_take _ _ _ (by omega)]
    · have := ofs_mono hz (show i + 1 ≤ t by omega) (by omega)
      rw [nth_app_ge _ _ _ (by simp; omega), nth_drop]
      congr 1
      simp; omega
theorem putInOrder0_any (B : Option Addr) (kc fb : Nat) (W : World) : Calls Try.prog 73 #[.slice B 0 kc, .slice (some ⟨fb, 0, none⟩) 2 2] W fun e w' => e = .returned (.tuple #[]) ∧ w' = W.alloc (.cells #[.slice (some ⟨fb, 0, none⟩) 2 2] 82) := by
  have hcon := fun V W => AnyF.slices_SortFunc_none (P := Try.prog) (ρ := Try.sortI_ren) { Try.sortI with } B kc V W
  replace hcon : ∀ V W, Calls Try.prog 83 #[.slice B 0 kc, V] W fun e w' => e = .returned (.tuple #[]) ∧ w' = W := hcon
  have hcon := Lib.hid hcon
  go_enter Try.func73, Try.ntmps73
  go_wp2_with fail
  refine (hcon.out _ _).mono ?_
  rintro e w' ⟨rfl, rfl⟩
  go_wp2
  go_end0
  exact ⟨rfl, rfl⟩
set_option maxHeartbeats 2000000 in
/-- putInOrder on the part of the segment i, whatever the row's slices. -/
theorem put_part (base g fb c3 i : Nat) (A3 : Option Addr) (eV lV : Value) (ps : List (Int × Int)) (T lens : List Int) (Y : World) (hR : RowAt Y base g eV (.slice A3 T.length c3) lV ps T) (hz : Segs T lens) (hi : i < lens.length) (hn : ∀ j, j < T.length → ∃ x : Nat, nth T j = (x : Int) ∧ x < ps.length)
    (hf : Blk Y fb 34 #[.func (.func 74) #[.pointer (some ⟨g, 0, none⟩)] #[], .func (.func 75) #[.pointer (some ⟨g, 0, none⟩)] #[]]) :
    Calls Try.prog 73 #[.slice (sgA A3 (ofs lens i) (ofs lens (i + 1))) (ofs lens (i + 1) - ofs lens i) (ofs lens (i + 1) - ofs lens i), .slice (some ⟨fb, 0, none⟩) 2 2] Y (SortedPart Y base (ofs lens i) (ofs lens (i + 1) - ofs lens i) c3 A3 T (fun x => (pth ps x).2)) := by
  have h1 := hz.step i hi
  rcases hR.els.form with ⟨c7, hps, _⟩ | ⟨ge, c7, rfl, h71, h72, h73, h74, h75⟩
  · have hT0 : T.length = 0 := by
      rcases Nat.eq_zero_or_pos T.length with e | e
      · exact e
      · obtain ⟨x, _, hx⟩ := hn 0 e
        rw [hps] at hx; simp at hx
    have hk : ofs lens (i + 1) - ofs lens i = 0 := by omega
    rw [hk]
    refine (putInOrder0_any _ _ _ Y).mono ?_
    rintro e w' ⟨rfl, rfl⟩
    exact ⟨rfl, [], by simp, List.Pairwise.nil, by rw [List.append_nil, Nat.add_zero, List.take_append_drop]; exact hR.std.alloc _, World.grownBy_alloc Y _ _⟩
  · have := putInOrder_any Y base (ofs lens i) (ofs lens (i + 1) - ofs lens i) (ofs lens (i + 1) - ofs lens i) c3 fb g ge ps.length c7 A3 (.slice A3 T.length c3) lV T (fun x => (pth ps x).2) hR.std (by omega) hz.short hn hf hR.row (fun x hx => (h74 x hx).2) (by
      have := (own_apart hR.els hR.std).2
      rcases this with h | h
      · simp [Value.ownBlock] at h
      · simpa [Value.ownBlock] using h) h73
    rw [show ofs lens i + (ofs lens (i + 1) - ofs lens i) = ofs lens (i + 1) by omega] at this
    exact this
set_option maxHeartbeats 8000000 in
theorem sort_any (A A' : Option Addr) (c base g : Nat) (eV sV : Value) (ps : List (Int × Int)) (S lens : List Int) (w : World) (hR : RowAt w base g eV sV (.slice A' lens.length c) ps S) (hgb : base ≤ g) (hbb : base ≤ w.heap.size)
    (hL : 0 < lens.length → ∃ b off, A' = some ⟨b, off, none⟩ ∧ b < base ∧ ∀ j, j < lens.length → w.cell? ⟨b, off + j, none⟩ = some (.int .i64 (nth lens j))) (hI : SInvK (pkey ps) lens S 0) (hpl : S.length = ps.length) :
    Calls Try.prog 57 #[.pointer (some ⟨g, 0, none⟩)] w fun e w' => e = .returned (.tuple #[]) ∧ ∃ T, SInv (pkey ps) lens T ∧ RowAt w' base g eV sV (.slice A' lens.length c) ps T ∧ Below base w w' := by
  have hz := hI.segs
  have HPL := Lib.hid hpl
  clear hpl
  have hlen := hz.few
  have hll := hz.short
  obtain ⟨A3, c3, rfl, hc3, hs3⟩ := hR.std.form
  refine (callsIn_wide (n := 8)).1 ?_
  refine callsIn_of_wp_marks Try.func57 rfl trivial ?_ rfl
  simp only [Try.ntmps57, List.size_toArray, List.length_cons, List.length_nil, Nat.reduceAdd, Nat.reduceSub, Array.replicate_succ, Array.replicate_zero, List.push_toArray, List.append_toArray, List.nil_append, List.cons_append]
  gi_wp2
  have b1 := Blk.new w 48 #[.pointer (some ⟨g, 0, none⟩)]
  have r1 := hR.alloc (.cells #[.pointer (some ⟨g, 0, none⟩)] 48)
  have hB1 : Below base w (w.alloc (.cells #[.pointer (some ⟨g, 0, none⟩)] 48)) := (Below.refl _ _).alloc hbb _
  have hz1 : (w.alloc (.cells #[.pointer (some ⟨g, 0, none⟩)] 48)).heap.size = w.heap.size + 1 := by simp
  obtain ⟨W1, hW1⟩ : ∃ W1, w.alloc (.cells #[.pointer (some ⟨g, 0, none⟩)] 48) = W1 := ⟨_, rfl⟩
  rw [hW1] at b1 r1 hB1 hz1 ⊢
  clear hW1
  refine wpIn_region_mix' (fun W' => Blk W' w.heap.size 48 #[.pointer (some ⟨g, 0, none⟩)] ∧ Blk W' g 67 #[eV, .slice A3 S.length c3, .slice A' lens.length c]) [false, false, false, false, false, false, false, false] (fun _ => trivial) rfl (by kernel_rfl) (by kernel_rfl) ⟨b1.drew, r1.row.drew⟩ ?_
  simp only [mixT, mixH, mixD]
  have LT : ∀ W', (Blk W' w.heap.size 48 #[.pointer (some ⟨g, 0, none⟩)] ∧ Blk W' g 67 #[eV, .slice A3 S.length c3, .slice A' lens.length c]) → W'.cell? ⟨w.heap.size, 0, none⟩ = some (.pointer (some ⟨g, 0, none⟩)) ∧ W'.cell? ⟨g, 1, none⟩ = some (.slice A3 S.length c3) ∧ W'.cell? ⟨g, 2, none⟩ = some (.slice A' lens.length c) := fun W' hW => ⟨hW.1.cell 0, hW.2.cell 1, hW.2.cell 2⟩
  iterate 8 (refine wpLts_light ?_ (fun W' hW => ?_) ?_; rotate_left; (obtain ⟨q0, q1, q2⟩ := LT W' hW; go_simp; try with_reducible rfl); simp only [Act.put, List.setIfInBounds_toArray, List.set_cons_zero, List.set_cons_succ])
  refine wpLts_nil ?_
  refine wpHvs_nil ?_
  clear LT
  gi_wp2_with (refine ⟨trivial, ?_⟩; gi_at_call 69; refine (callsIn_wide.2 (segments_any _ _ ⟨_, _, _, rfl⟩ ⟨_, _, _, rfl⟩ _)).mono ?_; rintro e w' ⟨rfl, rfl⟩)
  have bb : Blk ((W1.alloc (.cells #[.slice A3 S.length c3] 22)).alloc (.cells #[.slice A' lens.length c] 22)).drew w.heap.size 48 #[.pointer (some ⟨g, 0, none⟩)] := (b1.alloc _).alloc _
  have bs1 : Blk ((W1.alloc (.cells #[.slice A3 S.length c3] 22)).alloc (.cells #[.slice A' lens.length c] 22)).drew (w.heap.size + 1) 22 #[.slice A3 S.length c3] := by rw [← hz1]; exact (Blk.new W1 _ _).alloc _
  have bs2 : Blk ((W1.alloc (.cells #[.slice A3 S.length c3] 22)).alloc (.cells #[.slice A' lens.length c] 22)).drew (w.heap.size + 1 + 1) 22 #[.slice A' lens.length c] := Blk.new' (by simp [hz1])
  have rr : RowAt ((W1.alloc (.cells #[.slice A3 S.length c3] 22)).alloc (.cells #[.slice A' lens.length c] 22)).drew base g eV (.slice A3 S.length c3) (.slice A' lens.length c) ps S := ((r1.alloc _).alloc _).step (Below.refl _ _).drew
  have hB0 : Below base w ((W1.alloc (.cells #[.slice A3 S.length c3] 22)).alloc (.cells #[.slice A' lens.length c] 22)).drew := ((hB1.alloc (by omega) _).alloc (by simp; omega) _).drew
  have hsz : ((W1.alloc (.cells #[.slice A3 S.length c3] 22)).alloc (.cells #[.slice A' lens.length c] 22)).drew.heap.size = w.heap.size + 3 := by simp [hz1]
  obtain ⟨W0, hW0⟩ : ∃ W0, ((W1.alloc (.cells #[.slice A3 S.length c3] 22)).alloc (.cells #[.slice A' lens.length c] 22)).drew = W0 := ⟨_, rfl⟩
  rw [hW0] at bb bs1 bs2 rr hB0 hsz ⊢
  clear hW0 b1 r1 hB1 hz1
  refine wpIn_rangeFunc_ownH rfl (by omega) (gf := 82) (lb := #[.pointer (some ⟨w.heap.size + 1 + 1, 0, none⟩), .pointer (some ⟨w.heap.size + 1, 0, none⟩)]) rfl trivial (enters_of Try.func82 (by kernel_rfl) rfl)
    (segs_stops Fence.wide (8 - 1) trivial rfl (by omega) (w.heap.size + 1) (w.heap.size + 1 + 1) base c c3 A3 A' S lens hz hc3 W0 (by omega) (by omega) (bs2.cell 0) bs1 (fun h0 => by
      obtain ⟨b, off, e, hb, hcs⟩ := hL h0
      exact ⟨b, off, e, hb, fun j hj => (hB0.cell (p := ⟨b, off + j, none⟩) hb).trans (hcs j hj)⟩)) kpB_t (kpB_b (by omega) (by omega)) (Below.refl _ _) (fun _ => rfl)
    (fun pre Y => ∃ (T : List Int), T.length = S.length ∧ Blk Y w.heap.size 48 #[.pointer (some ⟨g, 0, none⟩)] ∧ RowAt Y base g eV (.slice A3 T.length c3) (.slice A' lens.length c) ps T ∧ Blk Y (w.heap.size + 1) 22 #[.slice A3 S.length c3] ∧ (∀ s, s < lens.length → (sgL T lens s).Perm (rgI (ofs lens s) (ofs lens (s + 1)))) ∧ (∀ x ∈ pre, (sgL T lens x.val).Pairwise (fun a b => ltB (pkey ps) a b = true)) ∧ Below base w Y)
    (fun _ _ _ => False)
    (fun _ X Y row hs hg hr => by
      obtain ⟨T, h0, h1, h2, h3, h4, h5, h6⟩ := hs
      exact ⟨T, h0, h1.aside hg hr, h2.aside hg hr, h3.aside hg hr, h4, h5, below_aside h6 hbb (by omega) hg hr⟩)
    (fun _ _ _ _ _ hs _ _ => hs)
    ⟨S, rfl, bb, rr, bs1, hI.perm, by simp, hB0⟩
    (fun x' a' Y => a' = ⟨#[.pointer (some ⟨g, 0, none⟩), .pointer (some ⟨w.heap.size, 0, none⟩), undef, (.slice (sgA A3 (ofs lens x'.val) (ofs lens (x'.val + 1))) (ofs lens (x'.val + 1) - ofs lens x'.val) (ofs lens (x'.val + 1) - ofs lens x'.val)), .pointer (some ⟨g, 0, none⟩), .pointer (some ⟨g, 0, none⟩), .pointer (some ⟨g, 1, none⟩), .slice A3 S.length c3, .pointer (some ⟨g, 0, none⟩), .pointer (some ⟨g, 0, none⟩), .pointer (some ⟨g, 2, none⟩), .slice A' lens.length c, .func (.func 82) #[] #[.pointer (some ⟨w.heap.size + 1 + 1, 0, none⟩), .pointer (some ⟨w.heap.size + 1, 0, none⟩)], .int .i64 ((x'.val : Nat) : Int), (.slice (sgA A3 (ofs lens x'.val) (ofs lens (x'.val + 1))) (ofs lens (x'.val + 1) - ofs lens x'.val) (ofs lens (x'.val + 1) - ofs lens x'.val)), undef, undef, undef, undef, undef, undef, undef], []⟩)
    (fun x a' _ X Y row hs hg hr => hs)
    ?assign ?body ?done ?stop
  case assign =>
    rintro i pre x' Y Q hI hK
    simp only [segV]
    gi_wp2
    exact hK _ _ (KeepsFrom.refl _ _) (kpB_refl _ _ _) hI rfl
  case body =>
    rintro i pre x' a' Y hl' ⟨r, hr⟩ ⟨T, h0, h1, h2, h3, h4, h5, h6⟩ rfl hlt
    have hx := x'.isLt
    have hzT := sg_of_len hz h0
    have hnT : ∀ j, j < T.length → ∃ y : Nat, nth T j = (y : Int) ∧ y < ps.length := fun j hj => by
      obtain ⟨y, hy, hy2⟩ := SInvK.num (key := pkey ps) (k := 0) ⟨hzT, h4, fun s hs => absurd hs (by omega)⟩ j hj
      exact ⟨y, hy, by have := HPL.out; omega⟩
    have q0 := h1.cell 0
    simp at q0
    have bf := Blk.new Y 34 #[.func (.func 74) #[.pointer (some ⟨g, 0, none⟩)] #[], .func (.func 75) #[.pointer (some ⟨g, 0, none⟩)] #[]]
    have CP := Lib.hid (put_part base g Y.heap.size c3 x'.val A3 eV (.slice A' lens.length c) ps T lens _ (h2.alloc (.cells #[.func (.func 74) #[.pointer (some ⟨g, 0, none⟩)] #[], .func (.func 75) #[.pointer (some ⟨g, 0, none⟩)] #[]] 34)) hzT hx hnT bf)
    have hseg : Hid ((T.drop (ofs lens x'.val)).take (ofs lens (x'.val + 1) - ofs lens x'.val) = sgL T lens x'.val) := Lib.hid rfl
    have HX := Lib.hid hx
    obtain ⟨pv, hpv⟩ : ∃ pv, Value.slice (sgA A3 (ofs lens x'.val) (ofs lens (x'.val + 1))) (ofs lens (x'.val + 1) - ofs lens x'.val) (ofs lens (x'.val + 1) - ofs lens x'.val) = pv := ⟨_, rfl⟩
    rw [hpv] at CP ⊢
    clear hpv hx hnT
    gi_wp2_with (refine ⟨trivial, ?_⟩; gi_at_call 73; refine (CallsIn.inRound i (callsIn_wide.2 CP.out)).mono ?_; rintro e w2 ⟨rfl, s', p1, p2, p3, p4⟩)
    have hx := HX.out
    have hstep := hz.step x'.val hx
    rw [hseg.out] at p1
    have hp0 := h4 x'.val hx
    have hsl' : s'.length = ofs lens (x'.val + 1) - ofs lens x'.val := by rw [p1.length_eq, sg_len hzT x'.val hx]
    obtain ⟨T', hT'⟩ : ∃ T', T.take (ofs lens x'.val) ++ s' ++ T.drop (ofs lens x'.val + (ofs lens (x'.val + 1) - ofs lens x'.val)) = T' := ⟨_, rfl⟩
    have hTl : T'.length = T.length := by rw [← hT']; simp; omega
    have hsg : ∀ t, t < lens.length → sgL T' lens t = if t = x'.val then s' else sgL T lens t := fun t ht => by
      rw [← hT']; exact seg_app hzT rfl x'.val hx hsl' t ht
    rw [hT'] at p3
    have hord : s'.Pairwise (fun a b => ltB (pkey ps) a b = true) := by
      have hnd : s'.Nodup := (p1.trans hp0).nodup_iff.2 (rgI_nodup _ _)
      exact (p2.and hnd).imp (fun {a b} h => ltB_tri h.1 (fun e => h.2 e.symm))
    have hbY : base ≤ Y.heap.size := Nat.le_trans hbb (by have := h1.lt; omega)
    have k3 := (h3.alloc (.cells #[.func (.func 74) #[.pointer (some ⟨g, 0, none⟩)] #[], .func (.func 75) #[.pointer (some ⟨g, 0, none⟩)] #[]] 34)).grown p4 (h3.not_row (by decide) h2.std)
    have hbl : Below base Y w2 := ((Below.refl base Y).alloc hbY _).grown p4 (by simp; omega) (fun k e => (h2.std.lt k e).1)
    refine ⟨((KeepsOthers.alloc Y _).trans (KeepsOthers.of_grownBy p4 (fun j o ej hj => (h2.std.alloc _).cellsBlock j o ej hj))).from _, ⟨hbl, k3.trans h3.symm⟩, T', by rw [hTl]; exact h0, (h1.alloc _).grown p4 (h1.not_row (by decide) h2.std), ?_, k3, fun t ht => ?_, fun y hy => ?_, h6.trans hbl⟩
    · rw [hTl]
      exact ⟨(h2.row.alloc _).grown p4 (h2.row.not_row (by decide) h2.std), (h2.els.alloc _).kept p4 (own_apart h2.els h2.std).2, p3⟩
    · rw [hsg t ht]
      split
      · rename_i e
        subst e
        exact p1.trans hp0
      · exact h4 t ht
    · rw [hsg y.val y.isLt]
      split
      · exact hord
      · rename_i e
        rcases List.mem_append.1 hy with hy | hy
        · exact h5 y hy
        · rw [List.mem_singleton] at hy
          exact absurd (by rw [hy]) e
  case done =>
    rintro D ys Z hD rfl ⟨T, h0, h1, h2, h3, h4, h5, h6⟩ hK
    have hsz0 : w.heap.size < Z.heap.size := h1.lt
    gi_wp2
    refine ⟨by simp, .inl ⟨_, _, rfl, run_takeDeferred hK, ?_⟩⟩
    refine ⟨.tuple #[], by simp [results, Try.f57, go_sem], ?_⟩
    have ha : Aside base Z (some D) := fun r e => by cases e; exact ⟨by omega, _, hK, rfl⟩
    rw [← h0]
    exact ⟨rfl, T, ⟨sg_of_len hz h0, h4, fun s _ hs => h5 ⟨s, hs⟩ (List.mem_finRange _)⟩, h2.aside (grownBy_putObj' _ D (.deferred none)) ha, below_aside (B := base) h6 hbb (Nat.le_refl _) (grownBy_putObj' _ D (.deferred none)) ha⟩
  case stop =>
    rintro D cd pre Z _ _ hh _
    exact hh.elim
end Go.Proofs.Ytgicfgpemcagcaa
/- Walks of rank: places, Split, Order. -/
namespace Go.Proofs.Ytgicfgpemcagcaa
set_option linter.unusedVariables false
set_option maxRecDepth 100000
open Go.RowKit Go.Shelf
theorem sgE_ok {l lens : List Int} (h : sgE l lens = 0) : lsE [l, lens] = 0 ∧ Segs l lens := by
  unfold sgE at h
  by_cases h1 : lsE [l, lens] = 0
  · rw [if_pos h1] at h
    by_cases h2 : ckE lens = 0 ∧ lens.sum = l.length
    · obtain ⟨k1, k2, _⟩ := ck_fine h2.1
      exact ⟨h1, ⟨k1, k2, (lsE_ok h1).1 l (by simp), h2.2⟩⟩
    · rw [if_neg h2] at h; cases h
  · rw [if_neg h1] at h; exact absurd h h1
theorem sgE_words {l lens : List Int} (h : sgE l lens = 0) : ∀ j, j < l.length → isW (nth l j) := (lsE_ok (sgE_ok h).1).2 l (by simp)
theorem rowOf_err (A A' : Option Addr) (c cl : Nat) (l lens : List Int) (w : World) (h : Sl w A l) (hcl : l.length ≤ cl) (k : Ok l) (h' : Sl w A' lens) (hc' : lens.length ≤ c) (k' : Ok lens) (he : sgE l lens ≠ 0) :
    Calls Try.prog 49 #[.slice A l.length cl, .slice A' lens.length c] w (RetN w (sgE l lens)) := by
  by_cases h1 : lsE [l, lens] = 0
  · have h2 : ¬ (ckE lens = 0 ∧ lens.sum = l.length) := fun h2 => he (by unfold sgE; rw [if_pos h1, if_pos h2])
    rw [show sgE l lens = 6 by unfold sgE; rw [if_pos h1, if_neg h2]]
    exact rowOf_e2 A A' c cl l lens w h hcl k h' hc' k' h1 h2
  · rw [show sgE l lens = lsE [l, lens] by unfold sgE; rw [if_neg h1]]
    exact rowOf_e1 A A' c cl l lens w h hcl h' hc' h1
theorem pth_app_lt (a b : List (Int × Int)) (k : Nat) (h : k < a.length) : pth (a ++ b) k = pth a k := by
  unfold pth; rw [List.getD_eq_getElem?_getD, List.getD_eq_getElem?_getD, List.getElem?_append_left h]
theorem pth_app_ge (a b : List (Int × Int)) (k : Nat) (h : a.length ≤ k) : pth (a ++ b) k = pth b (k - a.length) := by
  unfold pth; rw [List.getD_eq_getElem?_getD, List.getD_eq_getElem?_getD, List.getElem?_append_right h]
theorem el_fr {l lens : List Int} (hz : Segs l lens) : ∀ (k : Nat), k ≤ lens.length → ∀ s j, s < k → j < ofs lens (s + 1) - ofs lens s → pth (elF l lens (fr lens.length k)) (ofs lens s + j) = ((s : Int), nth l (ofs lens s + j))
  | 0, _, s, j, h, _ => absurd h (by omega)
  | k + 1, hk, s, j, hs, hj => by
    have hl := elF_fr_len hz k (by omega)
    have hsl := sg_len hz k (by omega)
    rw [fr_succ _ k (by omega), elF_snoc]
    by_cases e : s = k
    · subst e
      rw [pth_app_ge _ _ _ (by omega), hl, show ofs lens s + j - ofs lens s = j by omega, pth_eq _ _ (by rw [List.length_map]; show j < (sgL l lens s).length; omega), List.getElem_map, ← seg_nth l lens s j (by omega), nth_eq (sgL l lens s) j (by omega)]
    · have := ofs_mono hz (show s + 1 ≤ k by omega) (by omega)
      rw [pth_app_lt _ _ _ (by omega)]
      exact el_fr hz k (by omega) s j (by omega) hj
/-- The element i: its segment, its word. -/
theorem el_at {l lens : List Int} (hz : Segs l lens) (s i : Nat) (hs : s < lens.length) (h1 : ofs lens s ≤ i) (h2 : i < ofs lens (s + 1)) : pth (elL l lens) i = ((s : Int), nth l i) := by
  have := el_fr hz lens.length (Nat.le_refl _) s (i - ofs lens s) hs (by omega)
  rw [fr_all, show ofs lens s + (i - ofs lens s) = i by omega] at this
  exact this
theorem el_word {l lens : List Int} (hz : Segs l lens) (i : Nat) (hi : i < l.length) : (pth (elL l lens) i).2 = nth l i := by
  obtain ⟨s, h1, h2, h3⟩ := seg_of hz lens.length (Nat.le_refl _) i (by rw [hz.ofs_all]; exact hi)
  rw [el_at hz s i h1 h2 h3]
set_option maxHeartbeats 1000000 in
theorem places_any (base g : Nat) (eV sV lV : Value) (ps : List (Int × Int)) (S : List Int) (w : World) (hR : RowAt w base g eV sV lV ps S) (hl : S.length ≤ 1048576) (hp : ∀ k, k < S.length → 0 ≤ nth S k ∧ nth S k < S.length) :
    Calls Try.prog 52 #[.pointer (some ⟨g, 0, none⟩)] w (RetS w (bkL S)) := by
  obtain ⟨A3, c3, rfl, hc3, hs3⟩ := hR.std.form
  have cg := hR.row.cell 1
  simp at cg
  have C := Lib.hid (inverse_any A3 c3 S w hs3 hl hp)
  clear hp
  go_enter Try.func52, Try.ntmps52
  go_wp2_with fail
  refine C.out.mono ?_
  rintro e w1 ⟨A, c, rfl, hc, hs, hB⟩
  go_wp2
  go_ret
  exact ⟨A, c, rfl, hc, hs, hB⟩
theorem sinv_range {key : Int → Int} {lens S : List Int} {k : Nat} (h : SInvK key lens S k) : ∀ i, i < S.length → 0 ≤ nth S i ∧ nth S i < S.length := fun i hi => by
  obtain ⟨x, hx, h2⟩ := h.num i hi
  omega
/-- 1 for a number whose word is not 0. -/
def fl01 (l : List Int) (x : Int) : Int := if nth l x.toNat ≠ 0 then 1 else 0
theorem flag_any (n : Int) (W : World) : Calls Try.prog 51 (#[.int .i64 n] ++ #[]) W fun e w' => e = .returned (.bool (decide (n ≠ 0))) ∧ w' = W := by
  have hd : (n != 0) = decide (n ≠ 0) := by by_cases e : n = 0 <;> simp [e]
  go_enter Try.func51, Try.ntmps51
  go_wp2
  go_ret
  exact ⟨ret_bool hd, rfl⟩
theorem upL_num (n : Nat) : ∀ j, j < (upL n).length → ∃ x : Nat, nth (upL n) j = (x : Int) ∧ x < n := fun j hj => by
  rw [up_length] at hj
  exact ⟨j, up_nth _ _ hj, hj⟩
set_option maxHeartbeats 2000000 in
theorem Split_any (A A' : Option Addr) (c cl : Nat) (l lens : List Int) (w : World) (h : Sl w A l) (hcl : l.length ≤ cl) (k : Ok l) (h' : Sl w A' lens) (hc' : lens.length ≤ c) (k' : Ok lens) :
    Calls Try.prog 21 #[.slice A l.length cl, .slice A' lens.length c] w (RetL w (orL (sgE l lens) (plcL (fl01 l) lens lens.length)) (sgE l lens)) := by
  by_cases he : sgE l lens = 0
  · obtain ⟨h0, hz⟩ := sgE_ok he
    have C1 := Lib.hid (rowOf_ok A A' c cl l lens w h hcl k h' hc' k' h0 hz)
    have hll := hz.short
    have hzu : Segs (upL l.length) lens := sg_of_len hz (up_length _)
    have hS1 : SInv (fl01 l) lens (kpK (spF (setW (fun n => decide (n ≠ 0)) (elL l lens))) (upL l.length) lens lens.length) := by
      refine SInv.split (key := fun _ => 0) (sinv_up0 hzu _ (fun _ _ => rfl)) (fun x y hx hy hb hlt => ?_) (fun x y hx hy h1 h2 => ?_)
      · rw [up_length] at hx hy
        unfold setW at hb
        rw [Int.toNat_natCast, Int.toNat_natCast, el_word hz x hx, el_word hz y hy] at hb
        rw [ltB_iff] at hlt ⊢
        unfold fl01
        rw [Int.toNat_natCast, Int.toNat_natCast]
        have hb0 : nth l x = 0 ↔ nth l y = 0 := by simpa using hb
        have hb' : (nth l x ≠ 0) ↔ (nth l y ≠ 0) := not_congr hb0
        by_cases e : nth l x ≠ 0
        · rw [if_pos e, if_pos (hb'.1 e)]; omega
        · rw [if_neg e, if_neg (fun e2 => e (hb'.2 e2))]; omega
      · rw [up_length] at hx hy
        unfold setW at h1 h2
        rw [Int.toNat_natCast, el_word hz _ hx] at h1
        rw [Int.toNat_natCast, el_word hz _ hy] at h2
        rw [ltB_iff]
        unfold fl01
        rw [Int.toNat_natCast, Int.toNat_natCast, if_neg (by simpa using h1), if_pos (by simpa using h2)]
        omega
    have HBK := Lib.hid (SInv.back hS1)
    have HRG := Lib.hid (sinv_range hS1)
    have hTl : Hid ((kpK (spF (setW (fun n => decide (n ≠ 0)) (elL l lens))) (upL l.length) lens lens.length).length = l.length) := Lib.hid (by rw [kp_len (spF_len _) hzu, up_length])
    obtain ⟨T, hT⟩ : ∃ T, kpK (spF (setW (fun n => decide (n ≠ 0)) (elL l lens))) (upL l.length) lens lens.length = T := ⟨_, rfl⟩
    have C2 := Lib.hid (fun (W : World) (g : Nat) (eV sV : Value) (hR : RowAt W w.heap.size g eV sV (.slice A' lens.length c) (elL l lens) (upL l.length)) (hg : w.heap.size ≤ g) (hb : w.heap.size ≤ W.heap.size) (hW : Sl W A' lens) =>
      split_any 51 #[] (fun n => decide (n ≠ 0)) A' c w.heap.size g eV sV (elL l lens) (upL l.length) lens W hR hg hb hW hzu (by rw [elL_len hz]; exact hll) (by rw [elL_len hz]; exact upL_num _) (fun W' _ j _ => flag_any _ W') (enters_of Try.func51 (by kernel_rfl) rfl))
    rw [hT] at HBK HRG hTl C2
    clear hT hS1
    rw [he, orL_ok]
    have HE := Lib.hid he
    clear he h0
    go_enter Try.func21, Try.ntmps21
    go_wp2_with fail
    refine C1.out.mono ?_
    rintro e w1 ⟨g, eV, sV, rfl, hg, b1, o1, o2, hB⟩
    go_wp2_with fail
    refine (C2.out w1 g eV sV ⟨b1, o1, o2⟩ hg hB.size (h'.step hB)).mono ?_
    rintro e w2 ⟨rfl, v, hR2, hB2⟩
    have C3 := Lib.hid (places_any w.heap.size g eV v _ _ T w2 hR2 (by rw [hTl.out]; exact hll) HRG.out)
    rw [HBK.out] at C3
    go_wp2_with fail
    refine C3.out.mono ?_
    rintro e w3 ⟨A3, c3, rfl, hc3, hs3, hB3⟩
    go_wp2
    go_ret2
    exact ⟨A3, c3, rfl, hc3, hs3, (hB.trans hB2).trans (hB3.mono (hB.trans hB2).size)⟩
  · have C1 := Lib.hid (rowOf_err A A' c cl l lens w h hcl k h' hc' k' he)
    have hd : (sgE l lens != 0) = true := by rw [bne_iff_ne]; exact he
    have HE := Lib.hid he
    clear he
    go_enter Try.func21, Try.ntmps21
    go_wp2_with fail
    refine C1.out.mono ?_
    rintro e w1 ⟨rfl, hB⟩
    go_wp2
    go_ret2
    exact retL_none HE.out hB
end Go.Proofs.Ytgicfgpemcagcaa
/- Walks of rank: Order, Passes. -/
namespace Go.Proofs.Ytgicfgpemcagcaa
set_option linter.unusedVariables false
set_option maxRecDepth 100000
open Go.RowKit Go.Shelf
theorem sl_low {w W : World} {A : Option Addr} {lens : List Int} (h : Sl w A lens) (hB : Below w.heap.size w W) : 0 < lens.length → ∃ b off, A = some ⟨b, off, none⟩ ∧ b < w.heap.size ∧ ∀ j, j < lens.length → W.cell? ⟨b, off + j, none⟩ = some (.int .i64 (nth lens j)) := fun h0 => by
  obtain ⟨b, off, e, hb, hc⟩ := h h0
  exact ⟨b, off, e, hb, fun j hj => (hB.cell (p := ⟨b, off + j, none⟩) hb).trans (hc j hj)⟩
theorem order_key {l lens : List Int} (hz : Segs l lens) (hw : ∀ j, j < l.length → isW (nth l j)) : plcL (pkey (elL l lens)) lens lens.length = plcL (keyK l 32) lens lens.length :=
  plcL_congr hz fun a b ha hb => by
    unfold ltB
    rw [keyK_all hw a ha, keyK_all hw b hb]
    unfold pkey
    rw [Int.toNat_natCast, Int.toNat_natCast, el_word hz a ha, el_word hz b hb]
    congr 1
    rw [eq_iff_iff]
    omega
set_option maxHeartbeats 2000000 in
theorem Order_any (A A' : Option Addr) (c cl : Nat) (l lens : List Int) (w : World) (h : Sl w A l) (hcl : l.length ≤ cl) (k : Ok l) (h' : Sl w A' lens) (hc' : lens.length ≤ c) (k' : Ok lens) :
    Calls Try.prog 25 #[.slice A l.length cl, .slice A' lens.length c] w (RetL w (orL (sgE l lens) (plcL (keyK l 32) lens lens.length)) (sgE l lens)) := by
  by_cases he : sgE l lens = 0
  · obtain ⟨h0, hz⟩ := sgE_ok he
    have C1 := Lib.hid (rowOf_ok A A' c cl l lens w h hcl k h' hc' k' h0 hz)
    have hll := hz.short
    have hzu : Segs (upL l.length) lens := sg_of_len hz (up_length _)
    have HKEY := Lib.hid (order_key hz (sgE_words he))
    have C2 := Lib.hid (fun (W : World) (g : Nat) (eV sV : Value) (hR : RowAt W w.heap.size g eV sV (.slice A' lens.length c) (elL l lens) (upL l.length)) (hg : w.heap.size ≤ g) (hB : Below w.heap.size w W) =>
      sort_any A' A' c w.heap.size g eV sV (elL l lens) (upL l.length) lens W hR hg hB.size (sl_low h' hB) (sinv_up hzu _) (by rw [up_length, elL_len hz]))
    rw [he, orL_ok]
    have HE := Lib.hid he
    have HLU : Hid (∀ T, SInv (pkey (elL l lens)) lens T → T.length = l.length) := Lib.hid (fun T hT => by rw [← hT.segs.ofs_all, hz.ofs_all])
    clear he h0
    go_enter Try.func25, Try.ntmps25
    go_wp2_with fail
    refine C1.out.mono ?_
    rintro e w1 ⟨g, eV, sV, rfl, hg, b1, o1, o2, hB⟩
    go_wp2_with fail
    refine (C2.out w1 g eV sV ⟨b1, o1, o2⟩ hg hB).mono ?_
    rintro e w2 ⟨rfl, T, hT, hR2, hB2⟩
    have C3 := Lib.hid (places_any w.heap.size g eV sV _ _ T w2 hR2 (by rw [HLU.out T hT]; exact hll) (sinv_range hT))
    rw [SInv.back hT, HKEY.out] at C3
    go_wp2_with fail
    refine C3.out.mono ?_
    rintro e w3 ⟨A3, c3, rfl, hc3, hs3, hB3⟩
    go_wp2
    go_ret2
    exact ⟨A3, c3, rfl, hc3, hs3, (hB.trans hB2).trans (hB3.mono (hB.trans hB2).size)⟩
  · have C1 := Lib.hid (rowOf_err A A' c cl l lens w h hcl k h' hc' k' he)
    have hd : (sgE l lens != 0) = true := by rw [bne_iff_ne]; exact he
    have HE := Lib.hid he
    clear he
    go_enter Try.func25, Try.ntmps25
    go_wp2_with fail
    refine C1.out.mono ?_
    rintro e w1 ⟨rfl, hB⟩
    go_wp2
    go_ret2
    exact retL_none HE.out hB
/-- The error of Passes. -/
def paE (l lens : List Int) (bits : Int) : Int := if sgE l lens = 0 then (if 0 ≤ bits ∧ bits ≤ 32 then 0 else 2) else sgE l lens
theorem bit_any (kb : Nat) (k : Nat) (n : Int) (W : World) (hk : k < 32) (hn : isW n) (hb : Blk W kb 3 #[.int .i64 (k : Int)]) : Calls Try.prog 55 (#[.int .i64 n] ++ #[.pointer (some ⟨kb, 0, none⟩)]) W fun e w' => e = .returned (.bool (bitB n k)) ∧ w' = W := by
  have c0 := hb.cell 0
  simp at c0
  have C := Lib.hid (hasBit_any n k W hn hk)
  show Calls Try.prog 55 #[.int .i64 n, .pointer (some ⟨kb, 0, none⟩)] W _
  go_enter Try.func55, Try.ntmps55
  go_wp2_with fail
  refine C.out.mono ?_
  rintro e w' ⟨rfl, rfl⟩
  go_wp2
  go_ret
  exact ⟨rfl, rfl⟩
theorem SInv.pass' {l lens S : List Int} {k : Nat} (hz : Segs l lens) (hl : S.length = l.length) (h : SInv (keyK l k) lens S) : SInv (keyK l (k + 1)) lens (kpK (spF (setW (fun n => bitB n k) (elL l lens))) S lens lens.length) := by
  refine h.split (fun x y hx hy hb hlt => ?_) (fun x y hx hy h1 h2 => ?_)
  · unfold setW at hb
    rw [Int.toNat_natCast, Int.toNat_natCast, el_word hz x (by omega), el_word hz y (by omega)] at hb
    replace hb : bitB (nth l x) k = bitB (nth l y) k := hb
    rw [ltB_iff] at hlt ⊢
    rw [keyK_succ, keyK_succ, Int.toNat_natCast, Int.toNat_natCast, hb]
    omega
  · unfold setW at h1 h2
    rw [Int.toNat_natCast, el_word hz x (by omega)] at h1
    rw [Int.toNat_natCast, el_word hz y (by omega)] at h2
    replace h1 : bitB (nth l x) k = false := h1
    replace h2 : bitB (nth l y) k = true := h2
    rw [ltB_iff, keyK_succ, keyK_succ, Int.toNat_natCast, Int.toNat_natCast, h1, h2]
    have := keyK_lt l k x
    have := keyK_lt l k y
    simp
    omega
theorem paE_e {l lens : List Int} {bits : Int} (h : sgE l lens ≠ 0) : paE l lens bits = sgE l lens := by unfold paE; rw [if_neg h]
theorem paE_2 {l lens : List Int} {bits : Int} (h : sgE l lens = 0) (hb : ¬ (0 ≤ bits ∧ bits ≤ 32)) : paE l lens bits = 2 := by unfold paE; rw [if_pos h, if_neg hb]
theorem paE_0 {l lens : List Int} {bits : Int} (h : sgE l lens = 0) (hb : 0 ≤ bits ∧ bits ≤ 32) : paE l lens bits = 0 := by unfold paE; rw [if_pos h, if_pos hb]
set_option maxHeartbeats 4000000 in
theorem Passes_any (A A' : Option Addr) (c cl : Nat) (l lens : List Int) (bits : Int) (w : World) (h : Sl w A l) (hcl : l.length ≤ cl) (k : Ok l) (h' : Sl w A' lens) (hc' : lens.length ≤ c) (k' : Ok lens) :
    Calls Try.prog 23 #[.slice A l.length cl, .slice A' lens.length c, .int .i64 bits] w (RetL w (orL (paE l lens bits) (plcL (keyK l bits.toNat) lens lens.length)) (paE l lens bits)) := by
  by_cases he : sgE l lens = 0
  case neg =>
    have C1 := Lib.hid (rowOf_err A A' c cl l lens w h hcl k h' hc' k' he)
    have hd : (sgE l lens != 0) = true := by rw [bne_iff_ne]; exact he
    rw [paE_e he]
    have HE := Lib.hid he
    clear he
    go_enter Try.func23, Try.ntmps23
    go_wp2_with fail
    refine C1.out.mono ?_
    rintro e w1 ⟨rfl, hB⟩
    go_wp2
    go_ret2
    exact retL_none HE.out hB
  obtain ⟨h0, hz⟩ := sgE_ok he
  have C1 := Lib.hid (rowOf_ok A A' c cl l lens w h hcl k h' hc' k' h0 hz)
  by_cases hb : 0 ≤ bits ∧ bits ≤ 32
  case neg =>
    rw [paE_2 he hb]
    clear he h0
    have hd : decide (bits < 0) = true ∨ decide (bits < 0) = false ∧ decide (32 < bits) = true := by
      by_cases e : bits < 0
      · exact .inl (by simpa using e)
      · exact .inr ⟨by simpa using e, by simp; omega⟩
    rcases hd with hd | ⟨hd, hd2⟩
    · go_enter Try.func23, Try.ntmps23
      go_wp2_with fail
      refine C1.out.mono ?_
      rintro e w1 ⟨g, eV, sV, rfl, hg, b1, o1, o2, hB⟩
      go_wp2
      go_ret2
      exact retL_none (by decide) hB
    · go_enter Try.func23, Try.ntmps23
      go_wp2_with fail
      refine C1.out.mono ?_
      rintro e w1 ⟨g, eV, sV, rfl, hg, b1, o1, o2, hB⟩
      go_wp2
      go_ret2
      exact retL_none (by decide) hB
  obtain ⟨m, rfl⟩ : ∃ m : Nat, bits = (m : Int) := ⟨bits.toNat, by omega⟩
  have hm : m ≤ 32 := by omega
  rw [paE_0 he hb, orL_ok, Int.toNat_natCast]
  have hll := hz.short
  have hzu : Segs (upL l.length) lens := sg_of_len hz (up_length _)
  have HW := Lib.hid (sgE_words he)
  have HZ := Lib.hid hz
  have hd1 : decide ((m : Int) < 0) = false := by simp
  have hd2 : decide ((32 : Int) < (m : Int)) = false := by simp; omega
  have HS0 : Hid (SInv (keyK l 0) lens (upL l.length)) := Lib.hid (sinv_up0 hzu _ (fun a b => by rw [keyK_zero, keyK_zero]))
  have HLU : Hid (∀ k T, SInv (keyK l k) lens T → T.length = l.length) := Lib.hid (fun k T hT => by rw [← hT.segs.ofs_all, hz.ofs_all])
  have C2 := Lib.hid (fun (W : World) (g kb j : Nat) (T : List Int) (eV sV : Value) (hT : SInv (keyK l j) lens T) (hj : j < 32) (hR : RowAt W w.heap.size g eV sV (.slice A' lens.length c) (elL l lens) T) (hg : w.heap.size ≤ g) (hB : Below w.heap.size w W) (hk : Blk W kb 3 #[.int .i64 (j : Int)]) =>
    split_any 55 #[.pointer (some ⟨kb, 0, none⟩)] (fun n => bitB n j) A' c w.heap.size g eV sV (elL l lens) T lens W hR hg hB.size (h'.step hB) hT.segs (by rw [elL_len hz]; exact hll) (fun i hi => by
      obtain ⟨x, hx, hx2⟩ := hT.num i hi
      exact ⟨x, hx, by rw [elL_len hz, ← HLU.out j T hT]; exact hx2⟩) (fun W' hW' i hi => bit_any kb j _ W' hj (by rw [elL_len hz] at hi; rw [el_word hz i hi]; exact HW.out i hi) (hk.below hW' hk.lt)) (enters_of Try.func55 (by kernel_rfl) rfl))
  clear he h0 hb hz hzu
  go_enter Try.func23, Try.ntmps23
  go_wp2_with fail
  refine C1.out.mono ?_
  rintro e w1 ⟨g, eV, sV, rfl, hg, b1, o1, o2, hB⟩
  go_wp2
  go_loopw [30] (fun i wr => ∃ (j : Nat) (T : List Int) (v : Value), j ≤ m ∧ i = .int .i64 (j : Int) ∧ Hid (SInv (keyK l j) lens T) ∧ RowAt wr w.heap.size g eV v (.slice A' lens.length c) (elL l lens) T ∧ Below w.heap.size w wr) (fun i _ => m - (intOf i).toNat)
  case atStart => exact ⟨0, upL l.length, sV, Nat.zero_le _, rfl, HS0, ⟨b1, o1, o2⟩, hB⟩
  case round =>
    clear b1 o1 o2 C1 hB
    obtain ⟨j, T, v, hj, rfl, HT, hR, hBr⟩ := hrel
    by_cases hlt : j < m
    · have hbk := Blk.new wr 3 #[.int .i64 (j : Int)]
      have C3 := Lib.hid (C2.out _ g wr.heap.size j T eV v HT.out (by omega) (hR.alloc _) hg (hBr.alloc hBr.size _) hbk)
      have HN := Lib.hid (SInv.pass' HZ.out (HLU.out j T HT.out) HT.out)
      go_wp2_with (go_at_call 50; refine C3.out.mono ?_; rintro e w3 ⟨rfl, v3, hR3, hB3⟩)
      go_roundw
      case rel => exact ⟨j + 1, _, v3, by omega, by go_num, HN, hR3, (hBr.alloc hBr.size _).trans hB3⟩
      case measure => simp [intOf]; omega
    · obtain rfl : j = m := by omega
      have C3 := Lib.hid (places_any w.heap.size g eV v _ _ T wr hR (by rw [HLU.out j T HT.out]; exact hll) (sinv_range HT.out))
      rw [SInv.back HT.out] at C3
      go_wp2_with fail
      refine C3.out.mono ?_
      rintro e w3 ⟨A3, c3, rfl, hc3, hs3, hB3⟩
      go_wp2
      go_ret2
      exact ⟨A3, c3, rfl, hc3, hs3, hBr.trans (hB3.mono hBr.size)⟩
end Go.Proofs.Ytgicfgpemcagcaa
