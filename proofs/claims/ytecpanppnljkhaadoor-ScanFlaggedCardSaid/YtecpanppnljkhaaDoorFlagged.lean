/- ScanFlagged: the theorem of the flags, for any number that chooses an operation, any two slices of ints that can be read, and any three flagged words: the law's call returns true, and they read as they did. No condition but the row's own (the listed table holds what the text says). -/
import Derived.Test.YtecpanppnljkhaaDoorKa6
import Derived.Test.YtecpanppnljkhaaDoorTie
import Derived.Test.YtecpanppnljkhaaDoorCards
import Derived.ChangeMaps5
namespace Go.Proofs.YtecpanppnljkhaaDoor.scanFlagged
open Go.ChangeShapes Go.WideShapes Go.ChangeAt Go.RowKit Go.ChangeMaps
set_option linter.unusedVariables false
def bxs (P : List (Bool × Int)) (i : Nat) (b : Bool) : Array Value := if b then #[.bool (fth P i).1, .int .i64 (fth P i).2] else #[.bool false, .int .i64 0]
def upd (P : List (Bool × Int)) (Y : List Int) (i : Nat) (b : Bool) : Array Value := #[.bool (fth P i).1, .int .i64 (if b then nth Y i else (fth P i).2)]
def nn (l : List Nat) (i : Nat) : Nat := l.getD i 0
theorem no_guard {l : List Oper} (h : (l.all fun o => o.guard.isNone) = true) {R : Nat → Value → World → Prop} : ∀ (k : Nat) (o : Oper) (j : Nat) (b : Bool), l[k]? = some o → o.guard = some (j, b) → ∀ v W, R j v W → v = .bool b := fun k o j b ho hg => by
  have := List.all_eq_true.1 h o (List.mem_of_getElem? ho)
  rw [hg] at this; cases this
theorem apart_rows {w : World} {base base' : Nat} {u v : Value} {F : List (Bool × Int)} {Z : List Int} (h : OwnF w base v F) (h' : OwnI w base' u Z) : u.ownBlock = none ∨ u.ownBlock ≠ v.ownBlock := by
  rcases h.2 with ⟨rfl, _⟩ | ⟨g, cap, cur, rfl, hb, hh, hnc, _⟩
  · rcases h'.2 with ⟨rfl, _⟩ | ⟨g', cap', cur', rfl, hb', hh', hnc', _⟩
    · exact .inl rfl
    · exact .inr (by simp [Value.ownBlock])
  · rcases h'.2 with ⟨rfl, _⟩ | ⟨g', cap', cur', rfl, hb', hh', hnc', _⟩
    · exact .inl rfl
    · refine .inr fun e => ?_
      simp [Value.ownBlock] at e
      subst e
      rw [hh] at hh'
      simp at hh'
theorem apart_rows' {w : World} {base base' : Nat} {u v : Value} {F : List (Bool × Int)} {Z : List Int} (h : OwnF w base v F) (h' : OwnI w base' u Z) : v.ownBlock = none ∨ v.ownBlock ≠ u.ownBlock := by
  rcases apart_rows h h' with e | e
  · rcases h.2 with ⟨rfl, _⟩ | ⟨g, cap, cur, rfl, hb, hh, hnc, _⟩
    · exact .inl rfl
    · exact .inr (by rw [e]; simp [Value.ownBlock])
  · exact .inr (Ne.symm e)
theorem join_ok {op : Int} (h : aB op = true) {p q : Bool} {m n : Int} (hm : isW m) (hn : isW n) {r : Bool} {k : Int} (hr : joF (doN op) (p, m) (q, n) = (r, k)) (W : World) (hI : Inv W) :
    Calls Tryd.prog 28 #[.int .i64 op, .agg #[.bool p, .int .i64 m], .agg #[.bool q, .int .i64 n]] W (fun e w' => e = .returned (.tuple #[.agg #[.bool r, .int .i64 k], .int .i64 0]) ∧ Below W.heap.size W w') := by
  have := joinF_any op p q m n W hI
  rw [jV_ok (a := (p, m)) (b := (q, n)) h hm hn, jE_ok h hm hn, hr] at this
  exact this
theorem cell_two_new (w : World) (x y : Value) (t : TypeId) : ∀ j u, [x, y][j]? = some u → (w.alloc (.cells #[x, y] t)).cell? ((⟨w.heap.size, 0, none⟩ : Addr).add j) = some u := by
  intro j u h
  have hb : Blk (w.alloc (.cells #[x, y] t)) w.heap.size t #[x, y] := Blk.new w t _
  have := hb.cell j
  have e : ((⟨w.heap.size, 0, none⟩ : Addr).add j) = ⟨w.heap.size, j, none⟩ := by
    unfold Addr.add
    split
    · rename_i hj; subst hj; rfl
    · simp
  rw [e, this]
  simpa using h
theorem below_appendF {w wr w1 : World} {base : Nat} {v : Value} {ps : List (Bool × Int)} {o : Obj} (hB : Below base w wr) (hb : base ≤ wr.heap.size) (h : OwnF wr base v ps) (hg : (wr.alloc o).grownBy w1 v.ownBlock) : Below base w w1 :=
  (hB.alloc hb o).grown hg (by simp; omega) (fun k e => by
    have := (h.lt k e).1
    omega)
theorem ownF_empty' (w : World) (base n : Nat) (hn : n = w.heap.size) (hb : base ≤ w.heap.size) : OwnF (w.alloc (.cells #[] 49)) base (.slice (some ⟨n, 0, none⟩) 0 0) [] := by subst hn; exact OwnF.empty w base hb
theorem ownI_empty' (w : World) (base n : Nat) (hn : n = w.heap.size) (hb : base ≤ w.heap.size) : OwnI (w.alloc (.cells #[] 3)) base (.slice (some ⟨n, 0, none⟩) 0 0) [] := by subst hn; exact OwnI.empty w base hb
theorem flagged_ok {op : Int} (hB : aB op = true) {a Z : List Int} {F : List (Bool × Int)} (hw : Wds a) (hz : Segs a Z) (h : FLags a Z F 0) (N : Nat) (hN : F.length = N) (A : Option Addr) (c : Nat) (W : World) (hI : Inv W) (hs : SlF W A F) (hc : N ≤ c) :
    Calls Tryd.prog 29 #[.int .i64 op, .slice A N c] W (RetFE W (flL op F) 0) := by
  subst hN
  have hl := hz.ofs_all
  have hsh := hz.short
  have hF := h.len
  have := flagged_any op A c F W hI hs hc (by omega)
  rw [flE_ok hB hw hz h] at this
  rw [show flO op F = flL op F from by unfold flO; rw [if_pos (flE_ok hB hw hz h)]] at this
  exact this
set_option maxRecDepth 100000 in
set_option maxHeartbeats 40000000 in
theorem walk (o : Int) (A1 : Option Addr) (c1 : Nat) (z1 : List Int) (A2 : Option Addr) (c2 : Nat) (z2 : List Int) (p0 p1 p2 : Bool) (x0 x1 x2 : Int) (w : World) (hI : Inv w) (h1 : Sl w A1 z1) (hc1 : z1.length ≤ c1) (k1 : Ok z1) (h2 : Sl w A2 z2) (hc2 : z2.length ≤ c2) (k2 : Ok z2) :
    Calls Tryd.prog 7 #[.int .i64 o, .slice A1 z1.length c1, .slice A2 z2.length c2, .agg #[.bool p0, .int .i64 x0, .bool p1, .int .i64 x1, .bool p2, .int .i64 x2]] w (Ret (.bool true) w) := by
  obtain ⟨i0, hi, hzz0, hzz1, hzz2⟩ := info_parts int_info
  obtain ⟨i1, hi1, hyy0, hyy1, hyy2⟩ := info_parts2 flag_info
  have haB := opN_aB o
  have M := mon_op haB
  have COp := fun W => opOf_any o W
  have CW1 := Lib.hid (fun W hW => wraps_any A1 c1 z1 60 W hW (by unfold Ok at k1; omega) (by omega))
  have hal := wl_len z1 60
  have haw := wl_word z1 60
  obtain ⟨a, ha⟩ : ∃ a, wlL z1 60 = a := ⟨_, rfl⟩
  obtain ⟨op, hop⟩ : ∃ op, opN o = op := ⟨_, rfl⟩
  rw [ha] at CW1 hal haw
  simp only [hop] at COp
  rw [hop] at haB M
  have ha60 : a.length ≤ 60 := by omega
  have HaB := Lib.hid haB; have HM := Lib.hid M; have Haw := Lib.hid haw; have COp := Lib.hid COp
  have hz2 : z2.length ≤ 9223372036854775807 := by unfold Ok at k2; omega
  have CWd0 := fun W => bword_any x0 W
  have hy0 : isW (wrap32 x0) := wrap32_word x0
  obtain ⟨y0, e0⟩ : ∃ y, wrap32 x0 = y := ⟨_, rfl⟩
  rw [e0] at hy0
  simp only [e0] at CWd0
  have CWd0 := Lib.hid CWd0
  clear e0
  have CWd1 := fun W => bword_any x1 W
  have hy1 : isW (wrap32 x1) := wrap32_word x1
  obtain ⟨y1, e1⟩ : ∃ y, wrap32 x1 = y := ⟨_, rfl⟩
  rw [e1] at hy1
  simp only [e1] at CWd1
  have CWd1 := Lib.hid CWd1
  clear e1
  have CWd2 := fun W => bword_any x2 W
  have hy2 : isW (wrap32 x2) := wrap32_word x2
  obtain ⟨y2, e2⟩ : ∃ y, wrap32 x2 = y := ⟨_, rfl⟩
  rw [e2] at hy2
  simp only [e2] at CWd2
  have CWd2 := Lib.hid CWd2
  clear e2
  have w1' := jo_word M (a := (p0, y0)) (b := (p1, y1)) hy0 hy1
  have w3' := jo_word M (a := (p1, y1)) (b := (p2, y2)) hy1 hy2
  have hassoc := M.joF_assoc (p0, y0) (p1, y1) (p2, y2) hy0 hy1 hy2
  obtain ⟨b1, hb1⟩ : ∃ b, joF (doN op) (p0, y0) (p1, y1) = b := ⟨_, rfl⟩
  obtain ⟨b3, hb3⟩ : ∃ b, joF (doN op) (p1, y1) (p2, y2) = b := ⟨_, rfl⟩
  rw [hb1] at w1' hassoc
  rw [hb3] at w3' hassoc
  obtain ⟨q1, m1⟩ := b1
  obtain ⟨q3, m3⟩ := b3
  obtain ⟨b2, hb2⟩ : ∃ b, joF (doN op) (q1, m1) (p2, y2) = b := ⟨_, rfl⟩
  rw [hb2] at hassoc
  obtain ⟨q2, m2⟩ := b2
  have J1 := Lib.hid (join_ok haB hy0 hy1 hb1)
  have J2 := Lib.hid (join_ok haB w1' hy2 hb2)
  have J3 := Lib.hid (join_ok haB hy1 hy2 hb3)
  have J4 := Lib.hid (join_ok haB hy0 w3' hassoc.symm)
  clear w1' w3' hassoc hb1 hb2 hb3 hy0 hy1 hy2 hal ha hop haB M haw
  have hB : Below w.heap.size w (w.alloc (.cells #[.bool p0, .int .i64 x0, .bool p1, .int .i64 x1, .bool p2, .int .i64 x2] 50)) := (Below.refl _ _).alloc (Nat.le_refl _) _
  have bG : Blk (w.alloc (.cells #[.bool p0, .int .i64 x0, .bool p1, .int .i64 x1, .bool p2, .int .i64 x2] 50)) w.heap.size 50 #[.bool p0, .int .i64 x0, .bool p1, .int .i64 x1, .bool p2, .int .i64 x2] := Blk.new w 50 _
  go_enter Tryd.func7, Tryd.ntmps7
  go_wp2_with fail
  refine (COp.out _).mono ?_
  rintro e w1 ⟨rfl, hBx⟩
  replace bG := bG.below hBx bG.lt
  replace hB := hB.trans (hBx.mono hB.size)
  clear hBx
  go_wp2_with fail
  refine (CW1.out _ (h1.step hB)).mono ?_
  rintro e w2 ⟨A4, c4, rfl, hc4, hs4, hBx⟩
  replace bG := bG.below hBx bG.lt
  replace hB := hB.trans (hBx.mono hB.size)
  clear hBx COp CW1
  have hw2 : w.heap.size ≤ w2.heap.size := hB.size
  obtain ⟨N, hN⟩ : ∃ N, a.length = N := ⟨_, rfl⟩
  have HN := Lib.hid hN
  rw [hN] at hc4 ha60 ⊢
  clear hN
  go_wp2_with fail
  refine wp_region_sw w2.heap.size (fun k v W => (k < 6 → v = ([.pointer (some ⟨w.heap.size, 0, none⟩), .agg #[.bool p0, .int .i64 x0], .pointer (some ⟨w.heap.size, 2, none⟩), .agg #[.bool p1, .int .i64 x1], .pointer (some ⟨w.heap.size, 4, none⟩), .agg #[.bool p2, .int .i64 x2]] : List Value).getD k undef) ∧ (6 ≤ k → k < 9 → w2.heap.size ≤ gOf v)) (fun listed a W => Boxes 49 (bxs [(p0, x0), (p1, x1), (p2, x2)]) 6 9 11 3 listed a W) (by kernel_rfl) (by kernel_rfl) (fun _ _ _ _ h _ => h) (no_guard (by kernel_rfl)) (fun n => Boxes.none n) ?_ ?_
  · intro iK oK ho listed a W hls hun hwait htsz hBw hdf hnear hfar hS0
    have hS : Boxes 49 (bxs [(p0, x0), (p1, x1), (p2, x2)]) 6 9 11 3 listed a W := hS0
    clear hS0
    match iK, ho with
    | 0, ho =>
      obtain rfl := Option.some.inj ho
      have s7 : a.tmps.getD 7 undef = .pointer (some ⟨w.heap.size, 0, none⟩) := hfar 7 (noDst_spec (by kernel_rfl))
      refine .inr (.inl ⟨.pointer (some ⟨w.heap.size, 0, none⟩), W, ?_, Below.refl _ _, ⟨fun _ => rfl, fun h => absurd h (by decide)⟩, (Boxes.same hS (fun i hi h => by omega) (fun i hi h => by omega) (fun i hi h => by injection h with h; omega))⟩)
      go_simp
    | 1, ho =>
      obtain rfl := Option.some.inj ho
      have e0 : a.tmps.getD 35 undef = .pointer (some ⟨w.heap.size, 0, none⟩) := (hnear 0 35 rfl (hwait 0 (by kernel_rfl))).1 (by decide)
      have q0 : W.cell? ⟨w.heap.size, 0, none⟩ = some (.bool p0) := (hBw.cell (p := ⟨w.heap.size, 0, none⟩) bG.lt).trans (bG.cell 0)
      have q1 : W.cell? ⟨w.heap.size, 1, none⟩ = some (.int .i64 x0) := (hBw.cell (p := ⟨w.heap.size, 1, none⟩) bG.lt).trans (bG.cell 1)
      refine .inr (.inl ⟨.agg #[.bool p0, .int .i64 x0], W, ?_, Below.refl _ _, ⟨fun _ => rfl, fun h => absurd h (by decide)⟩, (Boxes.same hS (fun i hi h => by omega) (fun i hi h => by omega) (fun i hi h => by injection h with h; omega))⟩)
      go_simp
    | 2, ho =>
      obtain rfl := Option.some.inj ho
      have s7 : a.tmps.getD 7 undef = .pointer (some ⟨w.heap.size, 0, none⟩) := hfar 7 (noDst_spec (by kernel_rfl))
      refine .inr (.inl ⟨.pointer (some ⟨w.heap.size, 2, none⟩), W, ?_, Below.refl _ _, ⟨fun _ => rfl, fun h => absurd h (by decide)⟩, (Boxes.same hS (fun i hi h => by omega) (fun i hi h => by omega) (fun i hi h => by injection h with h; omega))⟩)
      go_simp
    | 3, ho =>
      obtain rfl := Option.some.inj ho
      have e0 : a.tmps.getD 37 undef = .pointer (some ⟨w.heap.size, 2, none⟩) := (hnear 2 37 rfl (hwait 2 (by kernel_rfl))).1 (by decide)
      have q0 : W.cell? ⟨w.heap.size, 2, none⟩ = some (.bool p1) := (hBw.cell (p := ⟨w.heap.size, 2, none⟩) bG.lt).trans (bG.cell 2)
      have q1 : W.cell? ⟨w.heap.size, 3, none⟩ = some (.int .i64 x1) := (hBw.cell (p := ⟨w.heap.size, 3, none⟩) bG.lt).trans (bG.cell 3)
      refine .inr (.inl ⟨.agg #[.bool p1, .int .i64 x1], W, ?_, Below.refl _ _, ⟨fun _ => rfl, fun h => absurd h (by decide)⟩, (Boxes.same hS (fun i hi h => by omega) (fun i hi h => by omega) (fun i hi h => by injection h with h; omega))⟩)
      go_simp
    | 4, ho =>
      obtain rfl := Option.some.inj ho
      have s7 : a.tmps.getD 7 undef = .pointer (some ⟨w.heap.size, 0, none⟩) := hfar 7 (noDst_spec (by kernel_rfl))
      refine .inr (.inl ⟨.pointer (some ⟨w.heap.size, 4, none⟩), W, ?_, Below.refl _ _, ⟨fun _ => rfl, fun h => absurd h (by decide)⟩, (Boxes.same hS (fun i hi h => by omega) (fun i hi h => by omega) (fun i hi h => by injection h with h; omega))⟩)
      go_simp
    | 5, ho =>
      obtain rfl := Option.some.inj ho
      have e0 : a.tmps.getD 39 undef = .pointer (some ⟨w.heap.size, 4, none⟩) := (hnear 4 39 rfl (hwait 4 (by kernel_rfl))).1 (by decide)
      have q0 : W.cell? ⟨w.heap.size, 4, none⟩ = some (.bool p2) := (hBw.cell (p := ⟨w.heap.size, 4, none⟩) bG.lt).trans (bG.cell 4)
      have q1 : W.cell? ⟨w.heap.size, 5, none⟩ = some (.int .i64 x2) := (hBw.cell (p := ⟨w.heap.size, 5, none⟩) bG.lt).trans (bG.cell 5)
      refine .inr (.inl ⟨.agg #[.bool p2, .int .i64 x2], W, ?_, Below.refl _ _, ⟨fun _ => rfl, fun h => absurd h (by decide)⟩, (Boxes.same hS (fun i hi h => by omega) (fun i hi h => by omega) (fun i hi h => by injection h with h; omega))⟩)
      go_simp
    | 6, ho =>
      obtain rfl := Option.some.inj ho
      refine .inr (.inl ⟨.pointer (some ⟨W.heap.size, 0, none⟩), W.alloc (.cells (bxs [(p0, x0), (p1, x1), (p2, x2)] 0 false) 49), ?_, (Below.refl _ _).alloc hBw.size _, ⟨fun h => absurd h (by decide), fun _ _ => hBw.size⟩, Boxes.alloc hS (i0 := 0) (by decide) (fun i hi => by omega) hun (by rw [htsz]; exact of_decide_eq_true rfl)⟩)
      go_simp
      try rfl
    | 7, ho =>
      obtain rfl := Option.some.inj ho
      refine .inr (.inl ⟨.pointer (some ⟨W.heap.size, 0, none⟩), W.alloc (.cells (bxs [(p0, x0), (p1, x1), (p2, x2)] 1 false) 49), ?_, (Below.refl _ _).alloc hBw.size _, ⟨fun h => absurd h (by decide), fun _ _ => hBw.size⟩, Boxes.alloc hS (i0 := 1) (by decide) (fun i hi => by omega) hun (by rw [htsz]; exact of_decide_eq_true rfl)⟩)
      go_simp
      try rfl
    | 8, ho =>
      obtain rfl := Option.some.inj ho
      refine .inr (.inl ⟨.pointer (some ⟨W.heap.size, 0, none⟩), W.alloc (.cells (bxs [(p0, x0), (p1, x1), (p2, x2)] 2 false) 49), ?_, (Below.refl _ _).alloc hBw.size _, ⟨fun h => absurd h (by decide), fun _ _ => hBw.size⟩, Boxes.alloc hS (i0 := 2) (by decide) (fun i hi => by omega) hun (by rw [htsz]; exact of_decide_eq_true rfl)⟩)
      go_simp
      try rfl
    | 9, ho =>
      obtain rfl := Option.some.inj ho
      have hl : listed.getD 6 false = true := hwait 6 (by kernel_rfl)
      have hp : a.tmps.getD 11 undef = .pointer (some ⟨gOf (a.tmps.getD 11 undef), 0, none⟩) := hS.ptr 0 (by decide) hl
      have hge : w2.heap.size ≤ gOf (a.tmps.getD 11 undef) := (hnear 6 11 rfl hl).2 (by decide) (by decide)
      have hb : Blk W (gOf (a.tmps.getD 11 undef)) 49 (bxs [(p0, x0), (p1, x1), (p2, x2)] 0 (listed.getD 9 false)) := hS.blk 0 (by decide) hl
      rw [hun] at hb
      have e0 : a.tmps.getD 36 undef = .agg #[.bool p0, .int .i64 x0] := (hnear 1 36 rfl (hwait 1 (by kernel_rfl))).1 (by decide)
      have hSt : ∀ W', Blk W' (gOf (a.tmps.getD 11 undef)) 49 (bxs [(p0, x0), (p1, x1), (p2, x2)] 0 true) → (∀ b t cs, b ≠ gOf (a.tmps.getD 11 undef) → Blk W b t cs → Blk W' b t cs) → Boxes 49 (bxs [(p0, x0), (p1, x1), (p2, x2)]) 6 9 11 3 (listed.setIfInBounds 9 true) (a.put none undef) W' := fun W' hb' ho' => Boxes.store hS (i0 := 0) (by decide) (fun i hi => by omega) hl (by rw [hls]; exact of_decide_eq_true rfl) hb' ho'
      obtain ⟨g, hg⟩ : ∃ g, gOf (a.tmps.getD 11 undef) = g := ⟨_, rfl⟩
      rw [hg] at hp hge hb
      simp only [hg] at hSt
      have q0 : W.cell? ⟨g, 0, none⟩ = some (.bool false) := hb.cell 0
      have q1 : W.cell? ⟨g, 1, none⟩ = some (.int .i64 0) := hb.cell 1
      have f0 := hb.frozen 0
      have f1 := hb.frozen 1
      refine .inl ⟨(W.setCell ⟨g, 0, none⟩ (.bool p0)).setCell ⟨g, 1, none⟩ (.int .i64 x0), ?_, ((Below.refl _ _).setCell (p := ⟨g, 0, none⟩) hge _).setCell (p := ⟨g, 1, none⟩) hge _, ⟨fun h => absurd h (by decide), fun _ h => absurd h (by decide)⟩, hSt _ ((hb.set_ 0 _).set_ 1 _) (fun b t cs hne h => (h.far (p := ⟨g, 0, none⟩) hne _).far (p := ⟨g, 1, none⟩) hne _)⟩
      go_simp
      try rfl
    | 10, ho =>
      obtain rfl := Option.some.inj ho
      have hl : listed.getD 7 false = true := hwait 7 (by kernel_rfl)
      have hp : a.tmps.getD 12 undef = .pointer (some ⟨gOf (a.tmps.getD 12 undef), 0, none⟩) := hS.ptr 1 (by decide) hl
      have hge : w2.heap.size ≤ gOf (a.tmps.getD 12 undef) := (hnear 7 12 rfl hl).2 (by decide) (by decide)
      have hb : Blk W (gOf (a.tmps.getD 12 undef)) 49 (bxs [(p0, x0), (p1, x1), (p2, x2)] 1 (listed.getD 10 false)) := hS.blk 1 (by decide) hl
      rw [hun] at hb
      have e0 : a.tmps.getD 38 undef = .agg #[.bool p1, .int .i64 x1] := (hnear 3 38 rfl (hwait 3 (by kernel_rfl))).1 (by decide)
      have hSt : ∀ W', Blk W' (gOf (a.tmps.getD 12 undef)) 49 (bxs [(p0, x0), (p1, x1), (p2, x2)] 1 true) → (∀ b t cs, b ≠ gOf (a.tmps.getD 12 undef) → Blk W b t cs → Blk W' b t cs) → Boxes 49 (bxs [(p0, x0), (p1, x1), (p2, x2)]) 6 9 11 3 (listed.setIfInBounds 10 true) (a.put none undef) W' := fun W' hb' ho' => Boxes.store hS (i0 := 1) (by decide) (fun i hi => by omega) hl (by rw [hls]; exact of_decide_eq_true rfl) hb' ho'
      obtain ⟨g, hg⟩ : ∃ g, gOf (a.tmps.getD 12 undef) = g := ⟨_, rfl⟩
      rw [hg] at hp hge hb
      simp only [hg] at hSt
      have q0 : W.cell? ⟨g, 0, none⟩ = some (.bool false) := hb.cell 0
      have q1 : W.cell? ⟨g, 1, none⟩ = some (.int .i64 0) := hb.cell 1
      have f0 := hb.frozen 0
      have f1 := hb.frozen 1
      refine .inl ⟨(W.setCell ⟨g, 0, none⟩ (.bool p1)).setCell ⟨g, 1, none⟩ (.int .i64 x1), ?_, ((Below.refl _ _).setCell (p := ⟨g, 0, none⟩) hge _).setCell (p := ⟨g, 1, none⟩) hge _, ⟨fun h => absurd h (by decide), fun _ h => absurd h (by decide)⟩, hSt _ ((hb.set_ 0 _).set_ 1 _) (fun b t cs hne h => (h.far (p := ⟨g, 0, none⟩) hne _).far (p := ⟨g, 1, none⟩) hne _)⟩
      go_simp
      try rfl
    | 11, ho =>
      obtain rfl := Option.some.inj ho
      have hl : listed.getD 8 false = true := hwait 8 (by kernel_rfl)
      have hp : a.tmps.getD 13 undef = .pointer (some ⟨gOf (a.tmps.getD 13 undef), 0, none⟩) := hS.ptr 2 (by decide) hl
      have hge : w2.heap.size ≤ gOf (a.tmps.getD 13 undef) := (hnear 8 13 rfl hl).2 (by decide) (by decide)
      have hb : Blk W (gOf (a.tmps.getD 13 undef)) 49 (bxs [(p0, x0), (p1, x1), (p2, x2)] 2 (listed.getD 11 false)) := hS.blk 2 (by decide) hl
      rw [hun] at hb
      have e0 : a.tmps.getD 40 undef = .agg #[.bool p2, .int .i64 x2] := (hnear 5 40 rfl (hwait 5 (by kernel_rfl))).1 (by decide)
      have hSt : ∀ W', Blk W' (gOf (a.tmps.getD 13 undef)) 49 (bxs [(p0, x0), (p1, x1), (p2, x2)] 2 true) → (∀ b t cs, b ≠ gOf (a.tmps.getD 13 undef) → Blk W b t cs → Blk W' b t cs) → Boxes 49 (bxs [(p0, x0), (p1, x1), (p2, x2)]) 6 9 11 3 (listed.setIfInBounds 11 true) (a.put none undef) W' := fun W' hb' ho' => Boxes.store hS (i0 := 2) (by decide) (fun i hi => by omega) hl (by rw [hls]; exact of_decide_eq_true rfl) hb' ho'
      obtain ⟨g, hg⟩ : ∃ g, gOf (a.tmps.getD 13 undef) = g := ⟨_, rfl⟩
      rw [hg] at hp hge hb
      simp only [hg] at hSt
      have q0 : W.cell? ⟨g, 0, none⟩ = some (.bool false) := hb.cell 0
      have q1 : W.cell? ⟨g, 1, none⟩ = some (.int .i64 0) := hb.cell 1
      have f0 := hb.frozen 0
      have f1 := hb.frozen 1
      refine .inl ⟨(W.setCell ⟨g, 0, none⟩ (.bool p2)).setCell ⟨g, 1, none⟩ (.int .i64 x2), ?_, ((Below.refl _ _).setCell (p := ⟨g, 0, none⟩) hge _).setCell (p := ⟨g, 1, none⟩) hge _, ⟨fun h => absurd h (by decide), fun _ h => absurd h (by decide)⟩, hSt _ ((hb.set_ 0 _).set_ 1 _) (fun b t cs hne h => (h.far (p := ⟨g, 0, none⟩) hne _).far (p := ⟨g, 1, none⟩) hne _)⟩
      go_simp
      try rfl
    | iK + 12, ho => cases ho
  · intro listed a' w3 hall hBw hnear hfar htsz hdf hS0
    have hS : Boxes 49 (bxs [(p0, x0), (p1, x1), (p2, x2)]) 6 9 11 3 listed a' w3 := hS0
    clear hS0
    have p0' : a'.tmps.getD 11 undef = .pointer (some ⟨gOf (a'.tmps.getD 11 undef), 0, none⟩) := hS.ptr 0 (by decide) (hall 6 (by decide))
    have bx0 : Blk w3 (gOf (a'.tmps.getD 11 undef)) 49 (bxs [(p0, x0), (p1, x1), (p2, x2)] 0 (listed.getD 9 false)) := hS.blk 0 (by decide) (hall 6 (by decide))
    rw [hall 9 (by decide)] at bx0
    have ge0 : w2.heap.size ≤ gOf (a'.tmps.getD 11 undef) := (hnear 6 11 rfl).2 (by decide) (by decide)
    have p1' : a'.tmps.getD 12 undef = .pointer (some ⟨gOf (a'.tmps.getD 12 undef), 0, none⟩) := hS.ptr 1 (by decide) (hall 7 (by decide))
    have bx1 : Blk w3 (gOf (a'.tmps.getD 12 undef)) 49 (bxs [(p0, x0), (p1, x1), (p2, x2)] 1 (listed.getD 10 false)) := hS.blk 1 (by decide) (hall 7 (by decide))
    rw [hall 10 (by decide)] at bx1
    have ge1 : w2.heap.size ≤ gOf (a'.tmps.getD 12 undef) := (hnear 7 12 rfl).2 (by decide) (by decide)
    have p2' : a'.tmps.getD 13 undef = .pointer (some ⟨gOf (a'.tmps.getD 13 undef), 0, none⟩) := hS.ptr 2 (by decide) (hall 8 (by decide))
    have bx2 : Blk w3 (gOf (a'.tmps.getD 13 undef)) 49 (bxs [(p0, x0), (p1, x1), (p2, x2)] 2 (listed.getD 11 false)) := hS.blk 2 (by decide) (hall 8 (by decide))
    rw [hall 11 (by decide)] at bx2
    have ge2 : w2.heap.size ≤ gOf (a'.tmps.getD 13 undef) := (hnear 8 13 rfl).2 (by decide) (by decide)
    have d01 : gOf (a'.tmps.getD 11 undef) ≠ gOf (a'.tmps.getD 12 undef) := hS.apart 0 1 (by decide) (by decide) (by decide) (hall 6 (by decide)) (hall 7 (by decide))
    have d02 : gOf (a'.tmps.getD 11 undef) ≠ gOf (a'.tmps.getD 13 undef) := hS.apart 0 2 (by decide) (by decide) (by decide) (hall 6 (by decide)) (hall 8 (by decide))
    have d12 : gOf (a'.tmps.getD 12 undef) ≠ gOf (a'.tmps.getD 13 undef) := hS.apart 1 2 (by decide) (by decide) (by decide) (hall 7 (by decide)) (hall 8 (by decide))
    obtain ⟨g0, hg0⟩ : ∃ g, gOf (a'.tmps.getD 11 undef) = g := ⟨_, rfl⟩
    obtain ⟨g1, hg1⟩ : ∃ g, gOf (a'.tmps.getD 12 undef) = g := ⟨_, rfl⟩
    obtain ⟨g2, hg2⟩ : ∃ g, gOf (a'.tmps.getD 13 undef) = g := ⟨_, rfl⟩
    rw [hg0] at p0' bx0 ge0 d01 d02
    rw [hg1] at p1' bx1 ge1 d01 d12
    rw [hg2] at p2' bx2 ge2 d02 d12
    have ea := frame_eq [.pointer (some ⟨w.heap.size, 0, none⟩), .agg #[.bool p0, .int .i64 x0], .pointer (some ⟨w.heap.size, 2, none⟩), .agg #[.bool p1, .int .i64 x1], .pointer (some ⟨w.heap.size, 4, none⟩), .agg #[.bool p2, .int .i64 x2], .pointer (some ⟨g0, 0, none⟩), .pointer (some ⟨g1, 0, none⟩), .pointer (some ⟨g2, 0, none⟩), undef, undef, undef] (by kernel_rfl) rfl (fun j t hj => by
      match j, hj with
      | 0, hj => obtain rfl := Option.some.inj hj; exact (hnear 0 _ rfl).1 (by decide)
      | 1, hj => obtain rfl := Option.some.inj hj; exact (hnear 1 _ rfl).1 (by decide)
      | 2, hj => obtain rfl := Option.some.inj hj; exact (hnear 2 _ rfl).1 (by decide)
      | 3, hj => obtain rfl := Option.some.inj hj; exact (hnear 3 _ rfl).1 (by decide)
      | 4, hj => obtain rfl := Option.some.inj hj; exact (hnear 4 _ rfl).1 (by decide)
      | 5, hj => obtain rfl := Option.some.inj hj; exact (hnear 5 _ rfl).1 (by decide)
      | 6, hj => obtain rfl := Option.some.inj hj; exact p0'
      | 7, hj => obtain rfl := Option.some.inj hj; exact p1'
      | 8, hj => obtain rfl := Option.some.inj hj; exact p2'
      | 9, hj => cases hj
      | 10, hj => cases hj
      | 11, hj => cases hj
      | j + 12, hj => cases hj) hfar htsz hdf
    clear hS hnear hfar htsz hdf p0' p1' p2' hg0 hg1 hg2 hall
    subst ea
    simp only [putAll, Act.put, List.setIfInBounds_toArray, List.set_cons_zero, List.set_cons_succ]
    replace hB := hB.trans (hBw.mono hw2)
    replace bx0 : Blk w3 g0 49 #[.bool p0, .int .i64 x0] := bx0
    replace bx1 : Blk w3 g1 49 #[.bool p1, .int .i64 x1] := bx1
    replace bx2 : Blk w3 g2 49 #[.bool p2, .int .i64 x2] := bx2
    clear bG
    have hB23 := hBw
    clear hBw
    go_wp2_with fail
    refine wp_region_sw w2.heap.size (fun k v W => v = ([.pointer (some ⟨g0, 1, none⟩), .int .i64 x0, .int .i64 y0, .pointer (some ⟨g1, 1, none⟩), .int .i64 x1, .int .i64 y1, .pointer (some ⟨g2, 1, none⟩), .int .i64 x2, .int .i64 y2, .pointer (some ⟨g0, 1, none⟩), undef, .pointer (some ⟨g1, 1, none⟩), undef, .pointer (some ⟨g2, 1, none⟩), undef] : List Value).getD k undef) (fun listed a W => Upd 49 (nn [g0, g1, g2]) (upd [(p0, x0), (p1, x1), (p2, x2)] [y0, y1, y2]) (nn [1, 4, 7]) (nn [10, 12, 14]) 3 listed W) (by kernel_rfl) (by kernel_rfl) (fun _ _ _ _ h _ => h) (no_guard (by kernel_rfl)) (fun n => Upd.first n (fun i hi => by
      match i, hi with
      | 0, _ => exact bx0
      | 1, _ => exact bx1
      | 2, _ => exact bx2
      | i + 3, h => exact absurd h (by omega))) ?_ ?_
    · intro iK oK ho listed a W hls hun hwait htsz hBw hdf hnear hfar hS0
      have hS : Upd 49 (nn [g0, g1, g2]) (upd [(p0, x0), (p1, x1), (p2, x2)] [y0, y1, y2]) (nn [1, 4, 7]) (nn [10, 12, 14]) 3 listed W := hS0
      clear hS0
      match iK, ho with
      | 0, ho =>
        obtain rfl := Option.some.inj ho
        have s0 : a.tmps.getD 11 undef = .pointer (some ⟨g0, 0, none⟩) := hfar 11 (noDst_spec (by kernel_rfl))
        refine .inr (.inl ⟨.pointer (some ⟨g0, 1, none⟩), W, ?_, Below.refl _ _, rfl, (Upd.same hS (fun i hi => by match i, hi with | 0, _ => exact of_decide_eq_true rfl | 1, _ => exact of_decide_eq_true rfl | 2, _ => exact of_decide_eq_true rfl) (by rw [hls]; exact of_decide_eq_true rfl))⟩)
        go_simp
      | 1, ho =>
        obtain rfl := Option.some.inj ho
        have e0 : a.tmps.getD 41 undef = .pointer (some ⟨g0, 1, none⟩) := hnear 0 41 rfl (hwait 0 (by kernel_rfl))
        have hns : listed.getD 10 false = false := by
          cases hx : listed.getD 10 false with
          | false => rfl
          | true => have hz : listed.getD 1 false = true := hS.ord 0 (by decide) hx; rw [hun] at hz; cases hz
        have hb : Blk W g0 49 (upd [(p0, x0), (p1, x1), (p2, x2)] [y0, y1, y2] 0 (listed.getD 10 false)) := hS.blk 0 (by decide)
        rw [hns] at hb
        have q0 : W.cell? ⟨g0, 1, none⟩ = some (.int .i64 x0) := hb.cell 1
        refine .inr (.inl ⟨.int .i64 x0, W, ?_, Below.refl _ _, rfl, (Upd.same hS (fun i hi => by match i, hi with | 0, _ => exact of_decide_eq_true rfl | 1, _ => exact of_decide_eq_true rfl | 2, _ => exact of_decide_eq_true rfl) (by rw [hls]; exact of_decide_eq_true rfl))⟩)
        go_simp
      | 2, ho =>
        obtain rfl := Option.some.inj ho
        have e0 : a.tmps.getD 42 undef = .int .i64 x0 := hnear 1 42 rfl (hwait 1 (by kernel_rfl))
        refine .inr (.inr ⟨10, #[.int .i64 x0], W, ?_, (CWd0.out W).mono ?_⟩)
        · go_simp
        · rintro e W' ⟨rfl, rfl⟩
          exact ⟨_, rfl, Below.refl _ _, rfl, (Upd.same hS (fun i hi => by match i, hi with | 0, _ => exact of_decide_eq_true rfl | 1, _ => exact of_decide_eq_true rfl | 2, _ => exact of_decide_eq_true rfl) (by rw [hls]; exact of_decide_eq_true rfl))⟩
      | 3, ho =>
        obtain rfl := Option.some.inj ho
        have s0 : a.tmps.getD 12 undef = .pointer (some ⟨g1, 0, none⟩) := hfar 12 (noDst_spec (by kernel_rfl))
        refine .inr (.inl ⟨.pointer (some ⟨g1, 1, none⟩), W, ?_, Below.refl _ _, rfl, (Upd.same hS (fun i hi => by match i, hi with | 0, _ => exact of_decide_eq_true rfl | 1, _ => exact of_decide_eq_true rfl | 2, _ => exact of_decide_eq_true rfl) (by rw [hls]; exact of_decide_eq_true rfl))⟩)
        go_simp
      | 4, ho =>
        obtain rfl := Option.some.inj ho
        have e0 : a.tmps.getD 44 undef = .pointer (some ⟨g1, 1, none⟩) := hnear 3 44 rfl (hwait 3 (by kernel_rfl))
        have hns : listed.getD 12 false = false := by
          cases hx : listed.getD 12 false with
          | false => rfl
          | true => have hz : listed.getD 4 false = true := hS.ord 1 (by decide) hx; rw [hun] at hz; cases hz
        have hb : Blk W g1 49 (upd [(p0, x0), (p1, x1), (p2, x2)] [y0, y1, y2] 1 (listed.getD 12 false)) := hS.blk 1 (by decide)
        rw [hns] at hb
        have q0 : W.cell? ⟨g1, 1, none⟩ = some (.int .i64 x1) := hb.cell 1
        refine .inr (.inl ⟨.int .i64 x1, W, ?_, Below.refl _ _, rfl, (Upd.same hS (fun i hi => by match i, hi with | 0, _ => exact of_decide_eq_true rfl | 1, _ => exact of_decide_eq_true rfl | 2, _ => exact of_decide_eq_true rfl) (by rw [hls]; exact of_decide_eq_true rfl))⟩)
        go_simp
      | 5, ho =>
        obtain rfl := Option.some.inj ho
        have e0 : a.tmps.getD 45 undef = .int .i64 x1 := hnear 4 45 rfl (hwait 4 (by kernel_rfl))
        refine .inr (.inr ⟨10, #[.int .i64 x1], W, ?_, (CWd1.out W).mono ?_⟩)
        · go_simp
        · rintro e W' ⟨rfl, rfl⟩
          exact ⟨_, rfl, Below.refl _ _, rfl, (Upd.same hS (fun i hi => by match i, hi with | 0, _ => exact of_decide_eq_true rfl | 1, _ => exact of_decide_eq_true rfl | 2, _ => exact of_decide_eq_true rfl) (by rw [hls]; exact of_decide_eq_true rfl))⟩
      | 6, ho =>
        obtain rfl := Option.some.inj ho
        have s0 : a.tmps.getD 13 undef = .pointer (some ⟨g2, 0, none⟩) := hfar 13 (noDst_spec (by kernel_rfl))
        refine .inr (.inl ⟨.pointer (some ⟨g2, 1, none⟩), W, ?_, Below.refl _ _, rfl, (Upd.same hS (fun i hi => by match i, hi with | 0, _ => exact of_decide_eq_true rfl | 1, _ => exact of_decide_eq_true rfl | 2, _ => exact of_decide_eq_true rfl) (by rw [hls]; exact of_decide_eq_true rfl))⟩)
        go_simp
      | 7, ho =>
        obtain rfl := Option.some.inj ho
        have e0 : a.tmps.getD 47 undef = .pointer (some ⟨g2, 1, none⟩) := hnear 6 47 rfl (hwait 6 (by kernel_rfl))
        have hns : listed.getD 14 false = false := by
          cases hx : listed.getD 14 false with
          | false => rfl
          | true => have hz : listed.getD 7 false = true := hS.ord 2 (by decide) hx; rw [hun] at hz; cases hz
        have hb : Blk W g2 49 (upd [(p0, x0), (p1, x1), (p2, x2)] [y0, y1, y2] 2 (listed.getD 14 false)) := hS.blk 2 (by decide)
        rw [hns] at hb
        have q0 : W.cell? ⟨g2, 1, none⟩ = some (.int .i64 x2) := hb.cell 1
        refine .inr (.inl ⟨.int .i64 x2, W, ?_, Below.refl _ _, rfl, (Upd.same hS (fun i hi => by match i, hi with | 0, _ => exact of_decide_eq_true rfl | 1, _ => exact of_decide_eq_true rfl | 2, _ => exact of_decide_eq_true rfl) (by rw [hls]; exact of_decide_eq_true rfl))⟩)
        go_simp
      | 8, ho =>
        obtain rfl := Option.some.inj ho
        have e0 : a.tmps.getD 48 undef = .int .i64 x2 := hnear 7 48 rfl (hwait 7 (by kernel_rfl))
        refine .inr (.inr ⟨10, #[.int .i64 x2], W, ?_, (CWd2.out W).mono ?_⟩)
        · go_simp
        · rintro e W' ⟨rfl, rfl⟩
          exact ⟨_, rfl, Below.refl _ _, rfl, (Upd.same hS (fun i hi => by match i, hi with | 0, _ => exact of_decide_eq_true rfl | 1, _ => exact of_decide_eq_true rfl | 2, _ => exact of_decide_eq_true rfl) (by rw [hls]; exact of_decide_eq_true rfl))⟩
      | 9, ho =>
        obtain rfl := Option.some.inj ho
        have s0 : a.tmps.getD 11 undef = .pointer (some ⟨g0, 0, none⟩) := hfar 11 (noDst_spec (by kernel_rfl))
        refine .inr (.inl ⟨.pointer (some ⟨g0, 1, none⟩), W, ?_, Below.refl _ _, rfl, (Upd.same hS (fun i hi => by match i, hi with | 0, _ => exact of_decide_eq_true rfl | 1, _ => exact of_decide_eq_true rfl | 2, _ => exact of_decide_eq_true rfl) (by rw [hls]; exact of_decide_eq_true rfl))⟩)
        go_simp
      | 10, ho =>
        obtain rfl := Option.some.inj ho
        have e0 : a.tmps.getD 50 undef = .pointer (some ⟨g0, 1, none⟩) := hnear 9 50 rfl (hwait 9 (by kernel_rfl))
        have e1 : a.tmps.getD 43 undef = .int .i64 y0 := hnear 2 43 rfl (hwait 2 (by kernel_rfl))
        have hl1 : listed.getD 1 false = true := hwait 1 (by kernel_rfl)
        have hb : Blk W g0 49 (upd [(p0, x0), (p1, x1), (p2, x2)] [y0, y1, y2] 0 (listed.getD 10 false)) := hS.blk 0 (by decide)
        rw [hun] at hb
        have q0 : W.cell? ⟨g0, 1, none⟩ = some (.int .i64 x0) := hb.cell 1
        have f0 := hb.frozen 1
        refine .inl ⟨W.setCell ⟨g0, 1, none⟩ (.int .i64 y0), ?_, (Below.refl _ _).setCell (p := ⟨g0, 1, none⟩) ge0 _, rfl, Upd.store hS (i0 := 0) (by decide) (fun i hi hne => by match i, hi, hne with
          | 1, _, _ => exact of_decide_eq_true rfl
          | 2, _, _ => exact of_decide_eq_true rfl
          | 0, _, h => exact absurd rfl h
          | i + 3, h, _ => exact absurd h (by omega)) (fun i hi => by match i, hi with
          | 0, _ => exact of_decide_eq_true rfl
          | 1, _ => exact of_decide_eq_true rfl
          | 2, _ => exact of_decide_eq_true rfl
          | i + 3, h => exact absurd h (by omega)) (fun i hi hne => by match i, hi, hne with
          | 1, _, _ => exact Ne.symm d01
          | 2, _, _ => exact Ne.symm d02
          | 0, _, h => exact absurd rfl h
          | i + 3, h, _ => exact absurd h (by omega)) hl1 (by rw [hls]; exact of_decide_eq_true rfl) (hb.set_ 1 _) (fun b t cs hne h => h.far (p := ⟨g0, 1, none⟩) hne _)⟩
        go_simp
        try rfl
      | 11, ho =>
        obtain rfl := Option.some.inj ho
        have s0 : a.tmps.getD 12 undef = .pointer (some ⟨g1, 0, none⟩) := hfar 12 (noDst_spec (by kernel_rfl))
        refine .inr (.inl ⟨.pointer (some ⟨g1, 1, none⟩), W, ?_, Below.refl _ _, rfl, (Upd.same hS (fun i hi => by match i, hi with | 0, _ => exact of_decide_eq_true rfl | 1, _ => exact of_decide_eq_true rfl | 2, _ => exact of_decide_eq_true rfl) (by rw [hls]; exact of_decide_eq_true rfl))⟩)
        go_simp
      | 12, ho =>
        obtain rfl := Option.some.inj ho
        have e0 : a.tmps.getD 51 undef = .pointer (some ⟨g1, 1, none⟩) := hnear 11 51 rfl (hwait 11 (by kernel_rfl))
        have e1 : a.tmps.getD 46 undef = .int .i64 y1 := hnear 5 46 rfl (hwait 5 (by kernel_rfl))
        have hl1 : listed.getD 4 false = true := hwait 4 (by kernel_rfl)
        have hb : Blk W g1 49 (upd [(p0, x0), (p1, x1), (p2, x2)] [y0, y1, y2] 1 (listed.getD 12 false)) := hS.blk 1 (by decide)
        rw [hun] at hb
        have q0 : W.cell? ⟨g1, 1, none⟩ = some (.int .i64 x1) := hb.cell 1
        have f0 := hb.frozen 1
        refine .inl ⟨W.setCell ⟨g1, 1, none⟩ (.int .i64 y1), ?_, (Below.refl _ _).setCell (p := ⟨g1, 1, none⟩) ge1 _, rfl, Upd.store hS (i0 := 1) (by decide) (fun i hi hne => by match i, hi, hne with
          | 0, _, _ => exact of_decide_eq_true rfl
          | 2, _, _ => exact of_decide_eq_true rfl
          | 1, _, h => exact absurd rfl h
          | i + 3, h, _ => exact absurd h (by omega)) (fun i hi => by match i, hi with
          | 0, _ => exact of_decide_eq_true rfl
          | 1, _ => exact of_decide_eq_true rfl
          | 2, _ => exact of_decide_eq_true rfl
          | i + 3, h => exact absurd h (by omega)) (fun i hi hne => by match i, hi, hne with
          | 0, _, _ => exact d01
          | 2, _, _ => exact Ne.symm d12
          | 1, _, h => exact absurd rfl h
          | i + 3, h, _ => exact absurd h (by omega)) hl1 (by rw [hls]; exact of_decide_eq_true rfl) (hb.set_ 1 _) (fun b t cs hne h => h.far (p := ⟨g1, 1, none⟩) hne _)⟩
        go_simp
        try rfl
      | 13, ho =>
        obtain rfl := Option.some.inj ho
        have s0 : a.tmps.getD 13 undef = .pointer (some ⟨g2, 0, none⟩) := hfar 13 (noDst_spec (by kernel_rfl))
        refine .inr (.inl ⟨.pointer (some ⟨g2, 1, none⟩), W, ?_, Below.refl _ _, rfl, (Upd.same hS (fun i hi => by match i, hi with | 0, _ => exact of_decide_eq_true rfl | 1, _ => exact of_decide_eq_true rfl | 2, _ => exact of_decide_eq_true rfl) (by rw [hls]; exact of_decide_eq_true rfl))⟩)
        go_simp
      | 14, ho =>
        obtain rfl := Option.some.inj ho
        have e0 : a.tmps.getD 52 undef = .pointer (some ⟨g2, 1, none⟩) := hnear 13 52 rfl (hwait 13 (by kernel_rfl))
        have e1 : a.tmps.getD 49 undef = .int .i64 y2 := hnear 8 49 rfl (hwait 8 (by kernel_rfl))
        have hl1 : listed.getD 7 false = true := hwait 7 (by kernel_rfl)
        have hb : Blk W g2 49 (upd [(p0, x0), (p1, x1), (p2, x2)] [y0, y1, y2] 2 (listed.getD 14 false)) := hS.blk 2 (by decide)
        rw [hun] at hb
        have q0 : W.cell? ⟨g2, 1, none⟩ = some (.int .i64 x2) := hb.cell 1
        have f0 := hb.frozen 1
        refine .inl ⟨W.setCell ⟨g2, 1, none⟩ (.int .i64 y2), ?_, (Below.refl _ _).setCell (p := ⟨g2, 1, none⟩) ge2 _, rfl, Upd.store hS (i0 := 2) (by decide) (fun i hi hne => by match i, hi, hne with
          | 0, _, _ => exact of_decide_eq_true rfl
          | 1, _, _ => exact of_decide_eq_true rfl
          | 2, _, h => exact absurd rfl h
          | i + 3, h, _ => exact absurd h (by omega)) (fun i hi => by match i, hi with
          | 0, _ => exact of_decide_eq_true rfl
          | 1, _ => exact of_decide_eq_true rfl
          | 2, _ => exact of_decide_eq_true rfl
          | i + 3, h => exact absurd h (by omega)) (fun i hi hne => by match i, hi, hne with
          | 0, _, _ => exact d02
          | 1, _, _ => exact d12
          | 2, _, h => exact absurd rfl h
          | i + 3, h, _ => exact absurd h (by omega)) hl1 (by rw [hls]; exact of_decide_eq_true rfl) (hb.set_ 1 _) (fun b t cs hne h => h.far (p := ⟨g2, 1, none⟩) hne _)⟩
        go_simp
        try rfl
      | iK + 15, ho => cases ho
    · intro listed a' w4 hall hBw hnear hfar htsz hdf hS0
      have hS : Upd 49 (nn [g0, g1, g2]) (upd [(p0, x0), (p1, x1), (p2, x2)] [y0, y1, y2]) (nn [1, 4, 7]) (nn [10, 12, 14]) 3 listed w4 := hS0
      clear hS0
      have by0 : Blk w4 g0 49 (upd [(p0, x0), (p1, x1), (p2, x2)] [y0, y1, y2] 0 (listed.getD 10 false)) := hS.blk 0 (by decide)
      rw [hall 10 (by decide)] at by0
      replace by0 : Blk w4 g0 49 #[.bool p0, .int .i64 y0] := by0
      have by1 : Blk w4 g1 49 (upd [(p0, x0), (p1, x1), (p2, x2)] [y0, y1, y2] 1 (listed.getD 12 false)) := hS.blk 1 (by decide)
      rw [hall 12 (by decide)] at by1
      replace by1 : Blk w4 g1 49 #[.bool p1, .int .i64 y1] := by1
      have by2 : Blk w4 g2 49 (upd [(p0, x0), (p1, x1), (p2, x2)] [y0, y1, y2] 2 (listed.getD 14 false)) := hS.blk 2 (by decide)
      rw [hall 14 (by decide)] at by2
      replace by2 : Blk w4 g2 49 #[.bool p2, .int .i64 y2] := by2
      have ea := frame_eq [.pointer (some ⟨g0, 1, none⟩), .int .i64 x0, .int .i64 y0, .pointer (some ⟨g1, 1, none⟩), .int .i64 x1, .int .i64 y1, .pointer (some ⟨g2, 1, none⟩), .int .i64 x2, .int .i64 y2, .pointer (some ⟨g0, 1, none⟩), undef, .pointer (some ⟨g1, 1, none⟩), undef, .pointer (some ⟨g2, 1, none⟩), undef] (by kernel_rfl) rfl hnear hfar htsz hdf
      clear hS hnear hfar htsz hdf hall bx0 bx1 bx2 CWd0 CWd1 CWd2
      subst ea
      simp only [putAll, Act.put, List.setIfInBounds_toArray, List.set_cons_zero, List.set_cons_succ]
      replace hs4 := hs4.step (hB23.trans hBw)
      replace hB := hB.trans (hBw.mono hw2)
      clear hBw ge0 ge1 ge2 hB23 d01 d02 d12
      have u00 : World.cell? w4 ⟨g0, 0, none⟩ = some (.bool p0) := by0.cell 0
      have u01 : World.cell? w4 ⟨g0, 1, none⟩ = some (.int .i64 y0) := by0.cell 1
      have u10 : World.cell? w4 ⟨g1, 0, none⟩ = some (.bool p1) := by1.cell 0
      have u11 : World.cell? w4 ⟨g1, 1, none⟩ = some (.int .i64 y1) := by1.cell 1
      go_wp2_with fail
      refine (J1.out _ (hI.below hB)).mono ?_
      rintro e w5 ⟨rfl, hBx⟩
      clear u00 u01 u10 u11 J1
      replace by0 := (by0.below hBx by0.lt).alloc (.cells #[.bool q1, .int .i64 m1] 49)
      replace by1 := (by1.below hBx by1.lt).alloc (.cells #[.bool q1, .int .i64 m1] 49)
      replace by2 := (by2.below hBx by2.lt).alloc (.cells #[.bool q1, .int .i64 m1] 49)
      replace hs4 := (hs4.step hBx).al (.cells #[.bool q1, .int .i64 m1] 49)
      replace hB := hB.trans (hBx.mono hB.size)
      clear hBx
      replace hB := hB.alloc hB.size (.cells #[.bool q1, .int .i64 m1] 49)
      have ba := Blk.new w5 49 #[.bool q1, .int .i64 m1]
      have u00 : World.cell? (World.alloc w5 (.cells #[.bool q1, .int .i64 m1] 49)) ⟨w5.heap.size, 0, none⟩ = some (.bool q1) := ba.cell 0
      have u01 : World.cell? (World.alloc w5 (.cells #[.bool q1, .int .i64 m1] 49)) ⟨w5.heap.size, 1, none⟩ = some (.int .i64 m1) := ba.cell 1
      have u10 : World.cell? (World.alloc w5 (.cells #[.bool q1, .int .i64 m1] 49)) ⟨g2, 0, none⟩ = some (.bool p2) := by2.cell 0
      have u11 : World.cell? (World.alloc w5 (.cells #[.bool q1, .int .i64 m1] 49)) ⟨g2, 1, none⟩ = some (.int .i64 y2) := by2.cell 1
      go_wp2_with fail
      refine (J2.out _ (hI.below hB)).mono ?_
      rintro e w6 ⟨rfl, hBx⟩
      clear u00 u01 u10 u11 J2
      clear ba
      replace by0 := (by0.below hBx by0.lt).alloc (.cells #[.bool q2, .int .i64 m2] 49)
      replace by1 := (by1.below hBx by1.lt).alloc (.cells #[.bool q2, .int .i64 m2] 49)
      replace by2 := (by2.below hBx by2.lt).alloc (.cells #[.bool q2, .int .i64 m2] 49)
      replace hs4 := (hs4.step hBx).al (.cells #[.bool q2, .int .i64 m2] 49)
      replace hB := hB.trans (hBx.mono hB.size)
      clear hBx
      replace hB := hB.alloc hB.size (.cells #[.bool q2, .int .i64 m2] 49)
      have bb := Blk.new w6 49 #[.bool q2, .int .i64 m2]
      have u00 : World.cell? (World.alloc w6 (.cells #[.bool q2, .int .i64 m2] 49)) ⟨g1, 0, none⟩ = some (.bool p1) := by1.cell 0
      have u01 : World.cell? (World.alloc w6 (.cells #[.bool q2, .int .i64 m2] 49)) ⟨g1, 1, none⟩ = some (.int .i64 y1) := by1.cell 1
      have u10 : World.cell? (World.alloc w6 (.cells #[.bool q2, .int .i64 m2] 49)) ⟨g2, 0, none⟩ = some (.bool p2) := by2.cell 0
      have u11 : World.cell? (World.alloc w6 (.cells #[.bool q2, .int .i64 m2] 49)) ⟨g2, 1, none⟩ = some (.int .i64 y2) := by2.cell 1
      go_wp2_with fail
      refine (J3.out _ (hI.below hB)).mono ?_
      rintro e w7 ⟨rfl, hBx⟩
      clear u00 u01 u10 u11 J3
      clear by1
      clear by2
      replace by0 := (by0.below hBx by0.lt).alloc (.cells #[.bool q3, .int .i64 m3] 49)
      replace bb := (bb.below hBx bb.lt).alloc (.cells #[.bool q3, .int .i64 m3] 49)
      replace hs4 := (hs4.step hBx).al (.cells #[.bool q3, .int .i64 m3] 49)
      replace hB := hB.trans (hBx.mono hB.size)
      clear hBx
      replace hB := hB.alloc hB.size (.cells #[.bool q3, .int .i64 m3] 49)
      have bc := Blk.new w7 49 #[.bool q3, .int .i64 m3]
      have u00 : World.cell? (World.alloc w7 (.cells #[.bool q3, .int .i64 m3] 49)) ⟨g0, 0, none⟩ = some (.bool p0) := by0.cell 0
      have u01 : World.cell? (World.alloc w7 (.cells #[.bool q3, .int .i64 m3] 49)) ⟨g0, 1, none⟩ = some (.int .i64 y0) := by0.cell 1
      have u10 : World.cell? (World.alloc w7 (.cells #[.bool q3, .int .i64 m3] 49)) ⟨w7.heap.size, 0, none⟩ = some (.bool q3) := bc.cell 0
      have u11 : World.cell? (World.alloc w7 (.cells #[.bool q3, .int .i64 m3] 49)) ⟨w7.heap.size, 1, none⟩ = some (.int .i64 m3) := bc.cell 1
      go_wp2_with fail
      refine (J4.out _ (hI.below hB)).mono ?_
      rintro e w8 ⟨rfl, hBx⟩
      clear u00 u01 u10 u11 J4
      clear by0
      clear bc
      replace bb := (bb.below hBx bb.lt).alloc (.cells #[.bool q2, .int .i64 m2] 49)
      replace hs4 := hs4.step hBx
      replace hB := hB.trans (hBx.mono hB.size)
      clear hBx
      have hB' := hB
      have hBs8 : w.heap.size ≤ w8.heap.size := hB'.size
      replace hB := hB.alloc hB.size (.cells #[.bool q2, .int .i64 m2] 49)
      have bd := Blk.new w8 49 #[.bool q2, .int .i64 m2]
      have u00 : World.cell? (World.alloc w8 (.cells #[.bool q2, .int .i64 m2] 49)) ⟨w6.heap.size, 0, none⟩ = some (.bool q2) := bb.cell 0
      have u01 : World.cell? (World.alloc w8 (.cells #[.bool q2, .int .i64 m2] 49)) ⟨w6.heap.size, 1, none⟩ = some (.int .i64 m2) := bb.cell 1
      have u10 : World.cell? (World.alloc w8 (.cells #[.bool q2, .int .i64 m2] 49)) ⟨w8.heap.size, 0, none⟩ = some (.bool q2) := bd.cell 0
      have u11 : World.cell? (World.alloc w8 (.cells #[.bool q2, .int .i64 m2] 49)) ⟨w8.heap.size, 1, none⟩ = some (.int .i64 m2) := bd.cell 1
      go_wp2
      clear u00 u01 u10 u11 bb bd
      go_loopw [22, 23, 24, 25] (fun fv lv av iv wr => ∃ (k p : Nat) (F : List (Bool × Int)) (Z : List Int), av = .int .i64 p ∧ iv = .int .i64 k ∧ k ≤ 202 ∧ Hid (k = 202 → p = N) ∧ p ≤ N ∧ Hid (FLags a Z F 0) ∧ Hid (F.length = p) ∧ Hid (Z.length = k) ∧ OwnF wr w8.heap.size fv F ∧ OwnI wr w8.heap.size lv Z ∧ Below w8.heap.size w8 wr) (fun _ _ _ iv _ => 203 - (intOf iv).toNat)
      case atStart =>
        refine ⟨0, 0, [], [], rfl, rfl, by omega, Lib.hid (fun h => by omega), by omega, Lib.hid (FLags.empty a), Lib.hid rfl, Lib.hid rfl, ?_, ?_, ?_⟩
        · exact (ownF_empty' (World.alloc w8 (.cells #[.bool q2, .int .i64 m2] 49)) w8.heap.size _ (by simp) (by simp)).alloc _
        · exact ownI_empty' _ w8.heap.size _ (by simp) (by simp; omega)
        · exact ((((Below.refl _ _).alloc (Nat.le_refl _) _).alloc (by simp) _).alloc (by simp; omega) _)
      case round =>
        obtain ⟨k, p, F, Z, rfl, rfl, hk, HK2, hp, HF, HFl, HZl, hoF, hoI, hBr⟩ := hrel
        by_cases hgo : p < N
        · have hgi : (p : Int) < (N : Int) := by omega
          have hk1 : k ≤ 201 := by
            apply Classical.byContradiction
            intro hne
            have := HK2.out (by omega)
            omega
          have C1 := bnth_any A2 c2 z2 k wr (h2.step (hB'.trans (hBr.mono hBs8))) hz2 (by omega)
          obtain ⟨y, hy⟩ : ∃ y, nth z2 (k % z2.length) = y := ⟨_, rfl⟩
          rw [hy] at C1
          have C1 := Lib.hid C1
          have C2 : ∀ (x : Int) (W : World), Calls Tryd.prog 9 #[.int .i64 x, .int .i64 5] W (TurnR 4 W) := fun x W => turnR_any x 6 (by omega) (by omega) W
          have C2 := Lib.hid C2
          have HP : Hid (ofs Z Z.length = p) := Lib.hid (by have := HF.out.len; rw [HFl.out] at this; omega)
          clear hy hgo
          go_wp2_with fail
          refine C1.out.mono ?_
          rintro e w' ⟨rfl, rfl⟩
          go_wp2_with fail
          refine (C2.out _ _).mono ?_
          rintro e w' ⟨r, hr0, hr1, rfl, hkk⟩
          subst hkk
          have hln0 : ((p : Nat) : Int) ≤ (N : Int) := by omega
          by_cases hmin : (N : Int) - (p : Int) ≤ r
          · have hmn := Int.min_eq_left hmin
            by_cases hk2 : (k : Int) > 200
            · go_wp2
              obtain ⟨n, hn⟩ : ∃ n : Nat, (N : Int) - (p : Int) = (n : Int) := ⟨N - p, by omega⟩
              have hn1 : p + n ≤ N := by omega
              have HLAST : Hid (k ≤ 200 ∨ p + n = N) := Lib.hid (by omega)
              rw [hn]
              clear hn hmn hmin C1 C2
              go_loopw [22, 27] (fun fw jv ws => ∃ (j : Nat) (G : List (Bool × Int)), jv = .int .i64 j ∧ j ≤ n ∧ Hid (FLags a Z G j) ∧ Hid (G.length = p + j) ∧ OwnF ws w8.heap.size fw G ∧ OwnI ws w8.heap.size u23 Z ∧ Below w8.heap.size w8 ws) (fun _ jv _ => n - (intOf jv).toNat)
              case atStart => exact ⟨0, F, rfl, by omega, HF, Lib.hid (by rw [HFl.out]; rfl), hoF, hoI, hBr⟩
              case round =>
                clear hoF hoI HF HFl
                obtain ⟨j, G, rfl, hj, HG, HGl, hoF, hoI, hBs⟩ := hrel
                by_cases hlt : j < n
                · have hji : (j : Int) < (n : Int) := by omega
                  have HM : Hid (FLags a Z (G ++ [(decide (j = 0), nth a (p + j))]) (j + 1)) := Lib.hid (by have := HG.out.more; rw [HP.out] at this; exact this)
                  obtain ⟨b1, o1, rfl, hb1, hq1⟩ := (hs4.step hBs).at_ (k := p + j) (by rw [HN.out]; omega)
                  obtain ⟨x, hx⟩ : ∃ x, nth a (p + j) = x := ⟨_, rfl⟩
                  rw [hx] at hq1 HM
                  clear hx
                  have hGl : G.length ≤ 60 := by rw [HGl.out]; omega
                  by_cases hj0 : j = 0
                  · subst hj0
                    rw [Nat.add_zero] at hq1
                    have hpI0 : (0 : Int) ≤ (p : Int) := by omega
                    simp only [show ((0 : Nat) : Int) = 0 from rfl]
                    have HM2 : Hid (FLags a Z (G ++ [(true, x)]) 1) := HM
                    clear HM
                    go_wp2_with (at_builtin; refine wpList_append_own _ rfl _ _ 53 rfl w8.heap.size 49 i1 (.agg #[.bool false, .int .i64 0]) 2 16 Tryd.underlying53 hi1 hyy0 hyy1 hyy2 rfl (by decide) _ _ _ rfl (hoF.alloc _) ⟨_, 0, none⟩ 1 1 [.bool true, .int .i64 x] rfl rfl (cell_two_new _ _ _ _) (by simp [Value.oneCell']) (by unfold maxLen; omega) (by omega) (by have := hBs.size; simp; omega) ?_; intro v' w1q hown' hgrow _; have hB2' := below_appendF hBs hBs.size hoF hgrow)
                    have hown2 := OwnF.snoc hown'
                    have hoI2 := (hoI.alloc _).kept hgrow (apart_rows hoF hoI)
                    clear hown' hgrow
                    go_roundw
                    case rel => exact ⟨1, _, by go_num, by omega, HM2, Lib.hid (by rw [List.length_append, HGl.out]; rfl), hown2, hoI2, hB2'⟩
                    case measure => simp [intOf]; omega
                  · obtain ⟨s, hs⟩ : ∃ s : Nat, p + j = s := ⟨_, rfl⟩
                    have hsI : (p : Int) + (j : Int) = (s : Int) := by omega
                    have hs0 : (s : Int) < (N : Int) := by omega
                    have hs1 : IntKind.i64.wrap (s : Int) = (s : Int) := IntWalk.i64_in _ (by omega)
                    rw [hs] at hq1
                    have hjn : ((j : Int) == 0) = false := by rw [beq_eq_false_iff_ne]; omega
                    have hjn' : ¬ (j : Int) = 0 := by omega
                    have HM2 : Hid (FLags a Z (G ++ [(false, x)]) (j + 1)) := Lib.hid (by have := HM.out; rw [decide_eq_false hj0] at this; exact this)
                    clear HM hs
                    go_wp2_with (at_builtin; refine wpList_append_own _ rfl _ _ 53 rfl w8.heap.size 49 i1 (.agg #[.bool false, .int .i64 0]) 2 16 Tryd.underlying53 hi1 hyy0 hyy1 hyy2 rfl (by decide) _ _ _ rfl (hoF.alloc _) ⟨_, 0, none⟩ 1 1 [.bool false, .int .i64 x] rfl rfl (cell_two_new _ _ _ _) (by simp [Value.oneCell']) (by unfold maxLen; omega) (by omega) (by have := hBs.size; simp; omega) ?_; intro v' w1q hown' hgrow _; have hB2' := below_appendF hBs hBs.size hoF hgrow)
                    have hown2 := OwnF.snoc hown'
                    have hoI2 := (hoI.alloc _).kept hgrow (apart_rows hoF hoI)
                    clear hown' hgrow
                    go_roundw
                    case rel => exact ⟨j + 1, _, by go_num, by omega, HM2, Lib.hid (by rw [List.length_append, HGl.out]; rfl), hown2, hoI2, hB2'⟩
                    case measure => simp [intOf]; omega
                · obtain rfl : j = n := by omega
                  have HC := Lib.hid HG.out.close
                  have hZ2 : Z.length ≤ 202 := by rw [HZl.out]; omega
                  go_wp2_with (at_builtin; refine wpList_append_own _ rfl _ _ 22 rfl w8.heap.size 3 i0 (.int .i64 0) 1 8 Tryd.underlying22 hi hzz0 hzz1 hzz2 rfl (by decide) _ _ _ rfl (hoI.alloc _) ⟨_, 0, none⟩ 1 1 [.int .i64 (j : Int)] rfl rfl (cell_one_new _ _ _) (by simp [Value.oneCell']) (by unfold maxLen; omega) (by omega) (by have := hBs.size; simp; omega) ?_; intro v' w1q hown' hgrow _; have hB2' := below_append hBs hBs.size hoI hgrow)
                  have hown2 := OwnI.snoc hown'
                  have hoF2 := (hoF.alloc _).kept hgrow (apart_rows' hoF hoI)
                  clear hown' hgrow
                  go_roundw
                  case rel => exact ⟨k + 1, p + j, G, Z ++ [(j : Int)], by go_num, by go_num, by omega, Lib.hid (fun h => by have := HLAST.out; omega), by omega, HC, HGl, Lib.hid (by rw [List.length_append, HZl.out]; rfl), hoF2, hown2, hB2'⟩
                  case measure => simp [intOf]; omega
            · go_wp2
              obtain ⟨n, hn⟩ : ∃ n : Nat, (N : Int) - (p : Int) = (n : Int) := ⟨N - p, by omega⟩
              have hn1 : p + n ≤ N := by omega
              have HLAST : Hid (k ≤ 200 ∨ p + n = N) := Lib.hid (by omega)
              rw [hn]
              clear hn hmn hmin C1 C2
              go_loopw [22, 27] (fun fw jv ws => ∃ (j : Nat) (G : List (Bool × Int)), jv = .int .i64 j ∧ j ≤ n ∧ Hid (FLags a Z G j) ∧ Hid (G.length = p + j) ∧ OwnF ws w8.heap.size fw G ∧ OwnI ws w8.heap.size u23 Z ∧ Below w8.heap.size w8 ws) (fun _ jv _ => n - (intOf jv).toNat)
              case atStart => exact ⟨0, F, rfl, by omega, HF, Lib.hid (by rw [HFl.out]; rfl), hoF, hoI, hBr⟩
              case round =>
                clear hoF hoI HF HFl
                obtain ⟨j, G, rfl, hj, HG, HGl, hoF, hoI, hBs⟩ := hrel
                by_cases hlt : j < n
                · have hji : (j : Int) < (n : Int) := by omega
                  have HM : Hid (FLags a Z (G ++ [(decide (j = 0), nth a (p + j))]) (j + 1)) := Lib.hid (by have := HG.out.more; rw [HP.out] at this; exact this)
                  obtain ⟨b1, o1, rfl, hb1, hq1⟩ := (hs4.step hBs).at_ (k := p + j) (by rw [HN.out]; omega)
                  obtain ⟨x, hx⟩ : ∃ x, nth a (p + j) = x := ⟨_, rfl⟩
                  rw [hx] at hq1 HM
                  clear hx
                  have hGl : G.length ≤ 60 := by rw [HGl.out]; omega
                  by_cases hj0 : j = 0
                  · subst hj0
                    rw [Nat.add_zero] at hq1
                    have hpI0 : (0 : Int) ≤ (p : Int) := by omega
                    simp only [show ((0 : Nat) : Int) = 0 from rfl]
                    have HM2 : Hid (FLags a Z (G ++ [(true, x)]) 1) := HM
                    clear HM
                    go_wp2_with (at_builtin; refine wpList_append_own _ rfl _ _ 53 rfl w8.heap.size 49 i1 (.agg #[.bool false, .int .i64 0]) 2 16 Tryd.underlying53 hi1 hyy0 hyy1 hyy2 rfl (by decide) _ _ _ rfl (hoF.alloc _) ⟨_, 0, none⟩ 1 1 [.bool true, .int .i64 x] rfl rfl (cell_two_new _ _ _ _) (by simp [Value.oneCell']) (by unfold maxLen; omega) (by omega) (by have := hBs.size; simp; omega) ?_; intro v' w1q hown' hgrow _; have hB2' := below_appendF hBs hBs.size hoF hgrow)
                    have hown2 := OwnF.snoc hown'
                    have hoI2 := (hoI.alloc _).kept hgrow (apart_rows hoF hoI)
                    clear hown' hgrow
                    go_roundw
                    case rel => exact ⟨1, _, by go_num, by omega, HM2, Lib.hid (by rw [List.length_append, HGl.out]; rfl), hown2, hoI2, hB2'⟩
                    case measure => simp [intOf]; omega
                  · obtain ⟨s, hs⟩ : ∃ s : Nat, p + j = s := ⟨_, rfl⟩
                    have hsI : (p : Int) + (j : Int) = (s : Int) := by omega
                    have hs0 : (s : Int) < (N : Int) := by omega
                    have hs1 : IntKind.i64.wrap (s : Int) = (s : Int) := IntWalk.i64_in _ (by omega)
                    rw [hs] at hq1
                    have hjn : ((j : Int) == 0) = false := by rw [beq_eq_false_iff_ne]; omega
                    have hjn' : ¬ (j : Int) = 0 := by omega
                    have HM2 : Hid (FLags a Z (G ++ [(false, x)]) (j + 1)) := Lib.hid (by have := HM.out; rw [decide_eq_false hj0] at this; exact this)
                    clear HM hs
                    go_wp2_with (at_builtin; refine wpList_append_own _ rfl _ _ 53 rfl w8.heap.size 49 i1 (.agg #[.bool false, .int .i64 0]) 2 16 Tryd.underlying53 hi1 hyy0 hyy1 hyy2 rfl (by decide) _ _ _ rfl (hoF.alloc _) ⟨_, 0, none⟩ 1 1 [.bool false, .int .i64 x] rfl rfl (cell_two_new _ _ _ _) (by simp [Value.oneCell']) (by unfold maxLen; omega) (by omega) (by have := hBs.size; simp; omega) ?_; intro v' w1q hown' hgrow _; have hB2' := below_appendF hBs hBs.size hoF hgrow)
                    have hown2 := OwnF.snoc hown'
                    have hoI2 := (hoI.alloc _).kept hgrow (apart_rows hoF hoI)
                    clear hown' hgrow
                    go_roundw
                    case rel => exact ⟨j + 1, _, by go_num, by omega, HM2, Lib.hid (by rw [List.length_append, HGl.out]; rfl), hown2, hoI2, hB2'⟩
                    case measure => simp [intOf]; omega
                · obtain rfl : j = n := by omega
                  have HC := Lib.hid HG.out.close
                  have hZ2 : Z.length ≤ 202 := by rw [HZl.out]; omega
                  go_wp2_with (at_builtin; refine wpList_append_own _ rfl _ _ 22 rfl w8.heap.size 3 i0 (.int .i64 0) 1 8 Tryd.underlying22 hi hzz0 hzz1 hzz2 rfl (by decide) _ _ _ rfl (hoI.alloc _) ⟨_, 0, none⟩ 1 1 [.int .i64 (j : Int)] rfl rfl (cell_one_new _ _ _) (by simp [Value.oneCell']) (by unfold maxLen; omega) (by omega) (by have := hBs.size; simp; omega) ?_; intro v' w1q hown' hgrow _; have hB2' := below_append hBs hBs.size hoI hgrow)
                  have hown2 := OwnI.snoc hown'
                  have hoF2 := (hoF.alloc _).kept hgrow (apart_rows' hoF hoI)
                  clear hown' hgrow
                  go_roundw
                  case rel => exact ⟨k + 1, p + j, G, Z ++ [(j : Int)], by go_num, by go_num, by omega, Lib.hid (fun h => by have := HLAST.out; omega), by omega, HC, HGl, Lib.hid (by rw [List.length_append, HZl.out]; rfl), hoF2, hown2, hB2'⟩
                  case measure => simp [intOf]; omega
          · have hmin' : r ≤ (N : Int) - (p : Int) := by omega
            have hmn := Int.min_eq_right hmin'
            by_cases hk2 : (k : Int) > 200
            · go_wp2
              obtain ⟨n, hn⟩ : ∃ n : Nat, (N : Int) - (p : Int) = (n : Int) := ⟨N - p, by omega⟩
              have hn1 : p + n ≤ N := by omega
              have HLAST : Hid (k ≤ 200 ∨ p + n = N) := Lib.hid (by omega)
              rw [hn]
              clear hn hmn hmin C1 C2
              go_loopw [22, 27] (fun fw jv ws => ∃ (j : Nat) (G : List (Bool × Int)), jv = .int .i64 j ∧ j ≤ n ∧ Hid (FLags a Z G j) ∧ Hid (G.length = p + j) ∧ OwnF ws w8.heap.size fw G ∧ OwnI ws w8.heap.size u23 Z ∧ Below w8.heap.size w8 ws) (fun _ jv _ => n - (intOf jv).toNat)
              case atStart => exact ⟨0, F, rfl, by omega, HF, Lib.hid (by rw [HFl.out]; rfl), hoF, hoI, hBr⟩
              case round =>
                clear hoF hoI HF HFl
                obtain ⟨j, G, rfl, hj, HG, HGl, hoF, hoI, hBs⟩ := hrel
                by_cases hlt : j < n
                · have hji : (j : Int) < (n : Int) := by omega
                  have HM : Hid (FLags a Z (G ++ [(decide (j = 0), nth a (p + j))]) (j + 1)) := Lib.hid (by have := HG.out.more; rw [HP.out] at this; exact this)
                  obtain ⟨b1, o1, rfl, hb1, hq1⟩ := (hs4.step hBs).at_ (k := p + j) (by rw [HN.out]; omega)
                  obtain ⟨x, hx⟩ : ∃ x, nth a (p + j) = x := ⟨_, rfl⟩
                  rw [hx] at hq1 HM
                  clear hx
                  have hGl : G.length ≤ 60 := by rw [HGl.out]; omega
                  by_cases hj0 : j = 0
                  · subst hj0
                    rw [Nat.add_zero] at hq1
                    have hpI0 : (0 : Int) ≤ (p : Int) := by omega
                    simp only [show ((0 : Nat) : Int) = 0 from rfl]
                    have HM2 : Hid (FLags a Z (G ++ [(true, x)]) 1) := HM
                    clear HM
                    go_wp2_with (at_builtin; refine wpList_append_own _ rfl _ _ 53 rfl w8.heap.size 49 i1 (.agg #[.bool false, .int .i64 0]) 2 16 Tryd.underlying53 hi1 hyy0 hyy1 hyy2 rfl (by decide) _ _ _ rfl (hoF.alloc _) ⟨_, 0, none⟩ 1 1 [.bool true, .int .i64 x] rfl rfl (cell_two_new _ _ _ _) (by simp [Value.oneCell']) (by unfold maxLen; omega) (by omega) (by have := hBs.size; simp; omega) ?_; intro v' w1q hown' hgrow _; have hB2' := below_appendF hBs hBs.size hoF hgrow)
                    have hown2 := OwnF.snoc hown'
                    have hoI2 := (hoI.alloc _).kept hgrow (apart_rows hoF hoI)
                    clear hown' hgrow
                    go_roundw
                    case rel => exact ⟨1, _, by go_num, by omega, HM2, Lib.hid (by rw [List.length_append, HGl.out]; rfl), hown2, hoI2, hB2'⟩
                    case measure => simp [intOf]; omega
                  · obtain ⟨s, hs⟩ : ∃ s : Nat, p + j = s := ⟨_, rfl⟩
                    have hsI : (p : Int) + (j : Int) = (s : Int) := by omega
                    have hs0 : (s : Int) < (N : Int) := by omega
                    have hs1 : IntKind.i64.wrap (s : Int) = (s : Int) := IntWalk.i64_in _ (by omega)
                    rw [hs] at hq1
                    have hjn : ((j : Int) == 0) = false := by rw [beq_eq_false_iff_ne]; omega
                    have hjn' : ¬ (j : Int) = 0 := by omega
                    have HM2 : Hid (FLags a Z (G ++ [(false, x)]) (j + 1)) := Lib.hid (by have := HM.out; rw [decide_eq_false hj0] at this; exact this)
                    clear HM hs
                    go_wp2_with (at_builtin; refine wpList_append_own _ rfl _ _ 53 rfl w8.heap.size 49 i1 (.agg #[.bool false, .int .i64 0]) 2 16 Tryd.underlying53 hi1 hyy0 hyy1 hyy2 rfl (by decide) _ _ _ rfl (hoF.alloc _) ⟨_, 0, none⟩ 1 1 [.bool false, .int .i64 x] rfl rfl (cell_two_new _ _ _ _) (by simp [Value.oneCell']) (by unfold maxLen; omega) (by omega) (by have := hBs.size; simp; omega) ?_; intro v' w1q hown' hgrow _; have hB2' := below_appendF hBs hBs.size hoF hgrow)
                    have hown2 := OwnF.snoc hown'
                    have hoI2 := (hoI.alloc _).kept hgrow (apart_rows hoF hoI)
                    clear hown' hgrow
                    go_roundw
                    case rel => exact ⟨j + 1, _, by go_num, by omega, HM2, Lib.hid (by rw [List.length_append, HGl.out]; rfl), hown2, hoI2, hB2'⟩
                    case measure => simp [intOf]; omega
                · obtain rfl : j = n := by omega
                  have HC := Lib.hid HG.out.close
                  have hZ2 : Z.length ≤ 202 := by rw [HZl.out]; omega
                  go_wp2_with (at_builtin; refine wpList_append_own _ rfl _ _ 22 rfl w8.heap.size 3 i0 (.int .i64 0) 1 8 Tryd.underlying22 hi hzz0 hzz1 hzz2 rfl (by decide) _ _ _ rfl (hoI.alloc _) ⟨_, 0, none⟩ 1 1 [.int .i64 (j : Int)] rfl rfl (cell_one_new _ _ _) (by simp [Value.oneCell']) (by unfold maxLen; omega) (by omega) (by have := hBs.size; simp; omega) ?_; intro v' w1q hown' hgrow _; have hB2' := below_append hBs hBs.size hoI hgrow)
                  have hown2 := OwnI.snoc hown'
                  have hoF2 := (hoF.alloc _).kept hgrow (apart_rows' hoF hoI)
                  clear hown' hgrow
                  go_roundw
                  case rel => exact ⟨k + 1, p + j, G, Z ++ [(j : Int)], by go_num, by go_num, by omega, Lib.hid (fun h => by have := HLAST.out; omega), by omega, HC, HGl, Lib.hid (by rw [List.length_append, HZl.out]; rfl), hoF2, hown2, hB2'⟩
                  case measure => simp [intOf]; omega
            · go_wp2
              obtain ⟨n, hn⟩ : ∃ n : Nat, r = (n : Int) := ⟨r.toNat, by omega⟩
              subst hn
              have hn1 : p + n ≤ N := by omega
              have HLAST : Hid (k ≤ 200 ∨ p + n = N) := Lib.hid (by omega)
              clear hmn hmin C1 C2
              go_loopw [22, 27] (fun fw jv ws => ∃ (j : Nat) (G : List (Bool × Int)), jv = .int .i64 j ∧ j ≤ n ∧ Hid (FLags a Z G j) ∧ Hid (G.length = p + j) ∧ OwnF ws w8.heap.size fw G ∧ OwnI ws w8.heap.size u23 Z ∧ Below w8.heap.size w8 ws) (fun _ jv _ => n - (intOf jv).toNat)
              case atStart => exact ⟨0, F, rfl, by omega, HF, Lib.hid (by rw [HFl.out]; rfl), hoF, hoI, hBr⟩
              case round =>
                clear hoF hoI HF HFl
                obtain ⟨j, G, rfl, hj, HG, HGl, hoF, hoI, hBs⟩ := hrel
                by_cases hlt : j < n
                · have hji : (j : Int) < (n : Int) := by omega
                  have HM : Hid (FLags a Z (G ++ [(decide (j = 0), nth a (p + j))]) (j + 1)) := Lib.hid (by have := HG.out.more; rw [HP.out] at this; exact this)
                  obtain ⟨b1, o1, rfl, hb1, hq1⟩ := (hs4.step hBs).at_ (k := p + j) (by rw [HN.out]; omega)
                  obtain ⟨x, hx⟩ : ∃ x, nth a (p + j) = x := ⟨_, rfl⟩
                  rw [hx] at hq1 HM
                  clear hx
                  have hGl : G.length ≤ 60 := by rw [HGl.out]; omega
                  by_cases hj0 : j = 0
                  · subst hj0
                    rw [Nat.add_zero] at hq1
                    have hpI0 : (0 : Int) ≤ (p : Int) := by omega
                    simp only [show ((0 : Nat) : Int) = 0 from rfl]
                    have HM2 : Hid (FLags a Z (G ++ [(true, x)]) 1) := HM
                    clear HM
                    go_wp2_with (at_builtin; refine wpList_append_own _ rfl _ _ 53 rfl w8.heap.size 49 i1 (.agg #[.bool false, .int .i64 0]) 2 16 Tryd.underlying53 hi1 hyy0 hyy1 hyy2 rfl (by decide) _ _ _ rfl (hoF.alloc _) ⟨_, 0, none⟩ 1 1 [.bool true, .int .i64 x] rfl rfl (cell_two_new _ _ _ _) (by simp [Value.oneCell']) (by unfold maxLen; omega) (by omega) (by have := hBs.size; simp; omega) ?_; intro v' w1q hown' hgrow _; have hB2' := below_appendF hBs hBs.size hoF hgrow)
                    have hown2 := OwnF.snoc hown'
                    have hoI2 := (hoI.alloc _).kept hgrow (apart_rows hoF hoI)
                    clear hown' hgrow
                    go_roundw
                    case rel => exact ⟨1, _, by go_num, by omega, HM2, Lib.hid (by rw [List.length_append, HGl.out]; rfl), hown2, hoI2, hB2'⟩
                    case measure => simp [intOf]; omega
                  · obtain ⟨s, hs⟩ : ∃ s : Nat, p + j = s := ⟨_, rfl⟩
                    have hsI : (p : Int) + (j : Int) = (s : Int) := by omega
                    have hs0 : (s : Int) < (N : Int) := by omega
                    have hs1 : IntKind.i64.wrap (s : Int) = (s : Int) := IntWalk.i64_in _ (by omega)
                    rw [hs] at hq1
                    have hjn : ((j : Int) == 0) = false := by rw [beq_eq_false_iff_ne]; omega
                    have hjn' : ¬ (j : Int) = 0 := by omega
                    have HM2 : Hid (FLags a Z (G ++ [(false, x)]) (j + 1)) := Lib.hid (by have := HM.out; rw [decide_eq_false hj0] at this; exact this)
                    clear HM hs
                    go_wp2_with (at_builtin; refine wpList_append_own _ rfl _ _ 53 rfl w8.heap.size 49 i1 (.agg #[.bool false, .int .i64 0]) 2 16 Tryd.underlying53 hi1 hyy0 hyy1 hyy2 rfl (by decide) _ _ _ rfl (hoF.alloc _) ⟨_, 0, none⟩ 1 1 [.bool false, .int .i64 x] rfl rfl (cell_two_new _ _ _ _) (by simp [Value.oneCell']) (by unfold maxLen; omega) (by omega) (by have := hBs.size; simp; omega) ?_; intro v' w1q hown' hgrow _; have hB2' := below_appendF hBs hBs.size hoF hgrow)
                    have hown2 := OwnF.snoc hown'
                    have hoI2 := (hoI.alloc _).kept hgrow (apart_rows hoF hoI)
                    clear hown' hgrow
                    go_roundw
                    case rel => exact ⟨j + 1, _, by go_num, by omega, HM2, Lib.hid (by rw [List.length_append, HGl.out]; rfl), hown2, hoI2, hB2'⟩
                    case measure => simp [intOf]; omega
                · obtain rfl : j = n := by omega
                  have HC := Lib.hid HG.out.close
                  have hZ2 : Z.length ≤ 202 := by rw [HZl.out]; omega
                  go_wp2_with (at_builtin; refine wpList_append_own _ rfl _ _ 22 rfl w8.heap.size 3 i0 (.int .i64 0) 1 8 Tryd.underlying22 hi hzz0 hzz1 hzz2 rfl (by decide) _ _ _ rfl (hoI.alloc _) ⟨_, 0, none⟩ 1 1 [.int .i64 (j : Int)] rfl rfl (cell_one_new _ _ _) (by simp [Value.oneCell']) (by unfold maxLen; omega) (by omega) (by have := hBs.size; simp; omega) ?_; intro v' w1q hown' hgrow _; have hB2' := below_append hBs hBs.size hoI hgrow)
                  have hown2 := OwnI.snoc hown'
                  have hoF2 := (hoF.alloc _).kept hgrow (apart_rows' hoF hoI)
                  clear hown' hgrow
                  go_roundw
                  case rel => exact ⟨k + 1, p + j, G, Z ++ [(j : Int)], by go_num, by go_num, by omega, Lib.hid (fun h => by have := HLAST.out; omega), by omega, HC, HGl, Lib.hid (by rw [List.length_append, HZl.out]; rfl), hoF2, hown2, hB2'⟩
                  case measure => simp [intOf]; omega
        · obtain rfl : N = p := by omega
          have HZ := Lib.hid (HF.out.segs (by rw [HFl.out, HN.out]) (by rw [HZl.out]; omega) (by rw [HN.out]; omega))
          obtain ⟨A5, c5, rfl, hc5, hs5⟩ := hoI.form
          obtain ⟨A6, c6, rfl, hc6, hs6⟩ := hoF.sl
          rw [HZl.out] at hc5 ⊢
          rw [HFl.out] at hc6 ⊢
          replace hs4 := hs4.step hBr
          replace hB := hB'.trans (hBr.mono hBs8)
          clear hoI hoF hBr hgo hB'
          have CT := thru_segs HaB.out a Z N k HN.out HZl.out Haw.out HZ.out
          have hTHl : (kpK (upL' (doN op) (neN op)) a Z Z.length).length = N := by rw [HZ.out.kp_len (f := upL' (doN op) (neN op)) (fun s => mk_length _ _) _ (Nat.le_refl _), HZ.out.ofs_all, HN.out]
          have HAT : Hid (∀ k, k < N → fth (flL op F) k = (true, nth (kpK (upL' (doN op) (neN op)) a Z Z.length) k)) := Lib.hid (fun k hk => flL_at HaB.out Haw.out HZ.out HF.out k (by rw [HN.out]; exact hk))
          have CF := flagged_ok HaB.out Haw.out HZ.out HF.out N HFl.out
          have hLl : (flL op F).length = N := by rw [flL_length, HFl.out]
          obtain ⟨TH, hTH⟩ : ∃ TH, kpK (upL' (doN op) (neN op)) a Z Z.length = TH := ⟨_, rfl⟩
          obtain ⟨LL, hLL⟩ : ∃ LL, flL op F = LL := ⟨_, rfl⟩
          rw [hTH] at CT hTHl HAT
          rw [hLL] at CF hLl HAT
          have CT := Lib.hid CT; have CF := Lib.hid CF
          have HTHl := Lib.hid hTHl; have HLl := Lib.hid hLl
          clear hTH hLL hTHl hLl
          go_wp2_with fail
          refine (CT.out A4 A5 c5 c4 _ (hI.below hB) hs4 hc4 hs5 hc5).mono ?_
          rintro e w9 ⟨A7, c7, rfl, hc7, hs7, hBx⟩
          rw [HTHl.out] at hc7 ⊢
          replace hs4 := hs4.step hBx
          replace hs6 := hs6.step hBx
          replace hB := hB.trans (hBx.mono hB.size)
          clear hBx CT
          go_wp2_with fail
          refine (CF.out A6 c6 _ (hI.below hB) hs6 hc6).mono ?_
          rintro e w10 ⟨A8, c8, rfl, hc8, hs8, hBx⟩
          rw [HLl.out] at hc8 ⊢
          replace hs7 := hs7.step hBx
          replace hB := hB.trans (hBx.mono hB.size)
          clear hBx CF hs4 hs5 hs6
          go_wp2
          go_loopw [30] (fun i wr => ∃ k : Nat, k ≤ N ∧ i = .int .i64 k ∧ Below w10.heap.size w10 wr) (fun i _ => N - (intOf i).toNat)
          case atStart => exact ⟨0, Nat.zero_le _, rfl, Below.refl _ _⟩
          case round =>
            obtain ⟨k, hk, rfl, hX⟩ := hrel
            by_cases hlt : k < N
            · have hv := HAT.out k hlt
              obtain ⟨b8, o8, rfl, hb8, hq8, hq8'⟩ := (hs8.step hX).at_ (k := k) (by rw [HLl.out]; exact hlt)
              obtain ⟨b7, o7, rfl, hb7, hq7⟩ := (hs7.step hX).at_ (k := k) (by rw [HTHl.out]; exact hlt)
              rw [hv] at hq8 hq8'
              obtain ⟨x, hx⟩ : ∃ x, nth TH k = x := ⟨_, rfl⟩
              rw [hx] at hq7
              simp only [hx] at hq8 hq8'
              have q2 : (0 : Int) ≤ (k : Int) := by omega
              have q3 : (k : Int) < (N : Int) := by omega
              clear hx hv hlt hk
              go_wp2
              obtain ⟨VS, hVS⟩ : ∃ VS : List Value, VS = [.slice (some ⟨b8, o8, none⟩) N c8, .int .i64 (k : Int), .pointer (some ⟨b8, o8 + k * 2, none⟩), .agg #[.bool true, .int .i64 x], .slice (some ⟨b7, o7, none⟩) N c7, .int .i64 (k : Int), .pointer (some ⟨b7, o7 + k, none⟩), .int .i64 x, .agg #[.bool true, .int .i64 x], .bool false] := ⟨_, rfl⟩
              refine wp_region_owv VS (by kernel_rfl) (by kernel_rfl) (by rw [hVS]; rfl) ?_ ?_ ?_
              · subst hVS
                exact v_guard (by kernel_rfl)
              · intro iK oK ho a W hW hdf hin hout
                subst hVS
                match iK, ho with
                | 0, ho =>
                  obtain rfl := Option.some.inj ho
                  have s29 : a.tmps.getD 29 undef = .slice (some ⟨b8, o8, none⟩) N c8 := hout 29 (noDst_spec (by kernel_rfl))
                  refine .inl ⟨.slice (some ⟨b8, o8, none⟩) N c8, W, ?_, Below.refl _ _, rfl⟩
                  go_simp
                | 1, ho =>
                  obtain rfl := Option.some.inj ho
                  have s30 : a.tmps.getD 30 undef = .int .i64 (k : Int) := hout 30 (noDst_spec (by kernel_rfl))
                  refine .inl ⟨.int .i64 (k : Int), W, ?_, Below.refl _ _, rfl⟩
                  go_simp
                | 2, ho =>
                  obtain rfl := Option.some.inj ho
                  have e0 : a.tmps.getD 188 undef = .slice (some ⟨b8, o8, none⟩) N c8 := hin 0 188 rfl (by kernel_rfl)
                  have e1 : a.tmps.getD 189 undef = .int .i64 (k : Int) := hin 1 189 rfl (by kernel_rfl)
                  refine .inl ⟨.pointer (some ⟨b8, o8 + k * 2, none⟩), W, ?_, Below.refl _ _, rfl⟩
                  go_simp
                | 3, ho =>
                  obtain rfl := Option.some.inj ho
                  have e2 : a.tmps.getD 190 undef = .pointer (some ⟨b8, o8 + k * 2, none⟩) := hin 2 190 rfl (by kernel_rfl)
                  have q0 : W.cell? ⟨b8, o8 + k * 2, none⟩ = some (.bool true) := (hW.cell (p := ⟨b8, o8 + k * 2, none⟩) hb8).trans hq8
                  have q1 : W.cell? ⟨b8, o8 + k * 2 + 1, none⟩ = some (.int .i64 x) := (hW.cell (p := ⟨b8, o8 + k * 2 + 1, none⟩) hb8).trans hq8'
                  refine .inl ⟨.agg #[.bool true, .int .i64 x], W, ?_, Below.refl _ _, rfl⟩
                  go_simp
                | 4, ho =>
                  obtain rfl := Option.some.inj ho
                  have s28 : a.tmps.getD 28 undef = .slice (some ⟨b7, o7, none⟩) N c7 := hout 28 (noDst_spec (by kernel_rfl))
                  refine .inl ⟨.slice (some ⟨b7, o7, none⟩) N c7, W, ?_, Below.refl _ _, rfl⟩
                  go_simp
                | 5, ho =>
                  obtain rfl := Option.some.inj ho
                  have s30 : a.tmps.getD 30 undef = .int .i64 (k : Int) := hout 30 (noDst_spec (by kernel_rfl))
                  refine .inl ⟨.int .i64 (k : Int), W, ?_, Below.refl _ _, rfl⟩
                  go_simp
                | 6, ho =>
                  obtain rfl := Option.some.inj ho
                  have e4 : a.tmps.getD 192 undef = .slice (some ⟨b7, o7, none⟩) N c7 := hin 4 192 rfl (by kernel_rfl)
                  have e5 : a.tmps.getD 193 undef = .int .i64 (k : Int) := hin 5 193 rfl (by kernel_rfl)
                  refine .inl ⟨.pointer (some ⟨b7, o7 + k, none⟩), W, ?_, Below.refl _ _, rfl⟩
                  go_simp
                | 7, ho =>
                  obtain rfl := Option.some.inj ho
                  have e6 : a.tmps.getD 194 undef = .pointer (some ⟨b7, o7 + k, none⟩) := hin 6 194 rfl (by kernel_rfl)
                  have q0 : W.cell? ⟨b7, o7 + k, none⟩ = some (.int .i64 x) := (hW.cell (p := ⟨b7, o7 + k, none⟩) hb7).trans hq7
                  refine .inl ⟨.int .i64 x, W, ?_, Below.refl _ _, rfl⟩
                  go_simp
                | 8, ho =>
                  obtain rfl := Option.some.inj ho
                  have e7 : a.tmps.getD 195 undef = .int .i64 x := hin 7 195 rfl (by kernel_rfl)
                  refine .inr ⟨30, #[.int .i64 x], W, ?_, ?_⟩
                  · go_simp
                  · refine (flaggedN_any x W).mono ?_
                    rintro e W' ⟨rfl, hB⟩
                    exact ⟨_, rfl, hB, rfl⟩
                | 9, ho =>
                  obtain rfl := Option.some.inj ho
                  have e3 : a.tmps.getD 191 undef = .agg #[.bool true, .int .i64 x] := hin 3 191 rfl (by kernel_rfl)
                  have e8 : a.tmps.getD 196 undef = .agg #[.bool true, .int .i64 x] := hin 8 196 rfl (by kernel_rfl)
                  refine .inl ⟨.bool false, W, ?_, Below.refl _ _, rfl⟩
                  go_simp
                | iK + 10, ho => cases ho
              intro W1 hW1
              subst hVS
              simp only [putAll, Act.put, List.setIfInBounds_toArray, List.set_cons_zero, List.set_cons_succ]
              go_wp2
              go_roundw
              case rel => exact ⟨k + 1, by omega, by go_num, hX.trans (hW1.mono hX.size)⟩
              case measure => simp [intOf]; omega
            · obtain rfl : k = N := by omega
              have hBe := hB.trans (hX.mono hB.size)
              go_wp2_with fail
              refine (joined_any _ (hI.below hBe)).mono ?_
              rintro e w17 ⟨rfl, hBx⟩
              go_wp2
              go_ret
              exact ⟨rfl, hBe.trans (hBx.mono hBe.size)⟩

/-! ### the row and the card -/
set_option maxRecDepth 100000
theorem own : ownKnob Tryd.prog.godebug = none := by kernel_rfl
theorem door_met (os : Os) (args : Array Value) : laidMetH Tryd.prog Rows.scanFlaggedRow.laid ((World.doorLaid Tryd.prog 61 os).forCall (fun _ _ => 0) ⟨#[], args, []⟩).memory :=
  laidMetH_of_parts3 (fuel := 8) (laidMet_of_run' 8 (by kernel_rfl) (by kernel_rfl)) (by kernel_rfl) (by kernel_rfl)
theorem lifted (os : Os) (started : os.Started) (H : Type) (enc : TypeId × Value → H) :
    ReturnsInHanded {} Tryd.checked os 7 .any (fun w args => (Rows.scanFlaggedSpec.pre enc Tryd.prog Tryd.f7 [] false w args ∧ laidMetH Tryd.prog Rows.scanFlaggedRow.laid w) ∧ sizedMet enc Tryd.prog Tryd.f7 (OpenSpec.ofChange Rows.scanFlaggedSpec) false w args)
      (Rows.scanFlaggedSpec.post enc Tryd.prog Tryd.f7 false true false false) := by
  refine returnsInHanded_of_change_and (C := Tryd.checked) (X := fun w _ => laidMetH Tryd.prog Rows.scanFlaggedRow.laid w) (fun _ _ _ hh h => h.of_heap hh) own started (by kernel_rfl) Tryd.func7
    (ChangeSpec.witness_shaped (enc := enc) (C := Tryd.checked) (os := os) (X := fun w _ => laidMetH Tryd.prog Rows.scanFlaggedRow.laid w) false (World.doorLaid Tryd.prog 61 os) #[.int .i64 0, .slice none 0 0, .slice none 0 0, .agg #[.bool false, .int .i64 0, .bool false, .int .i64 0, .bool false, .int .i64 0]] 8 rfl (World.shaped_of_RefB (by kernel_rfl) (by kernel_rfl)) (by kernel_rfl) (by kernel_rfl) (by kernel_rfl) (door_met os _)) ?_
  intro W base args ds gs before hval0 hW _ _ hL _
  have hval : ∀ (j : Nat) t v, Tryd.f7.params[j]? = some t → args[j]? = some v → Value.okWide Tryd.prog W .any base t v := hval0
  have hW' := hW
  obtain ⟨p, q, hA0, hV, rfl, hfz, hnd⟩ := hW
  have hA : DataW.TrodAll enc Tryd.prog W 0 (fun _ => true) true Tryd.f7.params.toList args.toList ds p := hA0
  rw [Tryd.params7] at hA hval
  obtain ⟨v0, vs0, d0, ds0, p0, q0, hargs, rfl, rfl, h0, r0⟩ := trodAll_cons hA
  obtain ⟨v1, vs1, d1, ds1, p1, q1, rfl, rfl, rfl, h1, r1⟩ := trodAll_cons r0
  obtain ⟨v2, vs2, d2, ds2, p2, q2, rfl, rfl, rfl, h2, r2⟩ := trodAll_cons r1
  obtain ⟨v3, vs3, d3, ds3, p3, q3, rfl, rfl, rfl, h3, r3⟩ := trodAll_cons r2
  obtain ⟨rfl, rfl, rfl⟩ := trodAll_nil r3
  obtain rfl : args = #[v0, v1, v2, v3] := by cases args; simp_all
  obtain ⟨rfl, rfl⟩ := trodVars_none hV
  clear hA0 hval0
  simp only [List.append_nil] at hW'
  obtain ⟨a0, rfl, rfl, rfl, w0⟩ := open_int Tryd.underlying3 (hval 0 3 v0 rfl rfl) h0
  have hlt1 : ∀ x ∈ p1, x.block < W.heap.size := fun x hx => by simpa using hW'.lt x (by simp [hx])
  have hg1 : ∀ (W' : World), Below W.heap.size W W' → DataW.Trod enc Tryd.prog W' 0 (fun b => decide (b < W.heap.size)) true 22 v1 d1 p1 :=
    fun W' hn => Below.trod Tryd.laidOut (by kernel_rfl) (of_decide_eq_true (by kernel_rfl)) h1 hn hlt1
  obtain ⟨A1, c1, z1, rfl, hle1, hmx1, hS1, hR1⟩ := open_sl (hval 1 22 v1 rfl rfl) h1 hlt1
  have hlt2 : ∀ x ∈ p2, x.block < W.heap.size := fun x hx => by simpa using hW'.lt x (by simp [hx])
  have hg2 : ∀ (W' : World), Below W.heap.size W W' → DataW.Trod enc Tryd.prog W' 0 (fun b => decide (b < W.heap.size)) true 22 v2 d2 p2 :=
    fun W' hn => Below.trod Tryd.laidOut (by kernel_rfl) (of_decide_eq_true (by kernel_rfl)) h2 hn hlt2
  obtain ⟨A2, c2, z2, rfl, hle2, hmx2, hS2, hR2⟩ := open_sl (hval 2 22 v2 rfl rfl) h2 hlt2
  obtain ⟨p30, p31, p32, x30, x31, x32, rfl, rfl, rfl, w30, w31, w32⟩ := open_arr3f (hval 3 50 v3 rfl rfl) h3
  refine (walk a0 A1 c1 z1 A2 c2 z2 p30 p31 p32 x30 x31 x32 W (of_laid hL) hS1 hle1 (by unfold Ok; omega) hS2 hle2 (by unfold Ok; omega)).mono fun e W' ⟨he, hB⟩ => ?_
  subst he
  exact ⟨_, rfl, _, _, _, [], _, [], hW', trodAll_cons_mk (shut_bool Tryd.underlying4 _) trodAll_mk0, trodAll_cons_mk (shut_int Tryd.underlying3 w0) (trodAll_cons_mk (hg1 _ hB) (trodAll_cons_mk (hg2 _ hB) (trodAll_cons_mk (shut_arr3f w30 w31 w32) trodAll_mk0))), rfl, hB.frame _, fun h => by cases h⟩
theorem holds : Rows.ScanFlaggedSaid :=
  OpenClaim.holds_of_wide 7 Tryd.f7 rfl rfl rfl rfl rfl rfl rfl ⟨rfl, rfl, rfl, rfl, rfl⟩ rfl rfl rfl rfl rfl (by kernel_rfl) Tryd.func7 (by kernel_rfl)
    (of_decide_eq_true (by kernel_rfl)) (by unfold Func.isWrapper; first | (rw [if_pos (by decide +kernel)]; kernel_rfl) | (rw [if_neg (by decide +kernel)]; exact ⟨rfl, rfl⟩))
    (fun os started H enc _ => lifted os started H enc)
theorem proved : Rows.ScanFlaggedCardSaid :=
  Claim7.holds_tied_plain_at .later [] [.data] true (true, "165e170aa6ce182620764f5d03f9346384cc021ccbd43512c2f1c96f23b5a8e5") false
    holds (fun _ h => by cases h) (by kernel_rfl) (fun _ h => by cases h) scanFlagged_row_tie rfl ⟨rfl, rfl⟩ (by kernel_rfl) rfl
    (fun f fn hf hfn => by
      obtain rfl : f = 7 := Option.some.inj ((show Tryd.prog.funcNamed "sheafworks/sheafworkslaw05.ScanFlagged" = some 7 by kernel_rfl).symm.trans hf) |>.symm
      obtain rfl : fn = Tryd.f7 := (Option.some.inj (Tryd.func7.symm.trans hfn)).symm
      exact ⟨by kernel_rfl, fun j t ht => by
        rw [Tryd.params7] at ht
        have hm : t ∈ [3, 22, 22, 50] := by
          have := Array.mem_of_getElem? ht
          simpa using this
        have hall : ([3, 22, 22, 50].all fun u => !Tryd.prog.wantsStandIn u) = true := by kernel_rfl
        exact (show Tryd.prog.wantsStandIn t = false by simpa using List.all_eq_true.1 hall t hm)⟩)
    (by kernel_rfl)
#print axioms proved
end Go.Proofs.YtecpanppnljkhaaDoor.scanFlagged
