/- Depth (the program's side). -/
import Derived.Test.YtcbkocjpkdcpfaaMc
import Derived.Test.YtcbkocjpkdcpfaaSe
namespace Go.Proofs.Ytcbkocjpkdcpfaa
set_option linter.unusedVariables false
open Go.RowKit Go.Shelf

attribute [local go_sem] Oper.semAt_some
theorem run_makeMap_none {P : Program} (t k e : TypeId) (ht : P.underlying t = some (.map k e)) (w : World) :
    (Instr.makeMap t none).run P w = .ok (.map (some w.heap.size)) (w.alloc (.map #[] 0)) := by
  simp [Instr.makeMap]
theorem grown_drew {a b : World} {row : Option Nat} (h : a.drew.grownBy b row) : a.grownBy b row := ⟨h.os, h.tape, h.output, h.size, h.block⟩
set_option maxRecDepth 100000 in
theorem MapIs.look_run {w : World} {b n : Nat} {f : Int → Int} (h : MapIs w b n f) (key : Int) (hk : (Lit.int .i64 key).wf = true) : (Instr.lookup 58 (.map (some b)) (.int .i64 key) false).run Try.prog w = .ok (.int .i64 (f key)) w := by
  obtain ⟨D, h1, h2, h3⟩ := h
  obtain ⟨c, hrun, hat, _⟩ := h2.lookup_int int_law Try.underlying58 Try.underlying3 (zero3 w) (Maps.keyOf_int_mk Try.underlying3 hk)
  rw [h3] at hat
  injection hat with hat
  injection hat with _ hat
  rw [hat]
  exact hrun
set_option maxRecDepth 100000 in
theorem MapIs.put_run {w : World} {b n : Nat} {f : Int → Int} (h : MapIs w b n f) (hn : n < maxLen) (key val : Int) (hk : (Lit.int .i64 key).wf = true) (hvw : (Lit.int .i64 val).wf = true) :
    ∃ w' u, (Instr.mapUpdate 58 (.map (some b)) (.int .i64 key) (.int .i64 val)).run Try.prog w = .ok u w' ∧ MapIs w' b (n + 1) (fun y => if y = key then val else f y) ∧ w.grownBy w' (some b) := by
  obtain ⟨D, h1, h2, h3⟩ := h
  obtain ⟨w', hrun, ho, hgr⟩ := h2.update int_law Try.underlying58 hn (Maps.keyOf_int_mk Try.underlying3 hk) (plainElem_int Try.underlying3 hvw)
  refine ⟨w', _, hrun, ⟨_, h1.put _ _, ho, fun y => ?_⟩, hgr⟩
  by_cases e : y = key
  · subst e
    simp only [if_true]
    exact Maps.atKey_put_same h1 (show WideAt.IsKeyLit (Lit.int .i64 y) from trivial) _ _
  · simp only [if_neg e]
    rw [Maps.atKey_put_other (by simpa using e)]
    exact h3 y

set_option maxRecDepth 100000 in
set_option maxHeartbeats 2000000 in
theorem depth_ok (A A' : Option Addr) (c c' N : Nat) (ss ls : List Int) (w : World) (h : Sl w A ss) (h' : Sl w A' ls) (hP : Pool ss ls N) (he : shE ss ls N = 0) (hb : ∀ j, j < ls.length → nth ls j ≤ 9223372036854775807) :
    Calls Try.prog 28 #[.slice A ss.length c, .slice A' ls.length c', .int .i64 N] w (RetV w (.tuple #[.int .i64 (mxL (cntL N (plL ss ls))), .int .i64 0])) := by
  have hmm := fun W => run_makeMap_none (P := Try.prog) 58 3 3 Try.underlying58 W
  have hM := hP.many
  have hN := hP.size
  have C1 := shared_any A A' c c' ss ls N w h h' (by omega) (by rw [hP.len]; omega) hb
  rw [he] at C1
  have HL := Lib.hid hP.len
  obtain ⟨T, hT⟩ : ∃ T, shN ss ls N = T := ⟨_, rfl⟩
  rw [hT] at C1
  clear hT hb he
  refine (callsIn_wide (n := 8)).1 ?_
  refine callsIn_of_wp_marks Try.func28 rfl trivial ?_ rfl
  simp only [Try.ntmps28, List.size_toArray, List.length_cons, List.length_nil, Nat.reduceAdd, Nat.reduceSub, Array.replicate_succ, Array.replicate_zero, List.push_toArray, List.append_toArray, List.nil_append, List.cons_append]
  gi_wp2_with (first | (refine ⟨trivial, ?_⟩; gi_at_call 27; refine (callsIn_wide.2 C1).mono ?_; rintro e w1 ⟨rfl, hB1⟩; have hs1 := hB1.size) | (refine ⟨trivial, ?_⟩; gi_at_call 53; refine (callsIn_wide.2 (parts_any _ _ _ _ _ _ _)).mono ?_; rintro e w' ⟨rfl, rfl⟩))
  have mM := (((MapIs.made w1).alloc (.cells #[.map (some w1.heap.size)] 58)).alloc (.cells #[.slice A ss.length c] 22)).alloc (.cells #[.slice A' ls.length c'] 22)
  have bM := ((Blk.new (w1.alloc (.map #[] 0)) 58 #[.map (some w1.heap.size)]).alloc (.cells #[.slice A ss.length c] 22)).alloc (.cells #[.slice A' ls.length c'] 22)
  have b1 := (Blk.new ((w1.alloc (.map #[] 0)).alloc (.cells #[.map (some w1.heap.size)] 58)) 22 #[.slice A ss.length c]).alloc (.cells #[.slice A' ls.length c'] 22)
  have b2 := Blk.new (((w1.alloc (.map #[] 0)).alloc (.cells #[.map (some w1.heap.size)] 58)).alloc (.cells #[.slice A ss.length c] 22)) 22 #[.slice A' ls.length c']
  simp only [World.size_alloc] at bM b1 b2
  have hB0 : Below w.heap.size w ((((w1.alloc (.map #[] 0)).alloc (.cells #[.map (some w1.heap.size)] 58)).alloc (.cells #[.slice A ss.length c] 22)).alloc (.cells #[.slice A' ls.length c'] 22)) := (((hB1.alloc hs1 _).alloc (by simp; omega) _).alloc (by simp; omega) _).alloc (by simp; omega) _
  have hsz : w1.heap.size + 4 ≤ ((((w1.alloc (.map #[] 0)).alloc (.cells #[.map (some w1.heap.size)] 58)).alloc (.cells #[.slice A ss.length c] 22)).alloc (.cells #[.slice A' ls.length c'] 22)).heap.size := by simp
  obtain ⟨W0, hW0⟩ : ∃ W0, (((w1.alloc (.map #[] 0)).alloc (.cells #[.map (some w1.heap.size)] 58)).alloc (.cells #[.slice A ss.length c] 22)).alloc (.cells #[.slice A' ls.length c'] 22) = W0 := ⟨_, rfl⟩
  rw [hW0] at mM bM b1 b2 hB0 hsz ⊢
  clear hW0 C1 hmm
  refine wpIn_rangeFunc_ownH rfl (by omega) (gf := 64) (lb := #[.pointer (some ⟨w1.heap.size + 1 + 1, 0, none⟩), .pointer (some ⟨w1.heap.size + 1 + 1 + 1, 0, none⟩)]) rfl trivial (enters_of Try.func64 (by kernel_rfl) rfl)
    (parts_stops Fence.wide (8 - 1) trivial rfl (by omega) (w1.heap.size + 1 + 1) (w1.heap.size + 1 + 1 + 1) w.heap.size c c' A A' ss ls hM HL.out W0 w rfl hB0 (by omega) b1 b2 h h') kpB_t (kpB_b (by omega) (by omega)) (Below.refl _ _) (fun _ => rfl)
    (fun pre W => Blk W (w1.heap.size + 1) 58 #[.map (some w1.heap.size)] ∧ MapIs W w1.heap.size (pre.length + pre.length) (moF ss ls pre) ∧ Blk W (w1.heap.size + 1 + 1 + 1) 22 #[.slice A' ls.length c'] ∧ Below w.heap.size w W)
    (fun _ _ _ => False)
    (fun _ X Y row hs hg hr => ⟨hs.1.aside hg hr, hs.2.1.aside (by omega) hg hr, hs.2.2.1.aside hg hr, below_aside hs.2.2.2 (Nat.le_refl _) (by omega) hg hr⟩)
    (fun _ _ _ _ _ hs _ _ => hs)
    ⟨bM, by rw [moF_nil]; exact mM, b2, hB0⟩
    (fun x a' W => ∃ (Bx : Nat), w1.heap.size + 3 < Bx ∧ Blk W Bx 52 #[.int .i64 (nth ss x.val), .int .i64 (nth ls x.val)] ∧ a' = ⟨#[Value.slice A ss.length c, Value.slice A' ls.length c', Value.int IntKind.i64 ↑N, undef, undef, undef, Value.int IntKind.i64 0, Value.int IntKind.i64 0, Value.int IntKind.i64 T, Value.int IntKind.i64 0, Value.pointer (some { block := w1.heap.size + 1, off := 0 }), .pointer (some ⟨Bx, 0, none⟩), undef, undef, undef, Value.tuple #[Value.int IntKind.i64 T, Value.int IntKind.i64 0], Value.slice A ss.length c, Value.slice A' ls.length c', Value.int IntKind.i64 ↑N, Value.tuple #[Value.int IntKind.i64 T, Value.int IntKind.i64 0], Value.int IntKind.i64 T, Value.int IntKind.i64 0, Value.int IntKind.i64 0, Value.bool false, undef, Value.map (some w1.heap.size), Value.slice A ss.length c, Value.slice A' ls.length c', Value.func (Fn.func 64) #[] #[Value.pointer (some { block := w1.heap.size + 1 + 1, off := 0 }), Value.pointer (some { block := w1.heap.size + 1 + 1 + 1, off := 0 })], .agg #[.int .i64 (nth ss x.val), .int .i64 (nth ls x.val)], undef, undef, undef, undef, undef, undef, undef, undef, undef, undef, undef, undef, undef, undef, undef, undef, undef, undef, undef, undef, undef, undef, undef, undef], []⟩)
    (fun x a' _ X Y row hs hg hr => by obtain ⟨Bx, h1, h2, h3⟩ := hs; exact ⟨Bx, h1, h2.aside hg hr, h3⟩)
    ?assign ?body ?done ?stop
  case assign =>
    rintro l pre x W K ⟨i1, i2, i5, i3⟩ hK
    have hlt := i5.lt
    have hsw := i3.size
    simp only [partV]
    gi_wp2
    exact hK _ _ ((KeepsOthers.alloc _ _).from _) ⟨(Below.refl _ W).alloc i3.size _, Below.heap_alloc W _ _ hlt⟩ ⟨i1.alloc _, i2.alloc _, i5.alloc _, i3.alloc i3.size _⟩ ⟨W.heap.size, by omega, Blk.new W 52 _, rfl⟩
  case body =>
    rintro l pre x a' W hl ⟨r, hr⟩ ⟨i1, i2, i5, i3⟩ ⟨Bx, hBx, bX, rfl⟩ hlt
    have c1 := i1.cell 0
    have c2 := bX.cell 0
    have c3 := bX.cell 1
    have hx := x.isLt
    have hat := hP.at_ x.val hx
    have hh1 := moF_le ss ls pre (nth ss x.val)
    have hh2 := moF_le ss ls pre (nth ss x.val + nth ls x.val)
    have HS := Lib.hid (moF_snoc ss ls pre x)
    have l1 := i1.lt
    have lX := bX.lt
    have l5 := i5.lt
    have hsw := i3.size
    obtain ⟨s, hs⟩ : ∃ s, nth ss x.val = s := ⟨_, rfl⟩
    obtain ⟨q, hq⟩ : ∃ q, nth ls x.val = q := ⟨_, rfl⟩
    rw [hs] at c2 bX hat hh1 hh2 HS ⊢
    rw [hq] at c3 bX hat hh2 HS ⊢
    obtain ⟨f, hf⟩ : ∃ f, moF ss ls pre = f := ⟨_, rfl⟩
    rw [hf] at i2 hh1 hh2 HS
    clear hs hq hf
    simp at c1 c2 c3
    gi_wp2_with (first | (gi_at_lookup; refine wpListIn_look rfl _ _ rfl w1.heap.size (pre.length + pre.length) _ i2 rfl _ rfl (WalkArith.wf_i64 (by omega)) ?_) | (gi_at_mapUpdate; refine wpListIn_put rfl _ _ _ rfl w1.heap.size (pre.length + pre.length) _ i2 rfl (by unfold maxLen; omega) _ _ rfl rfl (WalkArith.wf_i64 (by omega)) (WalkArith.wf_i64 (by omega)) ?_; intro w3 i2' hgr))
    refine wpIn_mono (Q := fun e a' w' => e = .normal ∧ (MapIs w' w1.heap.size (pre.length + pre.length + 1 + 1) (fun y => if y = s + q then (if s + q = s then f s + 1 else f (s + q)) - 1 else if y = s then f s + 1 else f y) ∧ w3.grownBy w' (some w1.heap.size))) ?region ?rest
    case region =>
      have c1' := (i1.grown hgr (by simp)).cell 0
      have c2' := (bX.grown hgr (by simp; omega)).cell 0
      have c3' := (bX.grown hgr (by simp; omega)).cell 1
      have bX' := bX.grown hgr (by simp; omega)
      have c1a := ((i1.grown hgr (by simp)).alloc (.cells #[.int .i64 s, .int .i64 q] 52)).cell 0
      have hl3 := (i1.grown hgr (by simp)).lt
      simp at c1' c2' c3' c1a
      have hv : -10000000 ≤ (if s + q = s then f s + 1 else f (s + q)) ∧ (if s + q = s then f s + 1 else f (s + q)) ≤ 10000000 := by
        split <;> omega
      obtain ⟨v, Hv⟩ : ∃ v, Hid ((if s + q = s then f s + 1 else f (s + q)) = v) := ⟨_, Lib.hid rfl⟩
      rw [Hv.out] at hv ⊢
      have hb1 : -1000000000 ≤ s := by omega
      have hb2 : s ≤ 1000000000 := by omega
      have hb3 : -1000000000 ≤ q := by omega
      have hb4 : q ≤ 1000000000 := by omega
      have hwf1 := WalkArith.wf_i64 (n := s + q) (by omega)
      have hwf2 := WalkArith.wf_i64 (n := v - 1) (by omega)
      have hlm : pre.length + pre.length + 1 < maxLen := by unfold maxLen; omega
      have hmix : Try.prog.follows .mixedOrders = true := by kernel_rfl
      have m4 : MapIs ((w3.alloc (.cells #[.int .i64 s, .int .i64 q] 52)).drew) w1.heap.size (pre.length + pre.length + 1) (fun y => if y = s then f s + 1 else f y) := (i2'.alloc _).drew
      have hlk := m4.look_run (s + q) hwf1
      rw [show (if s + q = s then f s + 1 else f (s + q)) = v from Hv.out] at hlk
      have hwv : IntKind.i64.wrap (v - 1) = v - 1 := IntWalk.i64_in _ (by omega)
      obtain ⟨w5, u5, hup, m5, g5⟩ := m4.put_run hlm (s + q) (v - 1) hwf1 hwf2
      have g6 : w3.grownBy w5 (some w1.heap.size) := (World.grownBy_alloc w3 _ _).trans (grown_drew g5)
      clear i2' m4 g5
      clear i1 i2 i3 i5 hl hr hlt b1 b2 bM mM hB0 hB1 h h' hP c1 c2 c3 hat hh1 hh2 HS hgr l1 lX l5 bX hs1 hsz hsw hx HL hM hN
      gi_region_with_o (first | (refine ⟨trivial, ?_⟩; gi_at_call 50; refine (CallsIn.inRound l (callsIn_wide.2 (end_any s q _ hb1 hb2 hb3 hb4))).mono ?_; rintro e w' ⟨rfl, rfl⟩))
      all_goals exact ⟨rfl, m5, g6⟩
    case rest =>
      rintro e a' w5 ⟨rfl, j2, hg5⟩
      rw [HS.out] at j2
      have hgt := hgr.trans hg5
      gi_wp2
      refine ⟨KeepsFrom.of_grownBy hgt (fun j e => by cases e; omega), ⟨(Below.refl _ W).grown hgt i3.size (fun k e => by cases e; omega), hgt.block _ l5 (by simp; omega)⟩, i1.grown hgt (by simp), ?_, i5.grown hgt (by simp; omega), i3.grown hgt i3.size (fun k e => by cases e; omega)⟩
      rw [show (pre ++ [x]).length + (pre ++ [x]).length = pre.length + pre.length + 1 + 1 by simp; omega]
      exact j2
  case done =>
    rintro D ys' W hD rfl ⟨i1, i2, i5, i3⟩ hK
    have c1 := i1.cell 0
    simp at c1
    have hLN := cntL_length N (plL ss ls)
    have hbd : ∀ k, 0 ≤ moS ss ls (List.finRange ss.length) k ∧ moS ss ls (List.finRange ss.length) k ≤ 1048576 := by
      intro k
      cases k with
      | zero => simp [moS]
      | succ k =>
        rw [moS_all hP k]
        have h1 := plL_length hP
        have h2 := hP.sum
        have h3 := List.count_le_length (a := (k : Int)) (l := plL ss ls)
        omega
    gi_wp2
    gi_loopw [12, 13, 41] (fun d m i wr => ∃ k : Nat, k ≤ N ∧ i = .int .i64 k ∧ d = .int .i64 (moS ss ls (List.finRange ss.length) k) ∧ m = .int .i64 (mxK (cntL N (plL ss ls)) k) ∧ wr = W) (fun _ _ i _ => N - (intOf i).toNat)
    case atStart => exact ⟨0, Nat.zero_le _, rfl, rfl, rfl, rfl⟩
    case round =>
      obtain ⟨k, hk, rfl, rfl, rfl, rfl⟩ := hrel
      by_cases hlt : k < N
      · have HX := Lib.hid (mxK_succ (cntL N (plL ss ls)) k (by rw [hLN]; exact hlt))
        have hb1 := hbd k
        have hb2 := hbd (k + 1)
        have HM := Lib.hid (show moS ss ls (List.finRange ss.length) (k + 1) = nth (cntL N (plL ss ls)) k by rw [moS_all hP k, nth_cntL _ _ _ hlt])
        have HS : Hid (moS ss ls (List.finRange ss.length) (k + 1) = moS ss ls (List.finRange ss.length) k + moF ss ls (List.finRange ss.length) (k : Int)) := Lib.hid rfl
        have hf := moF_le ss ls (List.finRange ss.length) (k : Int)
        rw [List.length_finRange] at hf
        obtain ⟨a, ha⟩ : ∃ a, mxK (cntL N (plL ss ls)) k = a := ⟨_, rfl⟩
        obtain ⟨b, hb⟩ : ∃ b, nth (cntL N (plL ss ls)) k = b := ⟨_, rfl⟩
        obtain ⟨d, hd⟩ : ∃ d, moS ss ls (List.finRange ss.length) k = d := ⟨_, rfl⟩
        rw [ha, hb] at HX
        rw [hb] at HM
        rw [HM.out, hd] at HS
        rw [HM.out] at hb2
        rw [hd] at hb1
        rw [ha, hd]
        obtain ⟨y, Hy⟩ : ∃ y, Hid (moF ss ls (List.finRange ss.length) (k : Int) = y) := ⟨_, Lib.hid rfl⟩
        rw [Hy.out] at hf HS
        have HD := Lib.hid (show d + y = b from HS.out.symm)
        have hdy : 0 ≤ d + y ∧ d + y ≤ 1048576 := by rw [HD.out]; exact hb2
        clear ha hb hd hLN hbd
        have hk1 : (0 : Int) ≤ (k : Int) := by omega
        have hk2 : (k : Int) < (N : Int) := by omega
        by_cases hab : a ≤ d + y
        · have HX2 : Hid (mxK (cntL N (plL ss ls)) (k + 1) = d + y) := Lib.hid (by rw [HX.out, HD.out]; have := HD.out; omega)
          gi_wp2_with (gi_at_lookup; refine wpListIn_look rfl _ _ rfl w1.heap.size _ _ i2 rfl _ rfl (WalkArith.wf_i64 (by omega)) ?_; rw [Hy.out])
          go_roundw
          case rel => exact ⟨k + 1, by omega, by go_num, by rw [HM.out, ← HD.out], by rw [HX2.out]; congr 1; split <;> omega, trivial⟩
          case measure => simp [intOf]; omega
        · have HX2 : Hid (mxK (cntL N (plL ss ls)) (k + 1) = a) := Lib.hid (by rw [HX.out]; have := HD.out; omega)
          gi_wp2_with (gi_at_lookup; refine wpListIn_look rfl _ _ rfl w1.heap.size _ _ i2 rfl _ rfl (WalkArith.wf_i64 (by omega)) ?_; rw [Hy.out])
          go_roundw
          case rel => exact ⟨k + 1, by omega, by go_num, by rw [HM.out, ← HD.out], by rw [HX2.out]; congr 1; split <;> omega, trivial⟩
          case measure => simp [intOf]; omega
      · obtain rfl : k = N := by omega
        have HX : Hid (mxK (cntL k (plL ss ls)) k = mxL (cntL k (plL ss ls))) := Lib.hid (by unfold mxL; rw [hLN])
        have j3 := below_aside (B := w.heap.size) i3 (Nat.le_refl _) (Nat.le_refl _) (grownBy_putObj' wr D (.deferred none)) (fun r e => by cases e; exact ⟨by have := hB0.size; omega, _, hK, rfl⟩)
        clear hLN hbd
        gi_wp2
        refine ⟨by simp, .inl ⟨_, _, rfl, run_takeDeferred hK, ?_⟩⟩
        refine ⟨.tuple #[.int .i64 (mxK (cntL k (plL ss ls)) k), .int .i64 0], by simp [results, Try.f28, go_sem], ?_⟩
        rw [HX.out]
        exact ⟨rfl, j3⟩
  case stop =>
    rintro D c pre W _ _ h _
    exact h.elim

set_option maxRecDepth 100000 in
set_option maxHeartbeats 2000000 in
theorem depth_any (A A' : Option Addr) (c c' : Nat) (ss ls : List Int) (n : Int) (w : World) (h : Sl w A ss) (h' : Sl w A' ls) (hls : ss.length ≤ 9223372036854775807) (hll : ls.length ≤ 9223372036854775807) (hb : ∀ j, j < ls.length → nth ls j ≤ 9223372036854775807) :
    Calls Try.prog 28 #[.slice A ss.length c, .slice A' ls.length c', .int .i64 n] w (RetV w (.tuple #[.int .i64 (if shE ss ls n = 0 then mxL (cntL n.toNat (plL ss ls)) else 0), .int .i64 (shE ss ls n)])) := by
  by_cases he : shE ss ls n = 0
  · rw [if_pos he, he]
    obtain ⟨N, rfl, hP, hs⟩ := Pool.of he
    exact depth_ok A A' c c' N ss ls w h h' hP he hb
  · have C1 := shared_any A A' c c' ss ls n w h h' hls hll hb
    have hd : (shE ss ls n != 0) = true := by rw [bne_iff_ne]; exact he
    rw [if_neg he]
    clear he hb
    refine (callsIn_wide (n := 8)).1 ?_
    refine callsIn_of_wp_marks Try.func28 rfl trivial ?_ rfl
    simp only [Try.ntmps28, List.size_toArray, List.length_cons, List.length_nil, Nat.reduceAdd, Nat.reduceSub, Array.replicate_succ, Array.replicate_zero, List.push_toArray, List.append_toArray, List.nil_append, List.cons_append]
    gi_wp2_with (refine ⟨trivial, ?_⟩; gi_at_call 27; refine (callsIn_wide.2 C1).mono ?_; rintro e w1 ⟨rfl, hB1⟩)
    exact ⟨.tuple #[.int .i64 0, .int .i64 (shE ss ls n)], by simp [results, Try.f28, go_sem], rfl, hB1⟩
end Go.Proofs.Ytcbkocjpkdcpfaa
