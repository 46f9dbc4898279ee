/- placesOf, over whatever iterator over spans; Places. -/
import Derived.Test.YtcbkocjpkdcpfaaTe
namespace Go.Proofs.Ytcbkocjpkdcpfaa
set_option linter.unusedVariables false
open Go.RowKit Go.Shelf

attribute [local go_sem] Oper.semAt_some
def gpP {n : Nat} (S L : Fin n → Int) (pre : List (Fin n)) : List Int := pre.flatMap fun x => plS (S x) (L x)
theorem gpP_snoc {n : Nat} (S L : Fin n → Int) (pre : List (Fin n)) (x : Fin n) : gpP S L (pre ++ [x]) = gpP S L pre ++ plS (S x) (L x) := by simp [gpP]
theorem retS_sl {w W : World} {A : Option Addr} {T c : Nat} {zs : List Int} (hT : zs.length = T) (hc : T ≤ c) (h : Sl W A zs) (hB : Below w.heap.size w W) : RetS w zs (.returned (.slice A T c)) W := by
  subst hT
  exact ⟨_, _, rfl, hc, h, hB⟩

set_option maxRecDepth 100000 in
set_option maxHeartbeats 2000000 in
theorem placesOf_gen {n : Nat} (hn : n ≤ 1048576) (S L : Fin n → Int) (hSL : ∀ x, 0 ≤ S x ∧ S x ≤ 1048576 ∧ 0 ≤ L x ∧ L x ≤ 1048576) (gf : Nat) (lb : Array Value) (w : World)
    (eg : ∀ args w, (callFunc gf args).run Try.prog w = .ok (.enter gf args) w) {Kp : World → World → Prop} {Sp : List (Fin n) → Prop}
    (hseq : SeqStopsK Fence.wide (8 - 1) Try.prog gf lb (fun x => #[.agg #[.int .i64 (S x), .int .i64 (L x)]]) Kp (fun ys => ys = List.finRange n) Sp n (w.alloc (.cells #[.slice none 0 0] 22)))
    (hKt : ∀ {A B C : World}, Kp A B → Kp B C → Kp A C) (hKb : ∀ (W : World) (l : Nat) (o o' : Obj), w.heap.size + 1 ≤ l → W.heap[l]? = some o → o.isCells = false → o.isWalk = false → Kp W (W.putObj l o'))
    (hKp : ∀ W W', Below w.heap.size W W' → Kp W W') :
    Calls Try.prog 56 #[.func (.func gf) #[] lb] w (RetS w (gpP S L (List.finRange n))) := by
  obtain ⟨i0, hi, hz0, hz1, hz2⟩ := info_parts int_info
  refine (callsIn_wide (n := 8)).1 ?_
  refine callsIn_of_wp_marks Try.func56 rfl trivial ?_ rfl
  simp only [Try.ntmps56, List.size_toArray, List.length_cons, List.length_nil, Nat.reduceAdd, Nat.reduceSub, Array.replicate_succ, Array.replicate_zero, List.push_toArray, List.append_toArray, List.nil_append, List.cons_append]
  gi_wp2
  have bB := Blk.new w 22 #[.slice none 0 0]
  have hB0 : Below w.heap.size w (w.alloc (.cells #[.slice none 0 0] 22)) := (Below.refl _ w).alloc (Nat.le_refl _) _
  have hsz : (w.alloc (.cells #[.slice none 0 0] 22)).heap.size = w.heap.size + 1 := by simp
  obtain ⟨W0, hW0⟩ : ∃ W0, w.alloc (.cells #[.slice none 0 0] 22) = W0 := ⟨_, rfl⟩
  rw [hW0] at bB hB0 hseq hsz ⊢
  clear hW0
  refine wpIn_rangeFunc_ownH rfl (by omega) (gf := gf) (lb := lb) rfl trivial eg hseq hKt (fun W l o o' hl => hKb W l o o' (by omega)) (Below.refl _ _) (fun _ => rfl)
    (fun pre W => (∃ v, Blk W w.heap.size 22 #[v] ∧ OwnI W w.heap.size v (gpP S L pre)) ∧ ((gpP S L pre).length : Int) ≤ (pre.length : Int) * 1048576 ∧ Below w.heap.size w W)
    (fun _ _ _ => False)
    (fun _ X Y row hs hg hr => by obtain ⟨⟨v, h1, h2⟩, h3, h4⟩ := hs; exact ⟨⟨v, h1.aside hg hr, h2.aside hg hr⟩, h3, below_aside h4 (Nat.le_refl _) (by omega) hg hr⟩)
    (fun _ _ _ _ _ hs _ _ => hs)
    ⟨⟨_, bB, OwnI.nil _ _⟩, by simp [gpP], hB0⟩
    (fun x a' W => ∃ Bx, w.heap.size < Bx ∧ Blk W Bx 52 #[.int .i64 (S x), .int .i64 (L x)] ∧ a' = ⟨#[.func (.func gf) #[] lb, undef, .slice none 0 0, .pointer (some ⟨w.heap.size, 0, none⟩), .pointer (some ⟨Bx, 0, none⟩), undef, .func (.func gf) #[] lb, .agg #[.int .i64 (S x), .int .i64 (L x)], undef, undef, undef, undef, undef, undef, undef, undef, undef, undef, undef, undef, undef, undef, undef, undef, undef, undef, undef], []⟩)
    (fun x a' _ X Y row hs hg hr => by obtain ⟨Bx, h1, h2, h3⟩ := hs; exact ⟨Bx, h1, h2.aside hg hr, h3⟩)
    ?assign ?body ?done ?stop
  case assign =>
    rintro l pre x W K ⟨⟨v, i1, i2⟩, i3, i4⟩ hK
    have hlt := i1.lt
    have hsw := i4.size
    gi_wp2
    exact hK _ _ ((KeepsOthers.alloc _ _).from _) (hKp _ _ ((Below.refl _ W).alloc hsw _)) ⟨⟨v, i1.alloc _, i2.alloc _⟩, i3, i4.alloc hsw _⟩ ⟨W.heap.size, by omega, Blk.new W 52 _, rfl⟩
  case body =>
    rintro l pre x a' W hl ⟨r, hr⟩ ⟨⟨v, i1, i2⟩, i3, i4⟩ ⟨Bx, hBx, bX, rfl⟩ hlt
    have c2 := bX.cell 1
    have hx := hSL x
    have HS := Lib.hid (gpP_snoc S L pre x)
    obtain ⟨s, hs⟩ : ∃ s, S x = s := ⟨_, rfl⟩
    obtain ⟨q, hq⟩ : ∃ q : Nat, L x = (q : Int) := ⟨(L x).toNat, by omega⟩
    rw [hs] at bX hx HS ⊢
    rw [hq] at bX c2 hx HS ⊢
    obtain ⟨L0, hL0⟩ : ∃ L0, gpP S L pre = L0 := ⟨_, rfl⟩
    rw [hL0] at i2 i3 HS
    clear hs hq hL0
    simp at c2
    gi_wp2
    gi_loopw [10] (fun i wr => ∃ (j : Nat) (Z : List Int) (v : Value), j ≤ q ∧ i = .int .i64 j ∧ Hid (Z = L0 ++ plJ s j) ∧ ((Z.length : Int) ≤ (pre.length : Int) * 1048576 + (j : Int)) ∧ Blk wr w.heap.size 22 #[v] ∧ OwnI wr w.heap.size v Z ∧ Blk wr Bx 52 #[.int .i64 s, .int .i64 q] ∧ KeepsFrom W0.heap.size W wr ∧ Below w.heap.size W wr)
      (fun i _ => q - (intOf i).toNat)
    case atStart => exact ⟨0, L0, v, Nat.zero_le _, rfl, Lib.hid (by simp [plJ_zero]), by omega, i1, i2, bX, KeepsFrom.refl _ _, Below.refl _ _⟩
    case round =>
      obtain ⟨j, Z, v, hj, rfl, HZ, hZ, j2, j3, j4, j6, j7⟩ := hrel
      by_cases hjl : j < q
      · have hszr : w.heap.size ≤ wr.heap.size := by have := j2.lt; omega
        have hnx := j4.not_row (by decide) j3
        have cO := j2.cell 0
        have c1 := j4.cell 0
        simp at cO c1
        have hw1 : IntKind.i64.wrap (s + (j : Int)) = s + (j : Int) := IntWalk.i64_in _ (by omega)
        gi_wp2_with (gi_at_builtin; refine wpListIn_append_own _ rfl _ _ 22 rfl w.heap.size 3 i0 (.int .i64 0) 1 8 Try.underlying22 hi hz0 hz1 hz2 rfl (by decide) _ _ _ rfl (j3.alloc _) ⟨wr.heap.size, 0, none⟩ 1 1 [.int .i64 (s + (j : Int))] rfl rfl (cell_one_new _ _ _) (by simp [Value.oneCell']) (by unfold maxLen; omega) (by omega) (by simp; omega) ?_; intro v' w3 hown' hgrow _; obtain ⟨g', cap', rfl⟩ := ownsRow_succ hown'; have hst := app_step j2 j3 hszr (Nat.le_refl _) hown' hgrow; have cB1 := hst.box.cell 0; have fB1 := hst.box.frozen 0; have cB2 := hst.box'.cell 0; simp at cB1 cB2)
        go_roundw
        case rel => exact ⟨j + 1, Z ++ [s + (j : Int)], _, by omega, by go_num, Lib.hid (by rw [HZ.out, List.append_assoc, plJ_succ]), by simp; omega, hst.box', hst.own, (hst.keep _ _ _ j4 (by omega) hnx).2, j6.trans (hst.others.from _), j7.trans hst.below⟩
        case measure => simp [intOf]; omega
      · obtain rfl : j = q := by omega
        have HZ2 : Hid (Z = gpP S L (pre ++ [x])) := Lib.hid (by rw [HS.out, HZ.out, plJ_all, Int.toNat_natCast])
        rw [HZ2.out] at hZ j3
        gi_wp2
        exact ⟨j6, hKp _ _ j7, ⟨v, j2, j3⟩, by simp; omega, i4.trans j7⟩
  case done =>
    rintro D ys' W hD rfl ⟨⟨v, i2, i3⟩, i1, i5⟩ hK
    have i3' := i3.aside (grownBy_putObj' W D (.deferred none)) (B := 0) (fun r e => by cases e; exact ⟨Nat.zero_le _, _, hK, rfl⟩)
    have i5' := below_aside (B := w.heap.size) i5 (Nat.le_refl _) (Nat.le_refl _) (grownBy_putObj' W D (.deferred none)) (fun r e => by cases e; exact ⟨by omega, _, hK, rfl⟩)
    obtain ⟨A', c', rfl, hcc, hsl⟩ := i3'.form
    have cO := i2.cell 0
    simp at cO
    obtain ⟨T, hT⟩ : ∃ T, (gpP S L (List.finRange n)).length = T := ⟨_, rfl⟩
    have HT := Lib.hid hT
    rw [hT] at cO hcc i1
    have hcT : (T : Int) ≤ (c' : Int) := by omega
    have hlenF : (List.finRange n).length = n := List.length_finRange
    rw [hlenF] at i1
    have hTm : (T : Int) ≤ 1099511627776 := by omega
    clear i2 i3 i3' hT hlenF
    gi_wp2
    refine ⟨by simp, .inl ⟨_, _, rfl, run_takeDeferred hK, ?_⟩⟩
    refine ⟨.slice A' T T, by simp [results, Try.f56, go_sem], ?_⟩
    exact retS_sl HT.out (Nat.le_refl _) hsl i5'
  case stop =>
    rintro D c pre W _ _ h _
    exact h.elim

theorem kpB_of_below {n₀ B m : Nat} (hn : n₀ ≤ m) (hB : B < m) {W W' : World} (h : Below m W W') : KpB n₀ B W W' := ⟨h.mono hn, h.block B hB⟩
theorem placesParts (A A' : Option Addr) (c c' N : Nat) (ss ls : List Int) (w : World) (h : Sl w A ss) (h' : Sl w A' ls) (hP : Pool ss ls N) :
    Calls Try.prog 56 #[.func (.func 64) #[] #[.pointer (some ⟨w.heap.size, 0, none⟩), .pointer (some ⟨w.heap.size + 1, 0, none⟩)]] ((w.alloc (.cells #[.slice A ss.length c] 22)).alloc (.cells #[.slice A' ls.length c'] 22)) (RetS w (plL ss ls)) := by
  have hM := hP.many
  have hN := hP.size
  have b1 := ((Blk.new w 22 #[.slice A ss.length c]).alloc (.cells #[.slice A' ls.length c'] 22)).alloc (.cells #[.slice none 0 0] 22)
  have b2 := (Blk.new (w.alloc (.cells #[.slice A ss.length c] 22)) 22 #[.slice A' ls.length c']).alloc (.cells #[.slice none 0 0] 22)
  simp only [World.size_alloc] at b2
  have hB : Below w.heap.size w ((w.alloc (.cells #[.slice A ss.length c] 22)).alloc (.cells #[.slice A' ls.length c'] 22)) := ((Below.refl _ w).alloc (Nat.le_refl _) _).alloc (by simp) _
  refine (placesOf_gen hM (fun x => nth ss x.val) (fun x => nth ls x.val) (fun x => ?_) 64 _ _ (enters_of Try.func64 (by kernel_rfl) rfl)
    (parts_stops Fence.wide (8 - 1) trivial rfl (by omega) w.heap.size (w.heap.size + 1) w.heap.size c c' A A' ss ls hM hP.len _ w rfl (hB.alloc hB.size _) (by simp; omega) b1 b2 h h') kpB_t ?_ ?_).mono ?_
  · have := hP.at_ x.val x.isLt
    omega
  · intro W l o o' hl h1 h2 h3
    exact kpB_b (n₀ := w.heap.size) (B := w.heap.size + 1) (w := (w.alloc (.cells #[.slice A ss.length c] 22)).alloc (.cells #[.slice A' ls.length c'] 22)) (by simp; omega) (by simp) W l o o' (by simp at hl ⊢; omega) h1 h2 h3
  · intro W W' hb
    exact kpB_of_below (by simp; omega) (by simp) hb
  · rintro e w' ⟨A1, c1, rfl, h1, h2, h3⟩
    exact ⟨A1, c1, rfl, h1, h2, hB.trans (h3.mono (by simp; omega))⟩

set_option maxRecDepth 100000 in
set_option maxHeartbeats 1000000 in
theorem places_any (A A' : Option Addr) (c c' : Nat) (ss ls : List Int) (n : Int) (w : World) (h : Sl w A ss) (h' : Sl w A' ls) (hls : ss.length ≤ 9223372036854775807) (hll : ls.length ≤ 9223372036854775807) (hb : ∀ j, j < ls.length → nth ls j ≤ 9223372036854775807) :
    Calls Try.prog 33 #[.slice A ss.length c, .slice A' ls.length c', .int .i64 n] w (RetL w (orL (shE ss ls n) (plL ss ls)) (shE ss ls n)) := by
  have C1 := shared_any A A' c c' ss ls n w h h' hls hll hb
  clear hb
  by_cases he : shE ss ls n = 0
  · obtain ⟨N, rfl, hP, hs⟩ := Pool.of he
    have HE := Lib.hid he
    rw [he] at C1
    have C3 := fun w1 (hB1 : Below w.heap.size w w1) => placesParts A A' c c' N ss ls w1 (h.step hB1) (h'.step hB1) hP
    clear he hs
    go_enter Try.func33, Try.ntmps33
    go_wp2_with (first | (go_at_call 27; refine C1.mono ?_; rintro e w1 ⟨rfl, hB1⟩) | (go_at_call 53; refine (parts_any _ _ _ _ _ _ _).mono ?_; rintro e w2 ⟨rfl, rfl⟩) | (go_at_call 56; refine (C3 _ hB1).mono ?_; rintro e w3 ⟨A3, c3, rfl, h31, h32, h33⟩))
    go_ret2
    rw [HE.out]
    exact ⟨A3, c3, rfl, h31, h32, hB1.trans (h33.mono hB1.size)⟩
  · have hd : (shE ss ls n != 0) = true := by rw [bne_iff_ne]; exact he
    have HE := Lib.hid (show orL (shE ss ls n) (plL ss ls) = [] by simp [orL, he])
    clear he
    go_enter Try.func33, Try.ntmps33
    go_wp2_with (go_at_call 27; refine C1.mono ?_; rintro e w1 ⟨rfl, hB1⟩)
    go_ret2
    rw [HE.out]
    exact retL_nil hB1
end Go.Proofs.Ytcbkocjpkdcpfaa
