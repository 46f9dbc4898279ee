/- Walks of scan: treeOf. -/
import Derived.Test.YtecpanppnljkhaaGreatDoorEn
import Derived.Shelf.RegionOpen
import Derived.WalkMore
namespace Go.Proofs.YtecpanppnljkhaaGreatDoor
set_option linter.unusedVariables false
set_option maxRecDepth 100000
open Go.RowKit Go.Shelf
attribute [local go_sem] Oper.semAt_some
theorem wpIn_scope {n : Nat} {P : Program} {c : Code} {Q : Exit → Act → World → Prop} {a : Act} {w : World} (h : c.wpIn Fence.wide n P (Exit.noGoto Q) a w) : (Code.scope c).wpIn Fence.wide n P Q a w :=
  wpIn_wide.2 (wp_scope_straight (wpIn_wide.1 h))
/-- What a range over a function leaves to be done when its caller leaves. -/
def mkD (D : Nat) : Deferred := { target := .collected D, args := #[] }
/-- Several of them, each at a block of its own from B on. -/
def Mks (B : Nat) (W : World) (Ds : List Nat) : Prop := Ds.Nodup ∧ ∀ D ∈ Ds, B ≤ D ∧ W.heap[D]? = some (.deferred (some []))
theorem Mks.nil (B : Nat) (W : World) : Mks B W [] := ⟨List.nodup_nil, fun D h => by simp at h⟩
theorem Mks.keeps {B : Nat} {X Y : World} {Ds : List Nat} (h : Mks B X Ds) (k : KeepsOthers X Y) : Mks B Y Ds := ⟨h.1, fun D hD => ⟨(h.2 D hD).1, k.same D _ (h.2 D hD).2 rfl⟩⟩
theorem Mks.lt {B : Nat} {X : World} {Ds : List Nat} (h : Mks B X Ds) {D : Nat} (hD : D ∈ Ds) : D < X.heap.size := (Array.getElem?_eq_some_iff.1 (h.2 D hD).2).1
theorem Mks.from_ {B C : Nat} {X Y : World} {row : Option Nat} {Ds : List Nat} (h : Mks B X Ds) (hC : ∀ D ∈ Ds, D < C) (hg : X.grownBy Y row) (hr : Aside C X row) : Mks B Y Ds :=
  ⟨h.1, fun D hD => ⟨(h.2 D hD).1, (hg.block D (h.lt hD) (fun e => by have h1 := (hr D e.symm).1; have h2 := hC D hD; omega)).trans (h.2 D hD).2⟩⟩
theorem Mks.cons {B D : Nat} {X : World} {Ds : List Nat} (h : Mks B X Ds) (hD : ∀ E ∈ Ds, E < D) (hB : B ≤ D) (hX : X.heap[D]? = some (.deferred (some []))) : Mks B X (D :: Ds) :=
  ⟨List.nodup_cons.2 ⟨fun e => by have := hD D e; omega, h.1⟩, fun E hE => by
    rcases List.mem_cons.1 hE with rfl | hE
    · exact ⟨hB, hX⟩
    · exact h.2 E hE⟩
theorem leaves_marks {F : Fence} {n B : Nat} {P : Program} {fn : Func} {tmps : Array Value} {R : Ending → World → Prop} {Pw : World → Prop} (hP : ∀ X D, Pw X → B ≤ D → X.heap[D]? = some (.deferred (some [])) → Pw (X.putObj D (.deferred none)))
    (hR : ∀ X, Pw X → LeavesIn F n P fn tmps R [] .returning X) : ∀ (Ds : List Nat) (W : World), Mks B W Ds → Pw W → LeavesInM F n P fn tmps R (Ds.map mkD) .returning W
  | [], W, _, h => hR W h
  | D :: Ds, W, hM, h => by
    have h1 := hM.2 D (by simp)
    refine ⟨by simp, .inl ⟨D, _, rfl, run_takeDeferred h1.2, ?_⟩⟩
    refine leaves_marks hP hR Ds _ ⟨(List.nodup_cons.1 hM.1).2, fun E hE => ⟨(hM.2 E (by simp [hE])).1, ?_⟩⟩ (hP W D h h1.1 h1.2)
    exact (World.putObj_heap_other (by intro e; subst e; exact (List.nodup_cons.1 hM.1).1 hE)).trans (hM.2 E (by simp [hE])).2
/-- An append that is run as an equation, as an operation. -/
theorem exec_append {P : Program} {o : Oper} {a : Act} {w : World} (s x : Operand) (t : TypeId) (ho : o.op = .call { callee := .builtin .append, args := #[s, x], argTypes := #[t, t] }) (vs vx : Value) (hs : a.eval s = vs) (hx : a.eval x = vx)
    (v' : Value) (w' : World) (hr : (Builtin.append_ #[t, t] o.type #[vs, vx]).run P w = .ok v' w') : (execOp a.eval o).run P w = .ok (.value v') w' := by
  unfold execOp
  simp only [ho, resolve, invoke, builtin, Sem.run_bind, Sem.run_pure, Result.andThen_ok, List.map_toArray, List.map_cons, List.map_nil, hs, hx, hr]
/-- The levels where of level k + 1 those of some pairs have come. -/
def curP {m : Nat} (f : Int → Int → Int) (a : List Int) (k : Nat) (pre : List (Fin m)) (j : Nat) : List Int := if j ≤ k then lvK f a j else if j = k + 1 then pre.map (fun x => f (nth (lvK f a k) (2 * x.val)) (nth (lvK f a k) (2 * x.val + 1))) else []
theorem curP_nil {m : Nat} (f : Int → Int → Int) (a : List Int) (k : Nat) : curP (m := m) f a k [] = curL f a k 0 := by
  funext j
  unfold curP curL
  simp
theorem curP_snoc {m : Nat} (f : Int → Int → Int) (a : List Int) (k : Nat) (pre : List (Fin m)) (x : Fin m) : curP f a k (pre ++ [x]) = upd (curP f a k pre) (k + 1) (curP f a k pre (k + 1) ++ [f (nth (lvK f a k) (2 * x.val)) (nth (lvK f a k) (2 * x.val + 1))]) := by
  funext j
  unfold upd curP
  by_cases h1 : j = k + 1
  · subst h1
    have h2 : ¬ (k + 1 ≤ k) := by omega
    simp only [if_neg h2, if_true, List.map_append, List.map_cons, List.map_nil]
  · simp only [if_neg h1]
theorem curP_at {m : Nat} (f : Int → Int → Int) (a : List Int) (k : Nat) (pre : List (Fin m)) : curP f a k pre k = lvK f a k := by unfold curP; rw [if_pos (Nat.le_refl _)]
theorem sgA_some (b o lo hi : Nat) (h : lo < hi) : sgA (some ⟨b, o, none⟩) lo hi = some ⟨b, o + lo, none⟩ := by unfold sgA; rw [if_neg (by omega)]; simp [add_plain]
theorem curP_len {m : Nat} (f : Int → Int → Int) (a : List Int) (k : Nat) (pre : List (Fin m)) : (curP f a k pre (k + 1)).length = pre.length := by
  unfold curP; rw [if_neg (by omega), if_pos rfl, List.length_map]
theorem pairs_all (f : Int → Int → Int) (T : List Int) (n h : Nat) (hn : T.length = n) (h2 : n = 2 * h) : (List.finRange (chN n)).map (fun x => f (nth T (2 * x.val)) (nth T (2 * x.val + 1))) = prs f T := by
  have hc : chN n = h := by unfold chN; omega
  apply List.ext_getElem
  · rw [List.length_map, List.length_finRange, prs_length]; omega
  · intro i h1 h3
    rw [List.length_map, List.length_finRange] at h1
    rw [List.getElem_map, List.getElem_finRange, ← nth_eq _ i h3, prs_nth f T i (by omega)]
    rfl
theorem curP_all (f : Int → Int → Int) (a : List Int) (k n h : Nat) (hn : (lvK f a k).length = n) (h2 : n = 2 * h) : curP f a k (List.finRange (chN n)) = curL f a (k + 1) 0 := by
  funext j
  unfold curP curL
  by_cases h1 : j ≤ k
  · rw [if_pos h1, if_pos (by omega)]
  · rw [if_neg h1]
    by_cases h3 : j = k + 1
    · subst h3
      rw [if_pos rfl, if_pos (Nat.le_refl _), pairs_all f _ n h hn h2]; rfl
    · rw [if_neg h3, if_neg (by omega)]; split <;> simp
/-- A tree of one level. -/
theorem TreeAt.start {w : World} {base g : Nat} {A : Option Addr} {n c : Nat} {a : List Int} (f : Int → Int → Int) (hb : Blk w g 109 ((List.range 21).map (upd (fun _ => .slice none 0 0) 0 (.slice A n c))).toArray) (ho : OwnI w base (.slice A n c) a) : TreeAt w base g (upd (fun _ => .slice none 0 0) 0 (.slice A n c)) (curL f a 0 0) := by
  refine ⟨hb, ⟨fun i hi => ?_, fun i j hi hj hij k hk => ?_⟩⟩
  · rw [curL_start]
    by_cases h : i = 0
    · subst h
      rw [upd_same, if_pos rfl, List.length_map]
      exact ho
    · rw [upd_ne _ _ h, if_neg h]
      exact World.ownsRow_nil w base 3 1
  · by_cases h : i = 0
    · subst h
      rw [upd_ne _ _ (Ne.symm hij)]
      simp [Value.ownBlock]
    · rw [upd_ne _ _ h] at hk
      simp [Value.ownBlock] at hk

set_option maxHeartbeats 4000000 in
theorem treeOf_any (op x : Int) (g d : Nat) (A : Option Addr) (cl : Nat) (l : List Int) (w : World) (hg : Blk w g 3 #[.int .i64 op]) (h : Sl w A l) (hcl : l.length ≤ cl) (hd1 : l.length ≤ 2 ^ d) (hd2 : ∀ j, j < d → 2 ^ j < l.length) (hd3 : d ≤ 20) :
    Calls Tryz.prog 54 #[.agg #[.int .i64 x, .func (.func 87) #[] #[.pointer (some ⟨g, 0, none⟩)]], .slice A l.length cl] w fun e w' => ∃ G vs, e = .returned (.pointer (some ⟨G, 0, none⟩)) ∧ w.heap.size ≤ G ∧ TreeAt w' w.heap.size G vs (lvK (doN op) (l ++ List.replicate (2 ^ d - l.length) x)) ∧ Below w.heap.size w w' := by
  obtain ⟨i0, hi, hz0, hz1, hz2⟩ := info_parts int_info
  have hpd : 2 ^ d ≤ 1048576 := by
    have : 2 ^ d ≤ 2 ^ 20 := Nat.pow_le_pow_right (by omega) hd3
    omega
  obtain ⟨N, hN⟩ : ∃ N : Nat, 2 ^ d = N := ⟨_, rfl⟩
  have bO := Blk.new w 58 #[.int .i64 x, .func (.func 87) #[] #[.pointer (some ⟨g, 0, none⟩)]]
  have hB0 : Below w.heap.size w (w.alloc (.cells #[.int .i64 x, .func (.func 87) #[] #[.pointer (some ⟨g, 0, none⟩)]] 58)) := (Below.refl _ _).alloc (Nat.le_refl _) _
  have hl' := h.step hB0
  obtain ⟨W0, hW0⟩ : ∃ W0, w.alloc (.cells #[.int .i64 x, .func (.func 87) #[] #[.pointer (some ⟨g, 0, none⟩)]] 58) = W0 := ⟨_, rfl⟩
  refine (callsIn_wide (n := 8)).1 ?_
  refine callsIn_of_wp_marks Tryz.func54 rfl trivial ?_ rfl
  simp only [Tryz.ntmps54, List.size_toArray, List.length_cons, List.length_nil, Nat.reduceAdd, Nat.reduceSub, Array.replicate_succ, Array.replicate_zero, List.push_toArray, List.append_toArray, List.nil_append, List.cons_append]
  have hl16 : l.length ≤ 1048576 := by omega
  obtain ⟨M, hM⟩ : ∃ M : Nat, N - l.length = M := ⟨_, rfl⟩
  have HM : (N : Int) - (l.length : Int) = (M : Int) := by omega
  have HD2 := Lib.hid hd2
  have HN := Lib.hid hN
  obtain ⟨a, ha⟩ : ∃ a, l ++ List.replicate M x = a := ⟨_, rfl⟩
  have hal : a.length = N := by rw [← ha, List.length_append, List.length_replicate]; omega
  rw [hN, hM, ha]
  clear hd2
  gi_wp2
  refine wpIn_scope ?_
  gi_wp2
  gi_loopw [5] (fun i wr => ∃ j : Nat, j ≤ d ∧ i = .int .i64 ((2 ^ j : Nat) : Int) ∧ W0 = wr) (fun i _ => N - (intOf i).toNat)
  case atStart => exact ⟨0, Nat.zero_le _, rfl, rfl⟩
  case round =>
    obtain ⟨j, hj, rfl, rfl⟩ := hrel
    by_cases hlt : j < d
    · have h1 := HD2.out j hlt
      have h2 : 2 ^ (j + 1) ≤ 2 ^ d := Nat.pow_le_pow_right (by omega) hlt
      rw [HN.out, Nat.pow_succ] at h2
      have H3 := Lib.hid (Nat.pow_succ (n := 2) (m := j))
      have hp0 : 0 < 2 ^ j := Nat.two_pow_pos j
      obtain ⟨p, hp⟩ : ∃ p, 2 ^ j = p := ⟨_, rfl⟩
      rw [hp] at h1 h2 H3 hp0 ⊢
      have hk1 : (p : Int) < (l.length : Int) := by omega
      have hwr : IntKind.i64.wrap ((p : Int) * 2) = ((p * 2 : Nat) : Int) := by unfold IntKind.wrap; simp [IntKind.signed, IntKind.bits]; omega
      clear hp
      gi_wp2
      go_roundw
      case rel => exact ⟨j + 1, by omega, by rw [H3.out, Int.natCast_mul]; rfl, by first | rfl | trivial⟩
      case measure => simp [intOf]; omega
    · obtain rfl : j = d := by omega
      rw [HN.out]
      have hk1 : ¬ ((N : Int) < (l.length : Int)) := by omega
      have C2 := Lib.hid (repeat_any W0.heap.size M x (W0.alloc (.cells #[.int .i64 x] 3)) (by omega) (Blk.new W0 3 #[.int .i64 x]))
      have b0 : W0.cell? ⟨w.heap.size, 0, none⟩ = some (.int .i64 x) := by subst hW0; exact bO.cell 0
      gi_wp2_with (first | (refine ⟨trivial, ?_⟩; gi_at_call 78; refine (callsIn_wide.2 C2.out).mono ?_; rintro e w2 ⟨A2, c2, rfl, hc2, hs2, hB2⟩) | fail)
      rw [List.length_replicate] at hc2
      have hsW : W0.heap.size = w.heap.size + 1 := by rw [← hW0]; simp
      have hs2' := hB2.size
      rw [World.size_alloc] at hs2'
      have hBw : Below w.heap.size w w2 := ((hW0 ▸ hB0).alloc (by omega) _).trans (hB2.mono (by simp; omega))
      have S1 : Sll (w2.alloc (.cells #[.slice A l.length cl, .slice A2 M c2] 22)) (some ⟨w2.heap.size, 0, none⟩) [l, List.replicate M x] := by
        have := sll2 (Blk.new w2 22 #[.slice A l.length cl, .slice A2 (List.replicate M x).length c2]) ((h.step hBw).step ((Below.refl _ _).alloc (Nat.le_refl _) _)) (hs2.step ((Below.refl _ _).alloc (Nat.le_refl _) _)) hcl (by rw [List.length_replicate]; exact hc2)
        rwa [List.length_replicate] at this
      have C3 := concat_any (some ⟨w2.heap.size, 0, none⟩) 2 [l, List.replicate M x] _ S1 (by simp; omega) (by simp)
      rw [show ([l, List.replicate M x] : List (List Int)).flatten = a by rw [← ha]; simp, hal] at C3
      have C3 := Lib.hid C3
      have hBw2 : Below w.heap.size w (w2.alloc (.cells #[.slice A l.length cl, .slice A2 M c2] 22)) := hBw.alloc (by omega) _
      gi_wp2_with (first | (refine ⟨trivial, ?_⟩; gi_at_call 83; refine (callsIn_wide.2 C3.out).mono ?_; rintro e w3 ⟨A3, c3, rfl, hO3, hB3⟩) | fail)
      refine wpIn_label ?_
      gi_wp2
      have hB3' := hB3.size
      rw [World.size_alloc] at hB3'
      have hBw3 : Below w.heap.size w w3 := hBw2.trans (hB3.mono (by simp; omega))
      have hO3' : OwnI w3 w.heap.size (.slice A3 N c3) a := hO3.lower (by simp; omega)
      have bO2 := bO
      rw [hW0] at bO2
      have bO3 : Blk w3 w.heap.size 58 #[.int .i64 x, .func (.func 87) #[] #[.pointer (some ⟨g, 0, none⟩)]] := ((((bO2.alloc (.cells #[.int .i64 x] 3)).below hB2 (by simp; omega)).alloc (.cells #[.slice A l.length cl, .slice A2 M c2] 22)).below hB3 (by simp; omega))
      have bT := TreeAt.start (doN op) (((Blk.new w3 109 ((List.range 21).map (upd (fun _ => .slice none 0 0) 0 (.slice A3 N c3))).toArray)).alloc (.cells #[.pointer (some ⟨w3.heap.size, 0, none⟩)] 62)) ((hO3'.alloc (.cells ((List.range 21).map (upd (fun _ => .slice none 0 0) 0 (.slice A3 N c3))).toArray 109)).alloc (.cells #[.pointer (some ⟨w3.heap.size, 0, none⟩)] 62))
      have bP := Blk.new (w3.alloc (.cells ((List.range 21).map (upd (fun _ => .slice none 0 0) 0 (.slice A3 N c3))).toArray 109)) 62 #[.pointer (some ⟨w3.heap.size, 0, none⟩)]
      have bQ := (bO3.alloc (.cells ((List.range 21).map (upd (fun _ => .slice none 0 0) 0 (.slice A3 N c3))).toArray 109)).alloc (.cells #[.pointer (some ⟨w3.heap.size, 0, none⟩)] 62)
      have hBw4 : Below w.heap.size w ((w3.alloc (.cells ((List.range 21).map (upd (fun _ => .slice none 0 0) 0 (.slice A3 N c3))).toArray 109)).alloc (.cells #[.pointer (some ⟨w3.heap.size, 0, none⟩)] 62)) := (hBw3.alloc (by omega) _).alloc (by simp; omega) _
      have hs4 : w3.heap.size + 2 ≤ ((w3.alloc (.cells ((List.range 21).map (upd (fun _ => .slice none 0 0) 0 (.slice A3 N c3))).toArray 109)).alloc (.cells #[.pointer (some ⟨w3.heap.size, 0, none⟩)] 62)).heap.size := by simp
      simp only [World.size_alloc] at bP
      obtain ⟨W4, hW4⟩ : ∃ W4, (w3.alloc (.cells #[.slice A3 N c3, .slice none 0 0, .slice none 0 0, .slice none 0 0, .slice none 0 0, .slice none 0 0, .slice none 0 0, .slice none 0 0, .slice none 0 0, .slice none 0 0, .slice none 0 0, .slice none 0 0, .slice none 0 0, .slice none 0 0, .slice none 0 0, .slice none 0 0, .slice none 0 0, .slice none 0 0, .slice none 0 0, .slice none 0 0, .slice none 0 0] 109)).alloc (.cells #[.pointer (some ⟨w3.heap.size, 0, none⟩)] 62) = W4 := ⟨_, rfl⟩
      have hW4' : (w3.alloc (.cells ((List.range 21).map (upd (fun _ => .slice none 0 0) 0 (.slice A3 N c3))).toArray 109)).alloc (.cells #[.pointer (some ⟨w3.heap.size, 0, none⟩)] 62) = W4 := hW4
      rw [hW4'] at bT bP bQ hBw4 hs4
      rw [hW4]
      clear hW4 hW4'
      obtain ⟨G, hG⟩ : ∃ G, w3.heap.size = G := ⟨_, rfl⟩
      have hG0 : w.heap.size < G := by omega
      rw [hG] at bT bP hs4 ⊢
      obtain ⟨I, hI⟩ : ∃ I : Act → World → Prop, ∀ a' W, I a' W ↔ (∃ (k : Nat) (vs : Nat → Value) (Ds : List Nat) (u0 u1 u3 u4 u5 u6 u8 u9 u10 u11 u12 u13 u14 u15 u16 u17 u18 u19 u20 u21 u22 u23 u24 u25 u26 u27 u28 u29 u31 u32 u33 u34 u35 u36 u37 u38 u39 u40 u41 u42 u43 u44 u45 u46 u47 u48 u49 u50 u51 u52 u53 u54 u55 u56 u57 u58 u59 u60 u61 u62 u63 u64 u65 u66 : Value), a' = ⟨#[u0, u1, .pointer (some ⟨w.heap.size, 0, none⟩), u3, u4, u5, u6, .pointer (some ⟨G + 1, 0, none⟩), u8, u9, u10, u11, u12, u13, u14, u15, u16, u17, u18, u19, u20, u21, u22, u23, u24, u25, u26, u27, u28, u29, .int .i64 (k : Int), u31, u32, u33, u34, u35, u36, u37, u38, u39, u40, u41, u42, u43, u44, u45, u46, u47, u48, u49, u50, u51, u52, u53, u54, u55, u56, u57, u58, u59, u60, u61, u62, u63, u64, u65, u66], Ds.map mkD⟩ ∧ k ≤ j ∧ TreeAt W w.heap.size G vs (curL (doN op) a k 0) ∧ Blk W (G + 1) 62 #[.pointer (some ⟨G, 0, none⟩)] ∧ Blk W w.heap.size 58 #[.int .i64 x, .func (.func 87) #[] #[.pointer (some ⟨g, 0, none⟩)]] ∧ Below w.heap.size w W ∧ G + 2 ≤ W.heap.size ∧ Mks w.heap.size W Ds) := ⟨_, fun _ _ => Iff.rfl⟩
      refine wpIn_loop I (fun a' _ => 21 - (intOf (a'.tmps.getD 30 undef)).toNat) ?_ ?_
      · rw [hI]
        exact ⟨0, _, [], _, _, _, _, _, _, _, _, _, _, _, _, _, _, _, _, _, _, _, _, _, _, _, _, _, _, _, _, _, _, _, _, _, _, _, _, _, _, _, _, _, _, _, _, _, _, _, _, _, _, _, _, _, _, _, _, _, _, _, _, _, _, _, _, rfl, Nat.zero_le _, bT, bP, bQ, hBw4, hs4, Mks.nil _ _⟩
      · intro a' W hIa
        rw [hI] at hIa
        obtain ⟨k, vs, Ds, u0, u1, u3, u4, u5, u6, u8, u9, u10, u11, u12, u13, u14, u15, u16, u17, u18, u19, u20, u21, u22, u23, u24, u25, u26, u27, u28, u29, u31, u32, u33, u34, u35, u36, u37, u38, u39, u40, u41, u42, u43, u44, u45, u46, u47, u48, u49, u50, u51, u52, u53, u54, u55, u56, u57, u58, u59, u60, u61, u62, u63, u64, u65, u66, rfl, hk, hT, hP, hO, hBW, hSW, hMW⟩ := hIa
        have hk20 : k ≤ 20 := by omega
        have hown := hT.own (show k < 21 by omega)
        rw [curL_at] at hown
        obtain ⟨Ak, ck, hvk, hck, hsk⟩ := hown.form
        have hlen := lv_length (doN op) (hal.trans HN.out.symm) k hk
        obtain ⟨T, hTT⟩ : ∃ T, lvK (doN op) a k = T := ⟨_, rfl⟩
        rw [hTT] at hown hck hsk hlen hvk
        obtain ⟨n, hn⟩ : ∃ n, T.length = n := ⟨_, rfl⟩
        rw [hn] at hck hlen hvk
        have HLEN := Lib.hid hlen
        have HNN := Lib.hid hn
        have HTT := Lib.hid hTT
        clear hlen hn hTT
        have k1 : (k : Int) < 21 := by omega
        have k2 : (0 : Int) ≤ (k : Int) := by omega
        have hTa := hT.alloc (.cells #[.int .i64 (k : Int)] 3)
        have hPa := hP.alloc (.cells #[.int .i64 (k : Int)] 3)
        have hOa := hO.alloc (.cells #[.int .i64 (k : Int)] 3)
        have hKa := Blk.new W 3 #[.int .i64 (k : Int)]
        have hBa := hBW.alloc (by omega) (.cells #[.int .i64 (k : Int)] 3)
        gi_wp2
        refine wpIn_region_mix' (fun W' => W'.cell? ⟨G + 1, 0, none⟩ = some (.pointer (some ⟨G, 0, none⟩)) ∧ W'.cell? ⟨W.heap.size, 0, none⟩ = some (.int .i64 (k : Int)) ∧ W'.cell? ⟨G, k, none⟩ = some (.slice Ak n ck)) [false, false, false, false, false] (fun _ => trivial) rfl (by kernel_rfl) (by kernel_rfl) ⟨hPa.cell 0, hKa.cell 0, hvk ▸ hTa.cell (by omega)⟩ ?_
        simp only [mixT, mixH, mixD]
        iterate 5 (refine wpLts_light ?_ (fun W' hW => ?_) ?_; rotate_left; (obtain ⟨q0, q1, q2⟩ := hW; go_simp; try with_reducible rfl); simp only [Act.put, List.setIfInBounds_toArray, List.set_cons_zero, List.set_cons_succ])
        refine wpLts_nil (wpHvs_nil ?_)
        have C1 := Lib.hid (chunk_any Ak n ck (W.alloc (.cells #[.int .i64 (k : Int)] 3)).drew)
        gi_wp2_with (first | (refine ⟨trivial, ?_⟩; gi_at_call 84; refine (callsIn_wide.2 C1.out).mono ?_; rintro e w' ⟨rfl, rfl⟩) | fail)
        have cW6 := (Below.refl W.heap.size W)
        have t10 : k + 1 < 21 → ∀ b, (vs (k + 1)).ownBlock = some b → b < W.heap.size ∨ W.heap.size + 3 ≤ b := fun h b e => .inl (hT.rows.lt h b e).2
        have tT := ((hTa.alloc (.cells #[.slice Ak n ck] 22)).alloc (.cells #[.int .i64 2] 3)).drew
        have tP := ((hPa.alloc (.cells #[.slice Ak n ck] 22)).alloc (.cells #[.int .i64 2] 3)).drew
        have tO := ((hOa.alloc (.cells #[.slice Ak n ck] 22)).alloc (.cells #[.int .i64 2] 3)).drew
        have tK := ((hKa.alloc (.cells #[.slice Ak n ck] 22)).alloc (.cells #[.int .i64 2] 3)).drew
        have tL := ((Blk.new (W.alloc (.cells #[.int .i64 (k : Int)] 3)) 22 #[.slice Ak n ck]).alloc (.cells #[.int .i64 2] 3)).drew
        have tN := (Blk.new ((W.alloc (.cells #[.int .i64 (k : Int)] 3)).alloc (.cells #[.slice Ak n ck] 22)) 3 #[.int .i64 2]).drew
        have hsW : W.heap.size + 3 ≤ (((W.alloc (.cells #[.int .i64 (k : Int)] 3)).alloc (.cells #[.slice Ak n ck] 22)).alloc (.cells #[.int .i64 2] 3)).drew.heap.size := by simp
        have tB : Below W.heap.size W (((W.alloc (.cells #[.int .i64 (k : Int)] 3)).alloc (.cells #[.slice Ak n ck] 22)).alloc (.cells #[.int .i64 2] 3)).drew := (((cW6.alloc (Nat.le_refl _) _).alloc (by simp) _).alloc (by simp; omega) _).drew
        have tM : Mks w.heap.size (((W.alloc (.cells #[.int .i64 (k : Int)] 3)).alloc (.cells #[.slice Ak n ck] 22)).alloc (.cells #[.int .i64 2] 3)).drew Ds := hMW.keeps ((((KeepsOthers.alloc W _).trans (KeepsOthers.alloc _ _)).trans (KeepsOthers.alloc _ _)).trans (KeepsOthers.drew _))
        have hDs : ∀ D ∈ Ds, D < W.heap.size := fun D hD => hMW.lt hD
        simp only [World.size_alloc] at tN tL
        obtain ⟨W6, hW6⟩ : ∃ W6, (((W.alloc (.cells #[.int .i64 (k : Int)] 3)).alloc (.cells #[.slice Ak n ck] 22)).alloc (.cells #[.int .i64 2] 3)).drew = W6 := ⟨_, rfl⟩
        rw [hW6] at tT tP tO tK tL tN hsW tB tM ⊢
        clear hW6 hTa hPa hOa hKa C1 hM HM
        have hB6 : Below w.heap.size w W6 := hBW.trans (tB.mono (by omega))
        have hn1 : n ≤ 1048576 := by
          have h1 := HLEN.out
          have : 2 ^ (j - k) ≤ 2 ^ 20 := Nat.pow_le_pow_right (by omega) (by omega)
          omega
        refine wpIn_rangeFunc_ownH rfl (by omega) (gf := 102) (lb := #[.pointer (some ⟨W.heap.size + 1, 0, none⟩), .pointer (some ⟨W.heap.size + 1 + 1, 0, none⟩)]) rfl trivial (enters_of Tryz.func102 (by kernel_rfl) rfl)
          (chs_stops (8 - 1) (by omega) (W.heap.size + 1) (W.heap.size + 1 + 1) w.heap.size n ck Ak hck (by omega) W6 tN tL) kpC_t (kpC_b (by omega) (by omega) (by omega)) (Below.refl _ _) (fun _ => rfl)
          (fun pre X => ∃ vs', TreeAt X w.heap.size G vs' (curP (doN op) a k pre) ∧ (∀ i, i ≤ k → vs' i = vs i) ∧ Blk X (G + 1) 62 #[.pointer (some ⟨G, 0, none⟩)] ∧ Blk X w.heap.size 58 #[.int .i64 x, .func (.func 87) #[] #[.pointer (some ⟨g, 0, none⟩)]] ∧ Blk X W.heap.size 3 #[.int .i64 (k : Int)] ∧ Below w.heap.size w X ∧ W.heap.size + 3 ≤ X.heap.size ∧ Mks w.heap.size X Ds ∧ (n = 1 → pre.length = 0) ∧ (k + 1 < 21 → ∀ b, (vs' (k + 1)).ownBlock = some b → b < W.heap.size ∨ W.heap.size + 3 ≤ b))
          (fun cd pre X => cd = .exit 2 ∧ n = 1 ∧ ∃ vs', TreeAt X w.heap.size G vs' (curL (doN op) a k 0) ∧ Blk X (G + 1) 62 #[.pointer (some ⟨G, 0, none⟩)] ∧ Below w.heap.size w X ∧ Mks w.heap.size X Ds ∧ G + 2 ≤ X.heap.size)
          (fun _ X Y row hs hg hr => by
            obtain ⟨vs', t1, t2, t3, t4, t5, t6, t7, t8, t9, t10⟩ := hs
            exact ⟨vs', t1.aside hg hr, t2, t3.aside hg hr, t4.aside hg hr, t5.aside hg hr, below_aside t6 (Nat.le_refl _) (by omega) hg hr, Nat.le_trans t7 hg.size, t8.from_ (C := W6.heap.size) (fun D hD => by have := hDs D hD; omega) hg hr, t9, t10⟩)
          (fun cd _ X Y row hs hg hr => by
            obtain ⟨h0, h1, vs', t1, t3, t6, t8, t7⟩ := hs
            exact ⟨h0, h1, vs', t1.aside hg hr, t3.aside hg hr, below_aside t6 (Nat.le_refl _) (by omega) hg hr, t8.from_ (C := W6.heap.size) (fun D hD => by have := hDs D hD; omega) hg hr, Nat.le_trans t7 hg.size⟩)
          ⟨vs, by rw [curP_nil]; exact tT, fun _ _ => rfl, tP, tO, tK, hB6, by omega, tM, fun _ => rfl, t10⟩
          (fun x' a' X => a' = ⟨#[u0, u1, .pointer (some ⟨w.heap.size, 0, none⟩), u3, u4, u5, u6, .pointer (some ⟨G + 1, 0, none⟩), .pointer (some ⟨W.heap.size, 0, none⟩), (.slice (sgA Ak (2 * x'.val) (chE n x'.val)) (chE n x'.val - 2 * x'.val) (chE n x'.val - 2 * x'.val)), u10, u11, u12, u13, u14, u15, u16, u17, u18, u19, u20, u21, u22, u23, u24, u25, u26, u27, u28, u29, .int .i64 (k : Int), .bool true, .int .i64 (k : Int), .pointer (some ⟨G, 0, none⟩), .int .i64 (k : Int), .pointer (some ⟨G, 0, none⟩), .pointer (some ⟨G, k, none⟩), .slice Ak n ck, .func (.func 102) #[] #[.pointer (some ⟨W.heap.size + 1, 0, none⟩), .pointer (some ⟨W.heap.size + 1 + 1, 0, none⟩)], (.slice (sgA Ak (2 * x'.val) (chE n x'.val)) (chE n x'.val - 2 * x'.val) (chE n x'.val - 2 * x'.val)), u40, u41, u42, u43, u44, u45, u46, u47, u48, u49, u50, u51, u52, u53, u54, u55, u56, u57, u58, u59, u60, u61, u62, u63, u64, u65, u66], []⟩)
          (fun x' a' _ X Y row hs hg hr => hs)
          ?assign ?body ?done ?stop
        case assign =>
          rintro i pre x' X K hI' hK
          simp only [chV]
          gi_wp2
          exact hK _ _ (KeepsFrom.refl _ _) (kpC_refl _ _ _ _) hI' rfl
        case body =>
          rintro i pre x' a' X hl' ⟨r, hr⟩ ⟨vs', t1, t2, t3, t4, t5, t6, t7, t8, t9, t10⟩ rfl hlt
          have hx := x'.isLt
          by_cases hn2 : n = 1
          · have he : chE n x'.val - 2 * x'.val = 1 := by unfold chE; unfold chN at hx; omega
            rw [he]
            have h0 := t9 hn2
            obtain rfl : pre = [] := List.eq_nil_of_length_eq_zero h0
            rw [curP_nil] at t1
            gi_wp2
            exact ⟨KeepsFrom.refl _ _, rfl, hn2, vs', t1, t3, t6, t8, by omega⟩
          · have hkj : k < j := by
              rcases Nat.lt_or_ge k j with h | h
              · exact h
              · obtain rfl : k = j := by omega
                exact absurd (by have := HLEN.out; simpa using this) hn2
            have t10 := t10 (by omega)
            obtain ⟨hh, h2⟩ : ∃ hh, n = 2 * hh := ⟨2 ^ (j - k - 1), by
              have h1 := HLEN.out
              rw [show j - k = (j - k - 1) + 1 by omega, Nat.pow_succ] at h1
              omega⟩
            have hxx : 2 * x'.val + 1 < n := by unfold chN at hx; omega
            have he : chE n x'.val = 2 * x'.val + 2 := by unfold chE; omega
            have hownk := t1.own (show k < 21 by omega)
            rw [t2 k (Nat.le_refl _), hvk, curP_at, HTT.out] at hownk
            obtain ⟨A9, c9, e9, _, hsX⟩ := hownk.form
            obtain rfl : Ak = A9 := by injection e9
            obtain ⟨bA, oA, rfl, hbA, hcA⟩ := hsX (by rw [HNN.out]; omega)
            have cp := hcA (2 * x'.val) (by rw [HNN.out]; omega)
            have cq := hcA (2 * x'.val + 1) (by rw [HNN.out]; omega)
            have HSN := Lib.hid (curP_snoc (doN op) a k pre x')
            rw [HTT.out] at HSN
            obtain ⟨p, hp⟩ : ∃ p, nth T (2 * x'.val) = p := ⟨_, rfl⟩
            obtain ⟨q, hq⟩ : ∃ q, nth T (2 * x'.val + 1) = q := ⟨_, rfl⟩
            rw [hp] at cp HSN
            rw [hq] at cq HSN
            have hownV := t1.own (show k + 1 < 21 by omega)
            have hlen1 := curP_len (doN op) a k pre
            have hpt := t1.rows.pt k (k + 1) (by omega) (by omega) (by omega) bA (by rw [t2 k (Nat.le_refl _), hvk]; rfl)
            obtain ⟨K1, hK1⟩ : ∃ K1, k + 1 = K1 := ⟨_, rfl⟩
            rw [hK1] at hownV hlen1 hpt t10 HSN
            have cT := t1.cell (show K1 < 21 by omega)
            obtain ⟨V, hV⟩ : ∃ V, vs' K1 = V := ⟨_, rfl⟩
            obtain ⟨L, hL⟩ : ∃ L, curP (doN op) a k pre K1 = L := ⟨_, rfl⟩
            rw [hV, hL] at hownV
            rw [hV] at hpt t10 cT
            rw [hL] at hlen1 HSN
            have HV := Lib.hid hV
            have HL := Lib.hid hL
            have k5 : (k : Int) + 1 = (K1 : Int) := by omega
            have k6 : (K1 : Int) < 21 := by omega
            have k7 : (0 : Int) ≤ (K1 : Int) := by omega
            have k8 : IntKind.i64.wrap (K1 : Int) = (K1 : Int) := by unfold IntKind.wrap; simp [IntKind.signed, IntKind.bits]; omega
            have hLL : L.length ≤ 1048576 := by have h3 : chN n = (n + 1) / 2 := rfl; omega
            rw [he, sgA_some bA oA _ _ (by omega), show 2 * x'.val + 2 - 2 * x'.val = 2 by omega]
            clear hp hq hV hL hcA e9 hsX he tT tP tO tK tL tN tM
            gi_wp2
            have LT : ∀ W', (Blk W' (G + 1) 62 #[.pointer (some ⟨G, 0, none⟩)] ∧ Blk W' W.heap.size 3 #[.int .i64 (k : Int)] ∧ W'.cell? ⟨G, K1, none⟩ = some V ∧ Blk W' w.heap.size 58 #[.int .i64 x, .func (.func 87) #[] #[.pointer (some ⟨g, 0, none⟩)]] ∧ W'.cell? ⟨bA, oA + 2 * x'.val, none⟩ = some (.int .i64 p) ∧ W'.cell? ⟨bA, oA + (2 * x'.val + 1), none⟩ = some (.int .i64 q)) → W'.cell? ⟨G + 1, 0, none⟩ = some (.pointer (some ⟨G, 0, none⟩)) ∧ W'.cell? ⟨W.heap.size, 0, none⟩ = some (.int .i64 (k : Int)) ∧ W'.cell? ⟨G, K1, none⟩ = some V ∧ W'.cell? ⟨w.heap.size, 1, none⟩ = some (.func (.func 87) #[] #[.pointer (some ⟨g, 0, none⟩)]) ∧ W'.cell? ⟨bA, oA + 2 * x'.val, none⟩ = some (.int .i64 p) ∧ W'.cell? ⟨bA, oA + 2 * x'.val + 1, none⟩ = some (.int .i64 q) := fun W' hW => ⟨hW.1.cell 0, hW.2.1.cell 0, hW.2.2.1, hW.2.2.2.1.cell 1, hW.2.2.2.2.1, hW.2.2.2.2.2⟩
            refine wpIn_region_mix' (fun W' => Blk W' (G + 1) 62 #[.pointer (some ⟨G, 0, none⟩)] ∧ Blk W' W.heap.size 3 #[.int .i64 (k : Int)] ∧ W'.cell? ⟨G, K1, none⟩ = some V ∧ Blk W' w.heap.size 58 #[.int .i64 x, .func (.func 87) #[] #[.pointer (some ⟨g, 0, none⟩)]] ∧ W'.cell? ⟨bA, oA + 2 * x'.val, none⟩ = some (.int .i64 p) ∧ W'.cell? ⟨bA, oA + (2 * x'.val + 1), none⟩ = some (.int .i64 q)) [false, false, false, false, false, false, false, false, false, false, false, false, false, false, false, false, false, true, true, true, false, false] (fun _ => trivial) rfl (by kernel_rfl) (by kernel_rfl) ⟨t3, t5, cT, t4, cp, cq⟩ ?_
            simp only [mixT, mixH, mixD]
            iterate 17 (refine wpLts_light ?_ (fun W' hW => ?_) ?_; rotate_left; (obtain ⟨q0, q1, q2, q3, q4, q5⟩ := LT W' hW; go_simp; try with_reducible rfl); simp only [Act.put, List.setIfInBounds_toArray, List.set_cons_zero, List.set_cons_succ])
            refine wpLts_heavy (wpLts_heavy (wpLts_heavy ?_))
            iterate 2 (refine wpLts_light ?_ (fun W' hW => ?_) ?_; rotate_left; (obtain ⟨q0, q1, q2, q3, q4, q5⟩ := LT W' hW; go_simp; try with_reducible rfl); simp only [Act.put, List.setIfInBounds_toArray, List.set_cons_zero, List.set_cons_succ])
            refine wpLts_nil ?_
            have hBd : Below X.heap.size X X.drew := (Below.refl _ _).drew
            have gd : Blk X.drew g 3 #[.int .i64 op] := ((hg.below t6 hg.lt)).drew
            refine wpHvs_call 87 #[.int .i64 p, .int .i64 q, .pointer (some ⟨g, 0, none⟩)] (by go_simp) ?_
            refine (CallsIn.inRound i (callsIn_wide.2 (join_any op p q g X.drew gd))).mono ?_
            rintro e W1 ⟨rfl, hB1⟩
            have hB1X : Below X.heap.size X W1 := hBd.trans hB1
            have hs1 := hB1X.size
            have a3 := t3.below hB1X t3.lt
            have a5 := t5.below hB1X t5.lt
            have a4 := t4.below hB1X t4.lt
            have aT := t1.below hB1X (Nat.le_refl _)
            have aTc : W1.cell? ⟨G, K1, none⟩ = some V := (hB1X.cell (p := ⟨G, K1, none⟩) t1.blk.lt).trans cT
            have acp := (hB1X.cell (p := ⟨bA, oA + 2 * x'.val, none⟩) hbA).trans cp
            have acq := (hB1X.cell (p := ⟨bA, oA + (2 * x'.val + 1), none⟩) hbA).trans cq
            obtain ⟨rr, hrr⟩ : ∃ rr, doN op p q = rr := ⟨_, rfl⟩
            rw [hrr] at HSN ⊢
            refine ⟨_, rfl, ⟨a3, a5, aTc, a4, acp, acq⟩, ?_⟩
            simp only [Act.put, List.setIfInBounds_toArray, List.set_cons_zero, List.set_cons_succ]
            have eT := aT.alloc (.cells #[.int .i64 rr] 3)
            have e3 := a3.alloc (.cells #[.int .i64 rr] 3)
            have e5 := a5.alloc (.cells #[.int .i64 rr] 3)
            have e4 := a4.alloc (.cells #[.int .i64 rr] 3)
            have hB2X : Below X.heap.size X (W1.alloc (.cells #[.int .i64 rr] 3)) := hB1X.alloc hs1 _
            have eTc := (hB2X.cell (p := ⟨G, K1, none⟩) t1.blk.lt).trans cT
            have ecp := (hB2X.cell (p := ⟨bA, oA + 2 * x'.val, none⟩) hbA).trans cp
            have ecq := (hB2X.cell (p := ⟨bA, oA + (2 * x'.val + 1), none⟩) hbA).trans cq
            refine wpHvs_value (.slice (some ⟨W1.heap.size, 0, none⟩) 1 1) (W1.alloc (.cells #[.int .i64 rr] 3)) (by go_simp) ⟨⟨e3, e5, eTc, e4, ecp, ecq⟩, ?_⟩
            simp only [Act.put, List.setIfInBounds_toArray, List.set_cons_zero, List.set_cons_succ]
            have hownV2 : OwnI (W1.alloc (.cells #[.int .i64 rr] 3)) w.heap.size V L := hownV.below hB2X (Nat.le_refl _)
            have hBw2X : Below w.heap.size w (W1.alloc (.cells #[.int .i64 rr] 3)) := t6.trans (hB2X.mono t6.size)
            obtain ⟨v', w9, hr9, ho9, hg9, _, hat⟩ := run_append_own_at (P := Tryz.prog) (w := W1.alloc (.cells #[.int .i64 rr] 3)) w.heap.size 22 22 3 i0 (.int .i64 0) 1 8 Tryz.underlying22 hi hz0 hz1 hz2 rfl (by decide) V L.length (L.map (Value.int .i64)) hownV2 ⟨W1.heap.size, 0, none⟩ 1 1 [.int .i64 rr] rfl (cell_one_new _ _ _) (by simp [Value.oneCell']) (by unfold maxLen; omega) (by omega) hBw2X.size
            have ho9' : OwnI w9 w.heap.size v' (L ++ [rr]) := OwnI.apps (O := [rr]) ho9
            have n3 := e3.not_row (by decide) hownV2
            have n4 := e4.not_row (by decide) hownV2
            have nT := eT.blk.not_row (by decide) hownV2
            have n5 : some W.heap.size ≠ V.ownBlock := fun e => by have := t10 _ e.symm; omega
            have nA : some bA ≠ V.ownBlock := fun e => hpt e.symm
            have f3 := e3.grown hg9 n3
            have f5 := e5.grown hg9 n5
            have f4 := e4.grown hg9 n4
            have fTc : w9.cell? ⟨G, K1, none⟩ = some V := (World.cell?_of_block (hg9.block G eT.blk.lt nT)).trans eTc
            have hsA : bA < (W1.alloc (.cells #[.int .i64 rr] 3)).heap.size := Nat.lt_of_lt_of_le hbA hB2X.size
            have fcp := (World.cell?_of_block (a := ⟨bA, oA + 2 * x'.val, none⟩) (hg9.block bA hsA nA)).trans ecp
            have fcq := (World.cell?_of_block (a := ⟨bA, oA + (2 * x'.val + 1), none⟩) (hg9.block bA hsA nA)).trans ecq
            refine wpHvs_value v' w9 (exec_append (.tmp 51) (.tmp 61) 22 rfl _ _ rfl rfl v' w9 hr9) ⟨⟨f3, f5, fTc, f4, fcp, fcq⟩, ?_⟩
            simp only [Act.put, List.setIfInBounds_toArray, List.set_cons_zero, List.set_cons_succ]
            refine wpHvs_nil ?_
            have hfz : w9.frozen? ⟨G, K1, none⟩ = false := (eT.blk.grown hg9 nT).frozen K1
            have hTn := eT.grow (by decide) (i := K1) (by omega) ho9' (by rw [HV.out]; exact hg9) (by rw [HV.out]; exact hat)
            rw [← HSN.out] at hTn
            have hB9X : Below w.heap.size X w9 := (hB2X.mono t6.size).grown hg9 hBw2X.size (fun b e => (hownV2.lt b e).1)
            have hs9 := hg9.size
            have hs2 := hB2X.size
            have hlt0 := t1.blk.lt
            have hoth9 : KeepsOthers X w9 := (below_others hB2X).trans (KeepsOthers.of_grownBy hg9 (fun b o eb hb => by
              rcases hownV2.2 with ⟨rfl, _⟩ | ⟨q', cap, cur, rfl, _, hgb, _⟩
              · simp [Value.ownBlock] at eb
              · obtain rfl : q' = b := by simpa [Value.ownBlock] using eb
                rw [hgb] at hb; cases hb; rfl))
            obtain ⟨A7, c7, ev, _, _⟩ := ho9'.form
            obtain ⟨NL, hNL⟩ : ∃ NL, (L ++ [rr]).length = NL := ⟨_, rfl⟩
            rw [hNL] at ev
            subst ev
            have m3 := f3.far (p := ⟨G, K1, none⟩) (by simp) (.slice A7 NL c7)
            have m5 := f5.far (p := ⟨G, K1, none⟩) (by show W.heap.size ≠ G; omega) (.slice A7 NL c7)
            have m4 := f4.far (p := ⟨G, K1, none⟩) (by show w.heap.size ≠ G; omega) (.slice A7 NL c7)
            have hoth : KeepsOthers X (w9.setCell ⟨G, K1, none⟩ (.slice A7 NL c7)) := hoth9.trans (KeepsOthers.setCell w9 ⟨G, K1, none⟩ (.slice A7 NL c7))
            have hBf : Below w.heap.size X (w9.setCell ⟨G, K1, none⟩ (.slice A7 NL c7)) := hB9X.setCell (p := ⟨G, K1, none⟩) (by show w.heap.size ≤ G; omega) _
            have nB1 : some (W.heap.size + 1) ≠ V.ownBlock := fun e => by have := t10 _ e.symm; omega
            have nB2 : some (W.heap.size + 1 + 1) ≠ V.ownBlock := fun e => by have := t10 _ e.symm; omega
            have hKp : KpC w.heap.size (W.heap.size + 1) (W.heap.size + 1 + 1) X (w9.setCell ⟨G, K1, none⟩ (.slice A7 NL c7)) :=
              ⟨hBf, (Below.heap_setCell w9 ⟨G, K1, none⟩ _ _ (by show W.heap.size + 1 ≠ G; omega)).trans ((hg9.block (W.heap.size + 1) (by omega) nB1).trans (hB2X.block _ (by omega))),
                (Below.heap_setCell w9 ⟨G, K1, none⟩ _ _ (by show W.heap.size + 1 + 1 ≠ G; omega)).trans ((hg9.block (W.heap.size + 1 + 1) (by omega) nB2).trans (hB2X.block _ (by omega)))⟩
            have hMf := t8.keeps hoth
            have t2' : ∀ i, i ≤ k → upd vs' K1 (.slice A7 NL c7) i = vs i := fun i hi' => by rw [upd_ne _ _ (by omega)]; exact t2 i hi'
            have t10' : k + 1 < 21 → ∀ b, (upd vs' K1 (.slice A7 NL c7) (k + 1)).ownBlock = some b → b < W.heap.size ∨ W.heap.size + 3 ≤ b := fun _ b e => by
              rw [hK1, upd_same] at e
              rcases hat with h | h
              · rw [h] at e; exact t10 b e
              · rw [h] at e
                injection e with e
                right; omega
            have hsf : W.heap.size + 3 ≤ (w9.setCell ⟨G, K1, none⟩ (.slice A7 NL c7)).heap.size := by simp; omega
            clear hat hr9 ho9 ho9' hg9 hNL hoth9 hB9X
            gi_wp2
            exact ⟨hoth.from _, hKp, _, hTn, t2', m3, m4, m5, t6.trans hBf, hsf, hMf, fun e => absurd e (by omega), t10'⟩
        case done =>
          rintro D ys X hD rfl ⟨vs', t1, t2, t3, t4, t5, t6, t7, t8, t9, t10⟩ hKd
          have hn2 : n ≠ 1 := fun e => by
            have h := t9 e
            rw [List.length_finRange] at h
            unfold chN at h; omega
          have hkj : k < j := by
            rcases Nat.lt_or_ge k j with h | h
            · exact h
            · obtain rfl : k = j := by omega
              exact absurd (by have := HLEN.out; simpa using this) hn2
          have hTn : TreeAt X w.heap.size G vs' (curL (doN op) a (k + 1) 0) := by
            have h1 := HLEN.out
            rw [show j - k = (j - k - 1) + 1 by omega, Nat.pow_succ] at h1
            rw [curP_all (doN op) a k n (2 ^ (j - k - 1)) (by rw [HTT.out, HNN.out]) (by omega)] at t1
            exact t1
          have hMn : Mks w.heap.size X (D :: Ds) := t8.cons (fun E hE => by have := hDs E hE; omega) (by omega) hKd
          clear t1 t8 tT tP tO tK tL tN tM t5 t10
          gi_wp2
          refine ⟨(hI _ _).2 ⟨k + 1, vs', D :: Ds, _, _, _, _, _, _, _, _, _, _, _, _, _, _, _, _, _, _, _, _, _, _, _, _, _, _, _, _, _, _, _, _, _, _, _, _, _, _, _, _, _, _, _, _, _, _, _, _, _, _, _, _, _, _, _, _, _, _, _, _, _, _, _, _, rfl, hkj, hTn, t3, t4, t6, by omega, hMn⟩, ?_⟩
          show 21 - (intOf (.int .i64 ((k : Int) + 1))).toNat < 21 - (intOf (.int .i64 (k : Int))).toNat
          simp only [intOf]
          omega
        case stop =>
          rintro D cd pre X hD ⟨q, hq, rfl⟩ ⟨rfl, hn2, vs', t1, t3, t6, t8, t7⟩ hKd
          have hkj : k = j := by
            rcases Nat.lt_or_ge k j with h | h
            · have h1 := HLEN.out
              have : 2 ^ 1 ≤ 2 ^ (j - k) := Nat.pow_le_pow_right (by omega) (by omega)
              omega
            · omega
          subst hkj
          rw [curL_end (doN op) (hal.trans HN.out.symm)] at t1
          have hMn : Mks w.heap.size X (D :: Ds) := t8.cons (fun E hE => by have := hDs E hE; omega) (by omega) hKd
          have c7 := t3.cell 0
          simp at c7
          clear t3 t8 tT tP tO tK tL tN tM
          gi_wp2
          refine leaves_marks (Pw := fun Y => TreeAt Y w.heap.size G vs' (lvK (doN op) a) ∧ Below w.heap.size w Y ∧ w.heap.size ≤ Y.heap.size) (B := w.heap.size) (fun Y E hY hE hk' => ?_) (fun Y hY => ?_) (D :: Ds) X hMn ⟨t1, t6, by omega⟩
          · have ha' : Aside w.heap.size Y (some E) := fun r e => by cases e; exact ⟨hE, _, hk', rfl⟩
            have hg' := grownBy_putObj' Y E (.deferred none)
            exact ⟨hY.1.aside hg' ha', below_aside hY.2.1 (Nat.le_refl _) (Nat.le_refl _) hg' ha', Nat.le_trans hY.2.2 hg'.size⟩
          · exact ⟨.pointer (some ⟨G, 0, none⟩), by simp [results, Tryz.f54, go_sem], G, vs', rfl, by omega, hY.1, hY.2.1⟩
end Go.Proofs.YtecpanppnljkhaaGreatDoor
