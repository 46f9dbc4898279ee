/- ScanTrees: Tree, Blocks and Levels, for any operation, list of at most 400 words, shape, and number: the law's call returns true, and what came in reads as it did. No condition but the row's own (the listed table holds what the text says). -/
import Derived.Test.YtecpanppnljkhaaGreatDoorJg
import Derived.Test.YtecpanppnljkhaaGreatDoorKa3
import Derived.Test.YtecpanppnljkhaaGreatDoorEl
import Derived.Test.YtecpanppnljkhaaGreatDoorQv
import Derived.Test.YtecpanppnljkhaaGreatDoorKa7
import Derived.Test.YtecpanppnljkhaaGreatDoorZa
import Derived.Test.YtecpanppnljkhaaGreatDoorKa2
import Derived.Test.YtecpanppnljkhaaGreatDoorTie
import Derived.Test.YtecpanppnljkhaaGreatDoorCards
import Derived.ChangeMaps5
namespace Go.Proofs.YtecpanppnljkhaaGreatDoor
set_option linter.unusedVariables false
set_option maxRecDepth 100000
open Go.RowKit Go.Shelf
theorem tree_err1 (op : Int) (A : Option Addr) (c : Nat) (u : Value) (l : List Int) (w : World) (hI : Inv w) (h : Sl w A l) (hcl : l.length ≤ c) (k : Ok l) (hc : cE op [l] ≠ 0) :
    Calls Tryz.prog 15 #[.int .i64 op, .slice A l.length c, u] w fun e w' => e = .returned (.tuple #[.int .i64 0, .int .i64 (cE op [l])]) ∧ Below w.heap.size w w' := by
  have bA := Blk.new w 22 #[.slice A l.length c]
  have hB0 : Below w.heap.size w (w.alloc (.cells #[.slice A l.length c] 22)) := (Below.refl _ _).alloc (Nat.le_refl _) _
  have C1 := checked_any op (some ⟨w.heap.size, 0, none⟩) 1 [l] _ (hI.below hB0) (sll1 bA (h.step hB0) hcl) (by simp) (allShort_of (by unfold Ok at k; simpa using k))
  have hd : (cE op [l] != 0) = true := by rw [bne_iff_ne]; exact hc
  have HE := Lib.hid hc
  obtain ⟨y, hy⟩ : ∃ y, cE op [l] = y := ⟨_, rfl⟩
  rw [hy] at C1 hd HE ⊢
  have C1 := Lib.hid C1
  clear hc hy
  go_enter Tryz.func15, Tryz.ntmps15
  go_wp2_with fail
  refine C1.out.mono ?_
  rintro e w1 ⟨n, f, rfl, hB, hg, hz⟩
  obtain ⟨rfl, rfl⟩ := hz HE.out
  clear hg hz
  have hB1 := hB0.trans (hB.mono (by simp))
  have hsz := hB.size
  simp at hsz
  have hB2 := hB1.alloc (by omega) (.cells #[.int .i64 0, .nilFunc] 58)
  go_wp2
  go_ret2
  exact ⟨rfl, hB2⟩
theorem tree_err2 (op : Int) (A A' : Option Addr) (c c' : Nat) (l shape : List Int) (w : World) (hI : Inv w) (h : Sl w A l) (hcl : l.length ≤ c) (k : Ok l) (h' : Sl w A' shape) (ks : shape.length ≤ 9223372036854775807) (he : cE op [l] = 0) (hs : ¬ Shape shape l.length) :
    Calls Tryz.prog 15 #[.int .i64 op, .slice A l.length c, .slice A' shape.length c'] w fun e w' => e = .returned (.tuple #[.int .i64 0, .int .i64 6]) ∧ Below w.heap.size w w' := by
  have hl16 := (lsE_ok (cE_ok he).2).1 l (by simp)
  have bA := Blk.new w 22 #[.slice A l.length c]
  have hB0 : Below w.heap.size w (w.alloc (.cells #[.slice A l.length c] 22)) := (Below.refl _ _).alloc (Nat.le_refl _) _
  have C1 := checked_any op (some ⟨w.heap.size, 0, none⟩) 1 [l] _ (hI.below hB0) (sll1 bA (h.step hB0) hcl) (by simp) (allShort_of (by unfold Ok at k; simpa using k))
  rw [he] at C1
  have C1 := Lib.hid C1
  have HS := Lib.hid hs
  have C2 := fun W (hW : Sl W A' shape) => isShape_any A' c' l.length shape W hW hl16 ks
  have C2 := Lib.hid C2
  clear he hs
  go_enter Tryz.func15, Tryz.ntmps15
  go_wp2_with fail
  refine C1.out.mono ?_
  rintro e w1 ⟨n, f, rfl, hB, hg, hz⟩
  obtain ⟨rfl, g, rfl, hgl, hgb⟩ := hg rfl
  clear hz
  have hB1 := hB0.trans (hB.mono (by simp))
  have hsz := hB.size
  simp at hsz hgl
  have hB2 := hB1.alloc (by omega) (.cells #[.int .i64 (neN op), .func (.func 87) #[] #[.pointer (some ⟨g, 0, none⟩)]] 58)
  have C2' := Lib.hid (C2.out _ (h'.step hB2))
  go_wp2_with fail
  refine C2'.out.mono ?_
  rintro e w2 ⟨⟨bb, rfl, hbb⟩, rfl⟩
  obtain rfl : bb = false := by
    cases bb with
    | false => rfl
    | true => exact absurd (hbb.1 rfl) HS.out
  clear hbb
  go_wp2
  go_ret2
  exact ⟨rfl, hB2⟩
end Go.Proofs.YtecpanppnljkhaaGreatDoor

namespace Go.Proofs.YtecpanppnljkhaaGreatDoor
set_option linter.unusedVariables false
open Go.RowKit Go.Shelf
set_option maxHeartbeats 4000000 in
theorem copy_gen (A : Option Addr) (c : Nat) (zs : List Int) (w : World) (h : Sl w A zs) (hl : zs.length ≤ 1048576) :
    Calls Tryz.prog 56 #[.slice A zs.length c] w fun e w' => ∃ v, e = .returned v ∧ OwnI w' w.heap.size v zs ∧ Below w.heap.size w w' := by
  obtain ⟨i0, hi, hz0, hz1, hz2⟩ := info_parts int_info
  by_cases h0 : zs.length = 0
  · obtain rfl := List.eq_nil_of_length_eq_zero h0
    have hown := OwnI.empty w w.heap.size (Nat.le_refl _)
    have hB0 := (Below.refl w.heap.size w).alloc (Nat.le_refl _) (.cells #[] 3)
    have hr := Lib.hid (run_app_empty (P := Tryz.prog) (w.alloc (.cells #[] 3)) 22 22 3 i0 Tryz.underlying22 hi (some ⟨w.heap.size, 0, none⟩) A 0 0 c (Nat.le_refl _))
    clear h0 h
    go_enter Tryz.func56, Tryz.ntmps56
    go_wp2_with (at_builtin; refine Lib.wpList_append_run _ rfl _ _ 22 22 rfl _ _ rfl rfl _ _ hr.out ?_)
    go_ret
    exact ⟨_, rfl, hown, hB0⟩
  · cases A with
    | none =>
      obtain ⟨_, _, e, _⟩ := h (by omega)
      cases e
    | some ad => exact copy_any (some ad) c zs w h (fun e => by cases e) hl
theorem wpList_append_sl {ops : Array Oper} {rest : List Oper} {o : Oper} {a : Act} {Q : Exit → Act → World → Prop} {w0 w : World} (hgd : o.guard = none) (s x : Operand)
    (ho : o.op = .call { callee := .builtin .append, args := #[s, x], argTypes := #[22, 22] }) (base : Nat) (v : Value) (zs : List Int) (hs : a.eval s = v) (hown : OwnI w base v zs)
    (A : Option Addr) (c : Nat) (ys : List Int) (hx : a.eval x = .slice A ys.length c) (hS : Sl w A ys) (h63 : zs.length + ys.length ≤ 1000000) (hB : Below base w0 w) (hb : base ≤ w.heap.size)
    (h : ∀ v' w', OwnI w' base v' (zs ++ ys) → Below base w0 w' → wpList Tryz.prog ops Q rest (a.put o.dst v') w') : wpList Tryz.prog ops Q (o :: rest) a w := by
  obtain ⟨i0, hi, hz0, hz1, hz2⟩ := info_parts int_info
  by_cases h0 : ys.length = 0
  · obtain rfl := List.eq_nil_of_length_eq_zero h0
    obtain ⟨A3, c3, rfl, hcc3, _⟩ := hown.form
    have hr := run_app_empty (P := Tryz.prog) w 22 o.type 3 i0 Tryz.underlying22 hi A3 A zs.length c3 c hcc3
    exact Lib.wpList_append_run w hgd s x 22 22 ho _ _ hs hx _ _ hr (h _ _ (by rw [List.append_nil]; exact hown) hB)
  · obtain ⟨b, off, rfl, _, _⟩ := hS (by omega)
    refine wpList_append_own w hgd s x 22 ho base 3 i0 (.int .i64 0) 1 8 Tryz.underlying22 hi hz0 hz1 hz2 rfl (by decide) v zs.length _ hs hown ⟨b, off, none⟩ ys.length c (ys.map (Value.int .i64)) hx (by simp) (Sl.newsA hS) (by intro u hu; obtain ⟨q, _, rfl⟩ := List.mem_map.1 hu; rfl) (by unfold maxLen; omega) (by omega) hb ?_
    intro v' w' hown' hgrow _
    exact h v' w' (OwnI.app hown' rfl rfl) (below_app' hB hb hown hgrow)
def vIs : Value → Bool → Bool
  | .bool b, c => b == c
  | _, _ => false
theorem vIs_spec {v : Value} {c : Bool} (h : vIs v c = true) : v = .bool c := by
  cases v with
  | bool b =>
    have : b = c := by simpa [vIs] using h
    rw [this]
  | _ => cases h
theorem v_guard {vs : List Value} {l : List Oper} (h : ((List.range l.length).all fun k => match l[k]? with | some o => (match o.guard with | some (j, b) => vIs (vs.getD j undef) b | none => true) | none => true) = true) :
    ∀ (k : Nat) (o : Oper) (j : Nat) (b : Bool), l[k]? = some o → o.guard = some (j, b) → vs.getD j undef = .bool b := fun k o j b ho hg => by
  have hk : k < l.length := (List.getElem?_eq_some_iff.1 ho).1
  have := List.all_eq_true.1 h k (List.mem_range.2 hk)
  simp only [ho, hg] at this
  exact vIs_spec this
/-- Wds of two lists. -/
theorem wds_app {a b : List Int} (ha : Wds a) (hb : Wds b) : Wds (a ++ b) := fun j hj => by
  rw [List.length_append] at hj
  rcases Nat.lt_or_ge j a.length with h | h
  · rw [nth_app_lt _ _ _ h]; exact ha j h
  · rw [nth_app_ge _ _ _ h]; exact hb _ (by omega)
end Go.Proofs.YtecpanppnljkhaaGreatDoor

namespace Go.Proofs.YtecpanppnljkhaaGreatDoor
set_option linter.unusedVariables false
open Go.RowKit Go.Shelf
attribute [local go_sem] Oper.semAt_some
set_option maxRecDepth 100000
theorem chK_length (n m j : Nat) : (chK n m j).length = j := by simp [chK]
theorem chL_length (n m : Nat) : (chL n m).length = spN n m := chK_length _ _ _
theorem spN_le (n m : Nat) (hm : 1 ≤ m) : spN n m ≤ n := by
  unfold spN
  have h : (n + m - 1) / m < n + 1 := by
    rw [Nat.div_lt_iff_lt_mul (by omega)]
    have : n * 1 ≤ n * m := Nat.mul_le_mul_left n hm
    rw [Nat.add_mul]
    omega
  omega
def spPK (zs : List Int) (m k : Nat) : List Int := (List.range k).flatMap fun k => chL (nth zs k).toNat m
def spOK (zs : List Int) (m k : Nat) : List Int := (List.range k).map fun k => ((spN (nth zs k).toNat m : Nat) : Int)
theorem spPK_succ (zs : List Int) (m k : Nat) : spPK zs m (k + 1) = spPK zs m k ++ chL (nth zs k).toNat m := by simp [spPK, List.range_succ]
theorem spOK_succ (zs : List Int) (m k : Nat) : spOK zs m (k + 1) = spOK zs m k ++ [((spN (nth zs k).toNat m : Nat) : Int)] := by simp [spOK, List.range_succ]
theorem spOK_length (zs : List Int) (m k : Nat) : (spOK zs m k).length = k := by simp [spOK]
theorem spPK_length (zs : List Int) (m k : Nat) (hm : 1 ≤ m) (hk : k ≤ zs.length) (h : ∀ j, j < zs.length → (nth zs j).toNat ≤ 1048576) : (spPK zs m k).length ≤ k * 1048576 := by
  induction k with
  | zero => simp [spPK]
  | succ k ih =>
    rw [spPK_succ, List.length_append, chL_length, Nat.succ_mul]
    have h1 := ih (by omega)
    have h2 := spN_le (nth zs k).toNat m hm
    have h3 := h k (by omega)
    omega
/-- A row that is kept while another one is written. -/
theorem OwnI.beside {w w1 : World} {base base' : Nat} {u v : Value} {xs zs : List Int} {o : Obj} (h : OwnI w base u xs) (hne : u.ownBlock = none ∨ u.ownBlock ≠ v.ownBlock) (hg : (w.alloc o).grownBy w1 v.ownBlock) : OwnI w1 base u xs :=
  (h.alloc o).kept hg hne
def Apart (u v : Value) : Prop := u.ownBlock = none ∨ u.ownBlock ≠ v.ownBlock
theorem Apart.symm_ {u v : Value} (h : Apart u v) : Apart v u := by
  rcases h with h | h
  · by_cases e : v.ownBlock = none
    · exact .inl e
    · exact .inr (fun e' => e (by rw [e', h]))
  · exact .inr (fun e => h e.symm)
/-- What an append hands back lies where its slice lay, or in a new block. -/
theorem apart_append {u v v' : Value} {w : World} {base : Nat} {xs : List Int} {o : Obj} (h : OwnI w base u xs) (ha : Apart u v) (hat : v'.ownBlock = v.ownBlock ∨ v'.ownBlock = some (w.alloc o).heap.size) : Apart u v' := by
  rcases hat with e | e
  · unfold Apart; rw [e]; exact ha
  · refine .inr fun e' => ?_
    rw [e, World.size_alloc] at e'
    have := (h.lt _ e').2
    omega
set_option maxRecDepth 100000 in
set_option maxHeartbeats 4000000 in
theorem rsplit_any (A : Option Addr) (c : Nat) (zs : List Int) (most : Int) (w : World) (h : Sl w A zs) (hl : zs.length ≤ 9223372036854775807) :
    Calls Tryz.prog 53 #[.slice A zs.length c, .int .i64 most] w (RetLL w (orL (spE zs most) (spP zs most.toNat)) (orL (spE zs most) (spO zs most.toNat)) (spE zs most)) := by
  obtain ⟨i0, hi, hz0, hz1, hz2⟩ := info_parts int_info
  have C1 := rcheck_any A c zs w h hl
  by_cases he : ckE zs = 0
  · have hF := Fine.of_ck he
    have hlen := hF.len
    rw [he] at C1
    by_cases hb : 1 ≤ most ∧ most ≤ 1048576
    · have HE := Lib.hid (show spE zs most = 0 by simp [spE, he, hb])
      obtain ⟨m, rfl⟩ : ∃ m : Nat, most = (m : Int) := ⟨most.toNat, by omega⟩
      have hm1 : 1 ≤ m := by omega
      have hm2 : m ≤ 1048576 := by omega
      have C2 : ∀ w, Calls Tryz.prog 52 #[.int .i64 (m : Int), .int .i64 1, .int .i64 1048576] w fun e w' => e = .returned (.bool true) ∧ w = w' := fun w => by
        have := lies_any (m : Int) 1 1048576 w
        rw [decide_eq_true (by omega)] at this
        exact this
      clear he hb
      rw [Int.toNat_natCast]
      go_enter Tryz.func53, Tryz.ntmps53
      go_wp2_with fail
      refine C1.mono ?_
      rintro e w1 ⟨rfl, rfl⟩
      go_wp2_with fail
      refine (C2 _).mono ?_
      rintro e w1 ⟨rfl, rfl⟩
      clear C1 C2
      go_wp2
      go_loopw [9, 10, 11] (fun v u i wr => ∃ k : Nat, k ≤ zs.length ∧ i = .int .i64 k ∧ OwnI wr w.heap.size v (spPK zs m k) ∧ OwnI wr w.heap.size u (spOK zs m k) ∧ Apart u v ∧ Below w.heap.size w wr) (fun _ _ i _ => zs.length - (intOf i).toNat)
      case atStart => exact ⟨0, Nat.zero_le _, rfl, (OwnI.empty w _ (Nat.le_refl _)).alloc _, by simpa [spOK] using OwnI.empty (w.alloc (.cells #[] 3)) w.heap.size (by simp), by simp [Apart, Value.ownBlock], ((Below.refl _ _).alloc (Nat.le_refl _) _).alloc (by simp) _⟩
      case round =>
        obtain ⟨k, hk, rfl, hown, hown2, hap, hB⟩ := hrel
        by_cases hlt : k < zs.length
        · obtain ⟨bl, off, rfl, hbl, hcl⟩ := h.at_ hlt
          obtain ⟨n, hn⟩ : ∃ n : Nat, nth zs k = (n : Int) := ⟨(nth zs k).toNat, by have := hF.nth k hlt; omega⟩
          have hn2 : n ≤ 1048576 := by have := (hF.nth k hlt).2; omega
          have HPL := spPK_length zs m k hm1 hk (fun j hj => by have := (hF.nth j hj).2; omega)
          have hPL : (spPK zs m k).length ≤ 1099511627776 := by omega
          have HP := Lib.hid (show spPK zs m (k + 1) = spPK zs m k ++ chL n m by rw [spPK_succ, hn]; rfl)
          have HO := Lib.hid (show spOK zs m (k + 1) = spOK zs m k ++ [((spN n m : Nat) : Int)] by rw [spOK_succ, hn]; rfl)
          have HOL := Lib.hid (spOK_length zs m k)
          rw [hn] at hcl
          clear hn HPL
          have hcr := (hB.cell (p := ⟨bl, off + k, none⟩) hbl).trans hcl
          obtain ⟨wo, rfl⟩ : ∃ wo : World, wo = wr := ⟨_, rfl⟩
          obtain ⟨P0, hP0⟩ : ∃ P0, P0 = spPK zs m k := ⟨_, rfl⟩
          rw [← hP0] at hown HP hPL
          have HP0 := Lib.hid hP0
          clear hP0
          go_wp2
          go_loopw [9, 12, 13] (fun v q y wr => ∃ (j : Nat) (L : Int) (Z : List Int), q = .int .i64 j ∧ y = .int .i64 L ∧ Hid (L = (n : Int) - (j : Int) * (m : Int)) ∧ -1048576 ≤ L ∧ L ≤ (n : Int) ∧ (j : Int) + L ≤ (n : Int) ∧ Hid (j = 0 ∨ (j - 1) * m < n) ∧ j ≤ n ∧ Hid (Z = P0 ++ chK n m j) ∧ Z.length ≤ P0.length + j ∧ OwnI wr w.heap.size v Z ∧ OwnI wr w.heap.size u10 (spOK zs m k) ∧ Apart u10 v ∧ Below w.heap.size w wr) (fun _ _ y _ => (intOf y).toNat)
          case atStart => exact ⟨0, n, P0, rfl, rfl, Lib.hid (by simp), by omega, by omega, by omega, Lib.hid (.inl rfl), by omega, Lib.hid (by simp [chK_zero]), by omega, hown, hown2, hap, hB⟩
          case round =>
            obtain ⟨j, L, Z, rfl, rfl, HL, hL1, hL2, hL3, HJ, hjn, HZ, hZ, hv, hu, ha, hB2⟩ := hrel
            by_cases hpos : 0 < L
            · have hB2s := hB2.size
              have HJ' : Hid (j + 1 = 0 ∨ (j + 1 - 1) * m < n) := Lib.hid (.inr (by
                have h1 := HL.out
                rw [Nat.add_sub_cancel]
                have h2 : ((j * m : Nat) : Int) = (j : Int) * (m : Int) := by simp
                omega))
              have HZ' : Hid (Z ++ [min L (m : Int)] = P0 ++ chK n m (j + 1)) := Lib.hid (by rw [HZ.out, chK_succ, ← HL.out, List.append_assoc])
              have HL' : Hid (L - (m : Int) = (n : Int) - ((j + 1 : Nat) : Int) * (m : Int)) := Lib.hid (by
                rw [HL.out, Int.natCast_add, Int.add_mul]; simp; omega)
              by_cases hmin : L ≤ (m : Int)
              · rw [Int.min_eq_left hmin] at HZ'; have hmn := Int.min_eq_left hmin
                go_wp2_with (at_builtin; refine wpList_append_own_at _ rfl _ _ 22 rfl w.heap.size 3 i0 (.int .i64 0) 1 8 Tryz.underlying22 hi hz0 hz1 hz2 rfl (by decide) _ _ _ rfl (hv.alloc _) ⟨wr.heap.size, 0, none⟩ 1 1 [.int .i64 L] rfl rfl (cell_one_new _ _ _) (by simp [Value.oneCell']) (by unfold maxLen; omega) (by omega) (by simp; omega) ?_; intro v' w1 hown' hgrow _ hat)
                have hv1 : OwnI w1 w.heap.size v' (Z ++ [L]) := OwnI.snoc hown'
                have hu1 := hu.beside (zs := Z) (base' := 0) ha hgrow
                have ha1 := apart_append hu ha hat
                have hB3 := below_append hB2 hB2s hv hgrow
                clear hown' hgrow hat
                go_roundw
                case rel => exact ⟨j + 1, L - m, Z ++ [L], by go_num, rfl, HL', by omega, by omega, by omega, HJ', by omega, HZ', by rw [List.length_append]; simp only [List.length_cons, List.length_nil]; omega, hv1, hu1, ha1, hB3⟩
                case measure => simp [intOf]; omega
              · have hmin' : (m : Int) ≤ L := by omega
                rw [Int.min_eq_right hmin'] at HZ'; have hmn := Int.min_eq_right hmin'
                go_wp2_with (at_builtin; refine wpList_append_own_at _ rfl _ _ 22 rfl w.heap.size 3 i0 (.int .i64 0) 1 8 Tryz.underlying22 hi hz0 hz1 hz2 rfl (by decide) _ _ _ rfl (hv.alloc _) ⟨wr.heap.size, 0, none⟩ 1 1 [.int .i64 (m : Int)] rfl rfl (cell_one_new _ _ _) (by simp [Value.oneCell']) (by unfold maxLen; omega) (by omega) (by simp; omega) ?_; intro v' w1 hown' hgrow _ hat)
                have hv1 : OwnI w1 w.heap.size v' (Z ++ [(m : Int)]) := OwnI.snoc hown'
                have hu1 := hu.beside (zs := Z) (base' := 0) ha hgrow
                have ha1 := apart_append hu ha hat
                have hB3 := below_append hB2 hB2s hv hgrow
                clear hown' hgrow hat
                go_roundw
                case rel => exact ⟨j + 1, L - m, Z ++ [(m : Int)], by go_num, rfl, HL', by omega, by omega, by omega, HJ', by omega, HZ', by rw [List.length_append]; simp only [List.length_cons, List.length_nil]; omega, hv1, hu1, ha1, hB3⟩
                case measure => simp [intOf]; omega
            · have HJN : Hid (j = spN n m) := Lib.hid (spN_eq hm1 (by
                have h1 := HL.out
                have h2 : ((j * m : Nat) : Int) = (j : Int) * (m : Int) := by simp
                omega) HJ.out)
              have hB2s := hB2.size
              have HZ' : Hid (Z = spPK zs m (k + 1)) := Lib.hid (by rw [HZ.out, HP.out, HJN.out]; rfl)
              have HO' : Hid (spOK zs m k ++ [(j : Int)] = spOK zs m (k + 1)) := Lib.hid (by rw [HO.out, ← HJN.out])
              go_wp2_with (at_builtin; refine wpList_append_own_at _ rfl _ _ 22 rfl w.heap.size 3 i0 (.int .i64 0) 1 8 Tryz.underlying22 hi hz0 hz1 hz2 rfl (by decide) _ _ _ rfl (hu.alloc _) ⟨wr.heap.size, 0, none⟩ 1 1 [.int .i64 (j : Int)] rfl rfl (cell_one_new _ _ _) (by simp [Value.oneCell']) (by rw [HOL.out]; unfold maxLen; omega) (by rw [HOL.out]; omega) (by simp; omega) ?_; intro u' w1 hown' hgrow _ hat)
              have hu1 : OwnI w1 w.heap.size u' (spOK zs m (k + 1)) := by rw [← HO'.out]; exact OwnI.snoc hown'
              have hv1 := hv.beside (zs := Z) (base' := 0) ha.symm_ hgrow
              have ha1 := (apart_append hv ha.symm_ hat).symm_
              have hB3 := below_append hB2 hB2s hu hgrow
              clear hown' hgrow hat
              go_roundw
              case rel => exact ⟨k + 1, by omega, by go_num, by rw [← HZ'.out]; exact hv1, hu1, ha1, hB3⟩
              case measure => simp [intOf]; omega
        · obtain rfl : k = zs.length := by omega
          obtain ⟨A2, c2, rfl, hcc, hsl⟩ := hown.form
          obtain ⟨A3, c3, rfl, hcc3, hsl3⟩ := hown2.form
          go_wp2
          go_ret3
          rw [HE.out]
          exact ⟨A2, c2, A3, c3, rfl, hcc, hcc3, hsl, hsl3, hB⟩
    · have HE := Lib.hid (show spE zs most = 2 by simp only [spE, he, if_neg hb]; simp)
      have C2 : ∀ w, Calls Tryz.prog 52 #[.int .i64 most, .int .i64 1, .int .i64 1048576] w fun e w' => e = .returned (.bool false) ∧ w = w' := fun w => by
        have := lies_any most 1 1048576 w
        rw [decide_eq_false hb] at this
        exact this
      clear he hb
      go_enter Tryz.func53, Tryz.ntmps53
      go_wp2_with fail
      refine C1.mono ?_
      rintro e w1 ⟨rfl, rfl⟩
      go_wp2_with fail
      refine (C2 _).mono ?_
      rintro e w1 ⟨rfl, rfl⟩
      go_wp2
      go_ret3
      rw [HE.out]
      exact retLL_nil (Below.refl _ _)
  · have hd : (ckE zs != 0) = true := by rw [bne_iff_ne]; exact he
    have HE := Lib.hid (show spE zs most = ckE zs by simp [spE, he])
    have HO := Lib.hid (show ∀ l, orL (ckE zs) l = [] by simp [orL, he])
    clear he
    go_enter Tryz.func53, Tryz.ntmps53
    go_wp2_with fail
    refine C1.mono ?_
    rintro e w1 ⟨rfl, rfl⟩
    go_wp2
    go_ret3
    rw [HE.out, HO.out, HO.out]
    exact retLL_nil (Below.refl _ _)
end Go.Proofs.YtecpanppnljkhaaGreatDoor

namespace Go.Proofs.YtecpanppnljkhaaGreatDoor
set_option linter.unusedVariables false
set_option maxRecDepth 100000
open Go.RowKit Go.Shelf
theorem asked_any (A : Option Addr) (cl : Nat) (op : Int) (l : List Int) (w : World) (h : Sl w A l) (k : Ok l) :
    Calls Tryz.prog 45 #[.int .i64 op, .slice A l.length cl] w (Ret (.int .i64 (cE op [l])) w) := by
  have C1 := rneutral_any op w
  have k1 : l.length ≤ 9223372036854775807 := k
  by_cases hn : neE op = 0
  · rw [hn] at C1
    have C1 := Lib.hid C1
    by_cases h1 : l.length ≤ 1048576
    · cases hw1 : wordsB l with
      | true =>
        have HE := Lib.hid (show cE op [l] = 0 by rw [cE_ls _ hn]; unfold lsE; rw [if_pos (by simp [shortB, h1]), if_pos (by simp [hw1])])
        have C2 := Lib.hid (fun W hW => words_any A cl l W hW k1)
        rw [hw1] at C2
        clear hw1 hn
        go_enter Tryz.func45, Tryz.ntmps45
        go_wp2_with fail
        refine C1.out.mono ?_
        rintro e w1 ⟨rfl, hB⟩
        go_wp2_with fail
        refine (C2.out _ (h.step hB)).mono ?_
        rintro e w' ⟨rfl, rfl⟩
        go_wp2
        go_ret; exact ⟨ret_int HE.out.symm, hB⟩
      | false =>
        have HE := Lib.hid (show cE op [l] = 2 by rw [cE_ls _ hn]; unfold lsE; rw [if_pos (by simp [shortB, h1]), if_neg (by simp [hw1])])
        have C2 := Lib.hid (fun W hW => words_any A cl l W hW k1)
        rw [hw1] at C2
        clear hw1 hn
        go_enter Tryz.func45, Tryz.ntmps45
        go_wp2_with fail
        refine C1.out.mono ?_
        rintro e w1 ⟨rfl, hB⟩
        go_wp2_with fail
        refine (C2.out _ (h.step hB)).mono ?_
        rintro e w' ⟨rfl, rfl⟩
        go_wp2
        go_ret; exact ⟨ret_int HE.out.symm, hB⟩
    · have HE := Lib.hid (show cE op [l] = 3 by rw [cE_ls _ hn]; unfold lsE; rw [if_neg (by simp [shortB]; omega)])
      clear hn
      go_enter Tryz.func45, Tryz.ntmps45
      go_wp2_with fail
      refine C1.out.mono ?_
      rintro e w1 ⟨rfl, hB⟩
      go_wp2
      go_ret; exact ⟨ret_int HE.out.symm, hB⟩
  · have HE := Lib.hid (show cE op [l] = neE op from cE_ne _ hn)
    obtain ⟨s, hss⟩ : ∃ s, neE op = s := ⟨_, rfl⟩
    rw [hss] at HE C1 hn
    have hsd : (s != 0) = true := by rw [bne_iff_ne]; exact hn
    have C1 := Lib.hid C1
    clear hss
    go_enter Tryz.func45, Tryz.ntmps45
    go_wp2_with fail
    refine C1.out.mono ?_
    rintro e w1 ⟨rfl, hB⟩
    go_wp2
    go_ret; exact ⟨ret_int HE.out.symm, hB⟩
set_option maxHeartbeats 4000000 in
theorem rshape_any (A : Option Addr) (c n : Nat) (s : List Int) (w : World) (h : Sl w A s) (hn : n ≤ 1048576) (hs : s.length ≤ 9223372036854775807) :
    Calls Tryz.prog 46 #[.slice A s.length c, .int .i64 (n : Int)] w (RetQ (Shape s n) w) := by
  by_cases h1 : n < 1
  · have HF : Hid (¬ Shape s n) := Lib.hid (fun ⟨h, _⟩ => by omega)
    have h1i : (n : Int) < 1 := by omega
    clear h1
    go_enter Tryz.func46, Tryz.ntmps46
    go_wp2
    go_ret
    exact ⟨⟨false, rfl, by simpa using HF.out⟩, rfl⟩
  have h1i : ¬ (n : Int) < 1 := by omega
  obtain ⟨m, hm⟩ : ∃ m : Nat, n - 1 = m := ⟨_, rfl⟩
  have hmi : (n : Int) - 1 = (m : Int) := by omega
  have hmw : IntKind.i64.wrap (m : Int) = (m : Int) := IntWalk.i64_in _ (by omega)
  by_cases hl : s.length = m
  case neg =>
    have HF : Hid (¬ Shape s n) := Lib.hid (fun ⟨h, _⟩ => by omega)
    have hld : ((s.length : Int) != (m : Int)) = true := by rw [bne_iff_ne]; omega
    clear h1 hm hl
    go_enter Tryz.func46, Tryz.ntmps46
    go_wp2
    go_ret
    exact ⟨⟨false, rfl, by simpa using HF.out⟩, rfl⟩
  have HL := Lib.hid hl
  rw [hl]
  have HM := Lib.hid hm
  clear hm h1
  go_enter Tryz.func46, Tryz.ntmps46
  go_wp2
  clear hmi hmw
  go_loop [5] (fun i => ∃ k : Nat, k ≤ m ∧ i = .int .i64 k ∧ Hid (ShapeK s n k)) (fun i => m - (intOf i).toNat)
  case atStart => exact ⟨0, Nat.zero_le _, rfl, Lib.hid (fun j hj => by omega)⟩
  case round =>
    obtain ⟨k, hk, rfl, HK⟩ := hrel
    by_cases hlt : k < m
    · obtain ⟨b, off, rfl, hb, hc⟩ := h.at_ (k := k) (by rw [HL.out]; exact hlt)
      obtain ⟨x, hx⟩ : ∃ x, nth s k = x := ⟨_, rfl⟩
      rw [hx] at hc
      have HX := Lib.hid hx
      have q1 : (0 : Int) ≤ (k : Int) := by omega
      have q2 : (k : Int) < (m : Int) := by omega
      have hnm := HM.out
      obtain ⟨y, hy⟩ : ∃ y : Int, (n : Int) - 2 - (k : Int) = y := ⟨_, rfl⟩
      have hw1 : IntKind.i64.wrap ((n : Int) - 2) = (n : Int) - 2 := IntWalk.i64_in _ (by omega)
      have hw2 : IntKind.i64.wrap y = y := IntWalk.i64_in _ (by omega)
      have C := Lib.hid (fun W => lies_any x 0 y W)
      have HY := Lib.hid hy
      clear hx hnm
      by_cases hin : 0 ≤ x ∧ x ≤ y
      · have C := Lib.hid (fun W => by have := C.out W; rw [decide_eq_true hin] at this; exact this)
        have HK2 : Hid (ShapeK s n (k + 1)) := Lib.hid (fun j hj => by
          by_cases e : j < k
          · exact HK.out j e
          · obtain rfl : j = k := by omega
            rw [HX.out]
            have := HY.out
            omega)
        clear hin
        go_wp2_with fail
        refine (C.out _).mono ?_
        rintro e w' ⟨rfl, rfl⟩
        go_wp2
        go_round
        case rel => exact ⟨k + 1, by omega, by go_num, HK2⟩
        case measure => simp [intOf]; omega
      · have C := Lib.hid (fun W => by have := C.out W; rw [decide_eq_false hin] at this; exact this)
        have HF : Hid (¬ Shape s n) := Lib.hid (fun ⟨_, hh⟩ => hin (by have := hh k (by rw [HL.out]; exact hlt); rw [HX.out] at this; have := HY.out; omega))
        clear hin
        go_wp2_with fail
        refine (C.out _).mono ?_
        rintro e w' ⟨rfl, rfl⟩
        go_wp2
        go_ret
        exact ⟨⟨false, rfl, by simpa using HF.out⟩, rfl⟩
    · obtain rfl : k = m := by omega
      have HT : Hid (Shape s n) := Lib.hid ⟨by have := HL.out; have := HM.out; omega, by rw [HL.out]; exact HK.out⟩
      go_wp2
      go_ret
      exact ⟨⟨true, rfl, by simpa using HT.out⟩, rfl⟩
theorem rwith_any (A : Option Addr) (c n : Nat) (zs : List Int) (x : Int) (w : World) (h : Sl w A zs) (hn : zs.length = n) (hl : n ≤ 1048576) :
    Calls Tryz.prog 47 #[.slice A n c, .int .i64 x] w fun e w' => ∃ v, e = .returned v ∧ OwnI w' w.heap.size v (zs ++ [x]) ∧ Below w.heap.size w w' := by
  subst hn
  obtain ⟨i0, hi, hz0, hz1, hz2⟩ := info_parts int_info
  have C := Lib.hid (copy_gen A c zs w h hl)
  go_enter Tryz.func47, Tryz.ntmps47
  go_wp2_with fail
  refine C.out.mono ?_
  rintro e wr ⟨v, rfl, hown, hBr⟩
  go_wp2_with (at_builtin; refine wpList_append_own _ rfl _ _ 22 rfl w.heap.size 3 i0 (.int .i64 0) 1 8 Tryz.underlying22 hi hz0 hz1 hz2 rfl (by decide) _ _ _ rfl (hown.alloc _) ⟨_, 0, none⟩ 1 1 [.int .i64 x] rfl rfl (cell_one_new _ _ _) (by simp [Value.oneCell']) (by unfold maxLen; omega) (by omega) (by have := hBr.size; simp; omega) ?_; intro v' w2q hown' hgrow _; have hB2 := below_append hBr hBr.size hown hgrow)
  have hown2 := OwnI.snoc hown'
  clear hown' hgrow
  go_ret
  exact ⟨_, rfl, hown2, hB2⟩
/-- Two neighbours joined change no fold. -/
theorem Mon.surg {f : Int → Int → Int} {x : Int} (M : Mon f x) {l : List Int} (h : Wds l) (t : Nat) (ht : t + 1 < l.length) :
    Wds (l.take t ++ [f (nth l t) (nth l (t + 1))] ++ l.drop (t + 2)) ∧ scN f x (l.take t ++ [f (nth l t) (nth l (t + 1))] ++ l.drop (t + 2)) (l.take t ++ [f (nth l t) (nth l (t + 1))] ++ l.drop (t + 2)).length = scN f x l l.length := by
  have w1 : Wds (l.take t) := fun j hj => by
    rw [List.length_take] at hj
    rw [nth_take _ _ _ (by omega)]; exact h.at _
  have w2 : Wds (l.drop (t + 2)) := fun j hj => by rw [nth_drop]; exact h.at _
  have wa := h.at t
  have wb := h.at (t + 1)
  have w3 : Wds [f (nth l t) (nth l (t + 1))] := fun j hj => by
    simp at hj; subst hj; exact M.word _ _ wa wb
  have w4 : Wds [nth l t, nth l (t + 1)] := fun j hj => by
    match j, hj with
    | 0, _ => exact wa
    | 1, _ => exact wb
    | j + 2, h => exact absurd h (by simp)
  have el : l = l.take t ++ [nth l t, nth l (t + 1)] ++ l.drop (t + 2) := by
    have e1 : l.drop t = nth l t :: l.drop (t + 1) := by rw [List.drop_eq_getElem_cons (by omega), nth_eq l t (by omega)]
    have e2 : l.drop (t + 1) = nth l (t + 1) :: l.drop (t + 2) := by rw [List.drop_eq_getElem_cons (by omega), nth_eq l (t + 1) (by omega)]
    rw [List.append_assoc]
    show l = l.take t ++ (nth l t :: nth l (t + 1) :: l.drop (t + 2))
    rw [← e2, ← e1, List.take_append_drop]
  have s3 : scN f x [f (nth l t) (nth l (t + 1))] 1 = f (nth l t) (nth l (t + 1)) := M.left _ (M.word _ _ wa wb)
  have s4 : scN f x [nth l t, nth l (t + 1)] 2 = f (nth l t) (nth l (t + 1)) := by
    show f (f x (nth l t)) (nth l (t + 1)) = _
    rw [M.left _ wa]
  refine ⟨wds_app (wds_app w1 w3) w2, ?_⟩
  rw [M.fold_app (wds_app w1 w3) w2, M.fold_app w1 w3]
  conv => rhs; rw [el]
  rw [M.fold_app (wds_app w1 w4) w2, M.fold_app w1 w4]
  show f (f _ (scN f x [f (nth l t) (nth l (t + 1))] 1)) _ = f (f _ (scN f x [nth l t, nth l (t + 1)] 2)) _
  rw [s3, s4]
theorem rtree_err1 (op : Int) (A : Option Addr) (c n c2 : Nat) (A2 : Option Addr) (l : List Int) (w : World) (h : Sl w A l) (k : Ok l) (hc : cE op [l] ≠ 0) :
    Calls Tryz.prog 16 #[.int .i64 op, .slice A l.length c, .slice A2 n c2] w fun e w' => e = .returned (.tuple #[.int .i64 0, .int .i64 (cE op [l])]) ∧ Below w.heap.size w w' := by
  have C1 := asked_any A c op l w h k
  have hd : (cE op [l] != 0) = true := by rw [bne_iff_ne]; exact hc
  obtain ⟨y, hy⟩ : ∃ y, cE op [l] = y := ⟨_, rfl⟩
  rw [hy] at C1 hd ⊢
  have C1 := Lib.hid C1
  clear hy hc
  go_enter Tryz.func16, Tryz.ntmps16
  go_wp2_with fail
  refine C1.out.mono ?_
  rintro e w1 ⟨rfl, hB⟩
  go_wp2
  go_ret2
  exact ⟨rfl, hB⟩
theorem rtree_err2 (op : Int) (A A2 : Option Addr) (c c2 : Nat) (l s : List Int) (w : World) (h : Sl w A l) (k : Ok l) (h2 : Sl w A2 s) (ks : s.length ≤ 9223372036854775807) (hc : cE op [l] = 0) (hs : ¬ Shape s l.length) :
    Calls Tryz.prog 16 #[.int .i64 op, .slice A l.length c, .slice A2 s.length c2] w fun e w' => e = .returned (.tuple #[.int .i64 0, .int .i64 6]) ∧ Below w.heap.size w w' := by
  have C1 := asked_any A c op l w h k
  have hl := (lsE_ok (cE_ok hc).2).1 l (by simp)
  have C2 := Lib.hid (fun W hW => rshape_any A2 c2 l.length s W hW hl ks)
  have HS := Lib.hid hs
  rw [hc] at C1
  have C1 := Lib.hid C1
  clear hs hc
  go_enter Tryz.func16, Tryz.ntmps16
  go_wp2_with fail
  refine C1.out.mono ?_
  rintro e w1 ⟨rfl, hB⟩
  go_wp2_with fail
  refine (C2.out _ (h2.step hB)).mono ?_
  rintro e w' ⟨⟨b, rfl, hb⟩, rfl⟩
  have hbf : b = false := by
    cases b with
    | false => rfl
    | true => exact absurd (hb.1 rfl) HS.out
  subst hbf
  clear hb C2 C1
  go_wp2
  go_ret2
  exact ⟨rfl, hB⟩
set_option maxHeartbeats 8000000 in
theorem rtree_ok (op : Int) (A A2 : Option Addr) (c c2 : Nat) (l s : List Int) (w : World) (h : Sl w A l) (hcl : l.length ≤ c) (hl4 : l.length ≤ 1000) (h2 : Sl w A2 s) (hc : cE op [l] = 0) (hs : Shape s l.length) (hn : 0 < l.length) :
    Calls Tryz.prog 16 #[.int .i64 op, .slice A l.length c, .slice A2 s.length c2] w fun e w' => e = .returned (.tuple #[.int .i64 (scN (doN op) (neN op) l l.length), .int .i64 0]) ∧ Below w.heap.size w w' := by
  have k : Ok l := by unfold Ok; omega
  have hsl : s.length ≤ 1000 := by have := hs.1; omega
  have C1 := asked_any A c op l w h k
  have haB := neE_aB (cE_ok hc).1
  have hw : Wds l := (lsE_ok (cE_ok hc).2).2 l (by simp)
  have C2 := Lib.hid (fun W hW => rshape_any A2 c2 l.length s W hW (by omega) (by omega))
  have HS := Lib.hid hs
  rw [hc] at C1
  have C1 := Lib.hid C1
  have HB := Lib.hid haB; have HM := Lib.hid (mon_op haB); have HW := Lib.hid hw
  obtain ⟨T, hT⟩ : ∃ T, scN (doN op) (neN op) l l.length = T := ⟨_, rfl⟩
  have HT := Lib.hid hT
  rw [hT]
  obtain ⟨n, hnn⟩ : ∃ n, l.length = n := ⟨_, rfl⟩
  have HN := Lib.hid hnn
  have hs1 : Hid ((s.length : Int) = (n : Int) - 1) := Lib.hid (by rw [← hnn]; exact hs.1)
  simp only [hnn] at C1 C2
  rw [hnn] at hn hcl hl4 ⊢
  obtain ⟨S, hS⟩ : ∃ S, s.length = S := ⟨_, rfl⟩
  have HSl := Lib.hid hS
  simp only [hS] at C2
  rw [hS] at hsl ⊢
  clear hs hc haB hw hT hnn hS
  go_enter Tryz.func16, Tryz.ntmps16
  go_wp2_with fail
  refine C1.out.mono ?_
  rintro e w1 ⟨rfl, hB⟩
  go_wp2_with fail
  refine (C2.out _ (h2.step hB)).mono ?_
  rintro e w' ⟨⟨b, rfl, hb⟩, rfl⟩
  have hbf : b = true := hb.2 (by have := HS.out; rw [HN.out] at this; exact this)
  subst hbf
  clear hb C2 C1
  go_wp2
  go_loopw [1, 9] (fun v i wr => ∃ (k P : Nat) (l' : List Int) (A' : Option Addr) (c' : Nat), k ≤ S ∧ i = .int .i64 k ∧ v = .slice A' P c' ∧ P ≤ c' ∧ P + k = n ∧ Hid (l'.length = P) ∧ Hid (Wds l') ∧ Hid (scN (doN op) (neN op) l' l'.length = T) ∧ Sl wr A' l' ∧ Below w.heap.size w wr) (fun _ i _ => S - (intOf i).toNat)
  case atStart => exact ⟨0, n, l, A, c, Nat.zero_le _, rfl, rfl, hcl, rfl, HN, HW, HT, h.step hB, hB⟩
  case round =>
    obtain ⟨k, P, l', A', c', hk, rfl, rfl, hPc, hPk, HL, HWl, HF, hsl', hBr⟩ := hrel
    by_cases hlt : k < S
    · have hsh := HS.out.2 k (by rw [HSl.out]; exact hlt)
      rw [HN.out] at hsh
      obtain ⟨b2, o2, rfl, hb2, hq2⟩ := (h2.step hBr).at_ (k := k) (by rw [HSl.out]; exact hlt)
      obtain ⟨t, ht⟩ : ∃ t : Nat, nth s k = (t : Int) := ⟨(nth s k).toNat, by omega⟩
      rw [ht] at hsh hq2
      have ht2 : t + 2 ≤ P := by omega
      obtain ⟨u, hu⟩ : ∃ u, t + 1 = u := ⟨_, rfl⟩
      obtain ⟨v2, hv2⟩ : ∃ u, t + 2 = u := ⟨_, rfl⟩
      have u1 : (t : Int) + 1 = (u : Int) := by omega
      have u2 : (t : Int) + 2 = (v2 : Int) := by omega
      have u3 : IntKind.i64.wrap (u : Int) = (u : Int) := IntWalk.i64_in _ (by omega)
      have u4 : IntKind.i64.wrap (v2 : Int) = (v2 : Int) := IntWalk.i64_in _ (by omega)
      have q1 : (0 : Int) ≤ (k : Int) := by omega
      have q2 : (k : Int) < (S : Int) := by omega
      have t0 : (0 : Int) ≤ (t : Int) := by omega
      have t1 : (t : Int) < (P : Int) := by omega
      have t2 : (0 : Int) ≤ (u : Int) := by omega
      have t3 : (u : Int) < (P : Int) := by omega
      obtain ⟨b1, o1, rfl, hb1, hq1⟩ := hsl'.at_ (k := t) (by rw [HL.out]; omega)
      obtain ⟨b1', o1', e', hb1', hq1'⟩ := hsl'.at_ (k := u) (by rw [HL.out]; omega)
      obtain ⟨rfl, rfl⟩ : b1 = b1' ∧ o1 = o1' := by injection e' with e'; injection e' with e1 e2 e3; exact ⟨e1, e2⟩
      obtain ⟨B1, hrun1, hsB1⟩ := slice_to (some ⟨b1, o1, none⟩) c' t l' wr hsl' (by rw [HL.out]; omega) (by rw [HL.out]; exact hPc)
      obtain ⟨B2, hrun2, hsB2⟩ := slice_from (some ⟨b1, o1, none⟩) c' v2 l' wr hsl' (by rw [HL.out]; omega) (by rw [HL.out]; exact hPc)
      rw [HL.out] at hrun1 hrun2
      have hsg := HM.out.surg HWl.out t (by rw [HL.out]; omega)
      have C3 := rval_as HB.out (HWl.out.at t) (HWl.out.at u)
      rw [hu] at hsg
      rw [hv2] at hsg
      rw [HF.out] at hsg
      obtain ⟨x, hx⟩ : ∃ x, nth l' t = x := ⟨_, rfl⟩
      obtain ⟨y, hy⟩ : ∃ y, nth l' u = y := ⟨_, rfl⟩
      rw [hx, hy] at hsg
      rw [hx] at hq1 C3
      rw [hy] at hq1' C3
      obtain ⟨z, hz⟩ : ∃ z, doN op x y = z := ⟨_, rfl⟩
      rw [hz] at hsg
      simp only [hz] at C3
      have C3 := Lib.hid C3
      have hl1 : (l'.take t).length = t := by rw [List.length_take, HL.out]; omega
      have hl2 : (l'.drop v2).length = P - v2 := by rw [List.length_drop, HL.out]
      have CW := fun W hW => rwith_any B1 c' t (l'.take t) z W hW hl1 (by omega)
      have CW := Lib.hid CW
      have HSG := Lib.hid hsg
      obtain ⟨X1, hX1⟩ : ∃ X, l'.take t = X := ⟨_, rfl⟩
      obtain ⟨X2, hX2⟩ : ∃ X, l'.drop v2 = X := ⟨_, rfl⟩
      rw [hX1] at hsB1 CW HSG hl1
      rw [hX2] at hsB2 HSG hl2
      have HX1 := Lib.hid hl1
      have HX2 := Lib.hid hl2
      have LT : ∀ W', Below wr.heap.size wr W' → W'.cell? ⟨b1, o1 + t, none⟩ = some (.int .i64 x) ∧ W'.cell? ⟨b1, o1 + u, none⟩ = some (.int .i64 y) := fun W' hW =>
        ⟨(hW.cell (p := ⟨b1, o1 + t, none⟩) hb1).trans hq1, (hW.cell (p := ⟨b1, o1 + u, none⟩) hb1).trans hq1'⟩
      have hv2P : v2 ≤ P := by omega
      have HV2 := Lib.hid hv2
      clear hsh ht hx hy hz hsg hl1 hl2 hX1 hX2 e' hu hv2 hb1'
      go_wp2
      refine wp_region_mix' (fun W' => Below wr.heap.size wr W') [false, false, false, false, false, false, false, false, false, false, false, false, false, true, true, false, false, false, false] (by kernel_rfl) (by kernel_rfl) (Below.refl _ _).drew ?_
      simp only [mixT, mixH, mixD]
      iterate 13 (refine wpLts_light ?_ (fun W' hW => ?_) ?_; rotate_left; (obtain ⟨p0, p1⟩ := LT W' hW; go_simp; try with_reducible rfl); simp only [Act.put, List.setIfInBounds_toArray, List.set_cons_zero, List.set_cons_succ])
      iterate 2 (refine wpLts_heavy ?_)
      iterate 4 (refine wpLts_light ?_ (fun W' hW => ?_) ?_; rotate_left; (obtain ⟨p0, p1⟩ := LT W' hW; go_simp; try with_reducible rfl); simp only [Act.put, List.setIfInBounds_toArray, List.set_cons_zero, List.set_cons_succ])
      refine wpLts_nil ?_
      refine wpHvP_call 35 #[.int .i64 op, .int .i64 x, .int .i64 y] (by go_simp) ?_
      refine (C3.out _).mono ?_
      rintro e w13 ⟨rfl, hw13⟩
      have hBy : Below wr.heap.size wr w13 := by rw [← hw13]; exact (Below.refl _ wr).drew
      refine ⟨_, rfl, hBy, ?_⟩
      simp only [Act.put, List.setIfInBounds_toArray, List.set_cons_zero, List.set_cons_succ]
      refine wpHvP_call 47 #[.slice B1 t c', .int .i64 z] (by go_simp) ?_
      refine (CW.out _ (hsB1.step hBy)).mono ?_
      rintro e w14 ⟨v14, rfl, hown, hBz⟩
      have hBw := hBy.trans (hBz.mono hBy.size)
      refine ⟨_, rfl, hBw, ?_⟩
      simp only [Act.put, List.setIfInBounds_toArray, List.set_cons_zero, List.set_cons_succ]
      refine wpHvP_nil ?_
      have hs2w := hsB2.step hBw
      have hszz := hBz.size
      have hNN := Lib.hid (show (X1 ++ [z]).length + X2.length ≤ 1000000 by rw [List.length_append, HX1.out, HX2.out, List.length_singleton]; omega)
      have hx2 := Lib.hid (show Value.slice B2 (P - v2) (c' - v2) = .slice B2 X2.length (c' - v2) by rw [HX2.out])
      have hBq := hBr.trans (hBy.mono hBr.size)
      clear C3 CW LT hw13 hsB1 hsB2 hBw u1 u2
      go_wp2_with (at_builtin; refine wpList_append_sl rfl _ _ rfl w13.heap.size _ (X1 ++ [z]) rfl hown B2 (c' - v2) X2 hx2.out hs2w hNN.out hBz hszz ?_; intro v5 w5 hown5 hBx)
      have hq5 := hBq.trans (hBx.mono hBq.size)
      obtain ⟨A9, c9, rfl, hc9, hs9⟩ := hown5.form
      have hl9 : (X1 ++ [z] ++ X2).length = P - 1 := by have := HV2.out; rw [List.length_append, List.length_append, HX1.out, HX2.out, List.length_singleton]; omega
      have HL9 := Lib.hid hl9
      rw [hl9] at hc9 ⊢
      clear hl9 hown5 hown hx2 hBx hBz
      go_roundw
      case rel => exact ⟨k + 1, P - 1, X1 ++ [z] ++ X2, A9, c9, by omega, by go_num, rfl, hc9, by omega, HL9, Lib.hid HSG.out.1, Lib.hid HSG.out.2, hs9, hq5⟩
      case measure => first | (simp [intOf]; done) | (simp [intOf]; omega)
    · obtain rfl : k = S := by omega
      have hP1 : P = 1 := by have := hs1.out; have := HSl.out; omega
      subst hP1
      obtain ⟨b1, o1, rfl, hb1, hq1⟩ := hsl'.at_ (k := 0) (by rw [HL.out]; omega)
      rw [Nat.add_zero] at hq1
      have hfin : nth l' 0 = T := by
        have := HF.out
        rw [HL.out] at this
        rw [← this]
        exact (HM.out.left _ (HWl.out.at 0)).symm
      rw [hfin] at hq1
      clear hfin
      go_wp2
      go_ret2
      exact ⟨rfl, hBr⟩
end Go.Proofs.YtecpanppnljkhaaGreatDoor

namespace Go.Proofs.YtecpanppnljkhaaGreatDoor
set_option linter.unusedVariables false
set_option maxRecDepth 100000
open Go.RowKit Go.Shelf
theorem rblocks_err1 (op most : Int) (A : Option Addr) (c : Nat) (l : List Int) (w : World) (h : Sl w A l) (k : Ok l) (hc : cE op [l] ≠ 0) :
    Calls Tryz.prog 18 #[.int .i64 op, .slice A l.length c, .int .i64 most] w (RetLL w [] [] (cE op [l])) := by
  have C1 := asked_any A c op l w h k
  have hd : (cE op [l] != 0) = true := by rw [bne_iff_ne]; exact hc
  obtain ⟨y, hy⟩ : ∃ y, cE op [l] = y := ⟨_, rfl⟩
  rw [hy] at C1 hd ⊢
  have C1 := Lib.hid C1
  clear hy hc
  go_enter Tryz.func18, Tryz.ntmps18
  go_wp2_with fail
  refine C1.out.mono ?_
  rintro e w1 ⟨rfl, hB⟩
  go_wp2
  go_ret3
  exact retLL_nil hB
theorem rblocks_err2 (op most : Int) (A : Option Addr) (c : Nat) (l : List Int) (w : World) (h : Sl w A l) (k : Ok l) (hc : cE op [l] = 0) (hm : ¬ (1 ≤ most ∧ most ≤ 1048576)) :
    Calls Tryz.prog 18 #[.int .i64 op, .slice A l.length c, .int .i64 most] w (RetLL w [] [] 2) := by
  have C1 := asked_any A c op l w h k
  rw [hc] at C1
  have C1 := Lib.hid C1
  have C2 := fun W => lies_any most 1 1048576 W
  rw [decide_eq_false hm] at C2
  have C2 := Lib.hid C2
  clear hc hm
  go_enter Tryz.func18, Tryz.ntmps18
  go_wp2_with fail
  refine C1.out.mono ?_
  rintro e w1 ⟨rfl, hB⟩
  go_wp2_with fail
  refine (C2.out _).mono ?_
  rintro e w' ⟨rfl, rfl⟩
  go_wp2
  go_ret3
  exact retLL_nil hB
set_option maxHeartbeats 4000000 in
theorem rblocks_ok (op : Int) (m : Nat) (A : Option Addr) (c : Nat) (l : List Int) (w : World) (h : Sl w A l) (hcl : l.length ≤ c) (k : Ok l) (hc : cE op [l] = 0) (hm1 : 1 ≤ m) (hm2 : m ≤ 1048576) :
    Calls Tryz.prog 18 #[.int .i64 op, .slice A l.length c, .int .i64 (m : Int)] w (RetLL w (blS op l m) (blL op l m) 0) := by
  have C1 := asked_any A c op l w h k
  have hll := (lsE_ok (cE_ok hc).2).1 l (by simp)
  have hw : Wds l := (lsE_ok (cE_ok hc).2).2 l (by simp)
  have haB := neE_aB (cE_ok hc).1
  rw [hc] at C1
  have C1 := Lib.hid C1
  have C2 := fun W => lies_any (m : Int) 1 1048576 W
  rw [decide_eq_true (by omega : 1 ≤ (m : Int) ∧ (m : Int) ≤ 1048576)] at C2
  have C2 := Lib.hid C2
  have hz := blocks_segs l m hm1 hll
  have hf := hz.few
  have C3 := fun A' W hW => rsplit_any A' 1 [(l.length : Int)] (m : Int) W hW (by simp)
  have hsp : spE [(l.length : Int)] (m : Int) = 0 := by rw [spE_one _ _ hll, if_pos (by omega)]
  simp only [hsp, orL_ok, Int.toNat_natCast, spP_one, List.length_singleton] at C3
  have C4 := fun A' c' W hA hL hc' => rfold_any op A A' c' c l (chL l.length m) W hA hcl k hL hc' (by unfold Ok; omega)
  simp only [fsE_good haB hw hz, orL_ok] at C4
  have C5 := fun A' W hA hL => rscan_any op A A' 1 c l [(l.length : Int)] W hA hcl k hL (by simp) (by unfold Ok; simp)
  have hk1 : kpK (ahL (doN op) (neN op)) l [(l.length : Int)] 1 = ahL (doN op) (neN op) l := kp_one _ l
  simp only [fsE_good haB hw (segs_one l hll), orL_ok, List.length_singleton, hk1] at C5
  have hbl : blL op l m = ahL (doN op) (neN op) l := (mon_op haB).blocks_all hw hz
  have hbs : blS op l m = kpK (whL (doN op) (neN op)) l (chL l.length m) (chL l.length m).length := rfl
  rw [hbl, hbs]
  obtain ⟨S, hS⟩ : ∃ S, kpK (whL (doN op) (neN op)) l (chL l.length m) (chL l.length m).length = S := ⟨_, rfl⟩
  obtain ⟨B, hB'⟩ : ∃ B, ahL (doN op) (neN op) l = B := ⟨_, rfl⟩
  simp only [hS] at C4
  simp only [hB'] at C5
  rw [hS, hB']
  obtain ⟨CH, hCH⟩ : ∃ C, chL l.length m = C := ⟨_, rfl⟩
  simp only [hCH] at C3 C4
  have C3 := Lib.hid C3; have C4 := Lib.hid C4; have C5 := Lib.hid C5
  clear hc hw haB hz hsp hbl hbs hS hB' hCH hf
  go_enter Tryz.func18, Tryz.ntmps18
  go_wp2_with fail
  refine C1.out.mono ?_
  rintro e w1 ⟨rfl, hB⟩
  go_wp2_with fail
  refine (C2.out _).mono ?_
  rintro e w' ⟨rfl, rfl⟩
  have bN := Blk.new w1 3 #[.int .i64 (l.length : Int)]
  replace hB := hB.alloc hB.size (.cells #[.int .i64 (l.length : Int)] 3)
  go_wp2_with fail
  refine (C3.out (some ⟨w1.heap.size, 0, none⟩) _ (sl_one bN)).mono ?_
  rintro e w2 ⟨A5, c5, A6, c6, rfl, hc5, hc6, hs5, hs6, hBx⟩
  replace hB := hB.trans (hBx.mono hB.size)
  clear hBx bN
  go_wp2_with fail
  refine (C4.out A5 c5 _ (h.step hB) hs5 hc5).mono ?_
  rintro e w3 ⟨A7, c7, rfl, hc7, hs7, hBx⟩
  replace hB := hB.trans (hBx.mono hB.size)
  clear hBx
  have bN := Blk.new w3 3 #[.int .i64 (l.length : Int)]
  replace hB := hB.alloc hB.size (.cells #[.int .i64 (l.length : Int)] 3)
  replace hs7 := hs7.al (.cells #[.int .i64 (l.length : Int)] 3)
  go_wp2_with fail
  refine (C5.out (some ⟨w3.heap.size, 0, none⟩) _ (h.step hB) (sl_one bN)).mono ?_
  rintro e w4 ⟨v8, rfl, hown, hBx⟩
  obtain ⟨A8, c8, rfl, hc8, hs8⟩ := hown.form
  replace hs7 := hs7.step hBx
  replace hB := hB.trans (hBx.mono hB.size)
  clear hBx hown
  go_wp2
  go_ret3
  exact ⟨A7, c7, A8, c8, rfl, hc7, hc8, hs7, hs8, hB⟩
set_option maxHeartbeats 4000000 in
theorem halves_own {op : Int} (h : aB op = true) (A : Option Addr) (c n : Nat) (l : List Int) (w : World) (hA : Sl w A l) (hn : l.length = n) (hl : n ≤ 1048576) (hw : Wds l) :
    Calls Tryz.prog 58 #[.int .i64 op, .slice A n c] w fun e w' => ∃ v, e = .returned v ∧ OwnI w' w.heap.size v (prs (doN op) l) ∧ Below w.heap.size w w' := by
  obtain ⟨i0, hi, hz0, hz1, hz2⟩ := info_parts int_info
  have HN := Lib.hid hn
  have HB := Lib.hid h; have HW := Lib.hid hw
  have hpl := prs_length (doN op) l
  rw [hn] at hpl
  have HPL := Lib.hid hpl
  clear hn h hw hpl
  go_enter Tryz.func58, Tryz.ntmps58
  go_wp2
  go_loopw [5, 6] (fun v i wr => ∃ k : Nat, 2 * k ≤ n + 1 ∧ k ≤ n ∧ i = .int .i64 (2 * k : Nat) ∧ OwnI wr w.heap.size v ((prs (doN op) l).take k) ∧ Below w.heap.size w wr) (fun _ i _ => n + 2 - (intOf i).toNat)
  case atStart => exact ⟨0, by omega, by omega, rfl, OwnI.empty w _ (Nat.le_refl _), (Below.refl _ _).alloc (Nat.le_refl _) _⟩
  case round =>
    obtain ⟨k, hk, hkn, rfl, hown, hBr⟩ := hrel
    by_cases hlt : 2 * k + 1 < n
    · obtain ⟨b, o, rfl, hb, hq1⟩ := hA.at_ (k := 2 * k) (by rw [HN.out]; omega)
      obtain ⟨b', o', e', hb', hq2⟩ := hA.at_ (k := 2 * k + 1) (by rw [HN.out]; omega)
      obtain ⟨rfl, rfl⟩ : b = b' ∧ o = o' := by injection e' with e'; injection e' with e1 e2 e3; exact ⟨e1, e2⟩
      have HT := prs_take (doN op) l k (by rw [HN.out]; exact hlt)
      have C2 := rval_as HB.out (HW.out.at (2 * k)) (HW.out.at (2 * k + 1))
      obtain ⟨s, hs⟩ : ∃ s, 2 * k = s := ⟨_, rfl⟩
      rw [hs] at hq1 hq2 C2 HT hlt hk ⊢
      obtain ⟨x, hx⟩ : ∃ x, nth l s = x := ⟨_, rfl⟩
      obtain ⟨y, hy⟩ : ∃ y, nth l (s + 1) = y := ⟨_, rfl⟩
      rw [hx] at C2 HT hq1
      rw [hy] at C2 HT hq2
      obtain ⟨z, hz⟩ : ∃ z, doN op x y = z := ⟨_, rfl⟩
      rw [hz] at HT
      simp only [hz] at C2
      have C2 := Lib.hid C2
      have HT := Lib.hid HT
      have HS := Lib.hid hs
      have hLn : ((prs (doN op) l).take k).length ≤ 1048576 := by rw [List.length_take]; omega
      have s0 : (0 : Int) ≤ (s : Int) := by omega
      have s1 : (s : Int) < (n : Int) := by omega
      obtain ⟨s', hs'⟩ : ∃ s', s + 1 = s' := ⟨_, rfl⟩
      have s2 : (s : Int) + 1 = (s' : Int) := by omega
      have s3 : IntKind.i64.wrap (s' : Int) = (s' : Int) := IntWalk.i64_in _ (by omega)
      have s4 : (s' : Int) < (n : Int) := by omega
      have s5 : (0 : Int) ≤ (s' : Int) := by omega
      rw [hs'] at hq2
      have LT : ∀ W', Below wr.heap.size wr W' → W'.cell? ⟨b, o + s, none⟩ = some (.int .i64 x) ∧ W'.cell? ⟨b, o + s', none⟩ = some (.int .i64 y) := fun W' hW =>
        ⟨(hW.cell (p := ⟨b, o + s, none⟩) (Nat.lt_of_lt_of_le hb hBr.size)).trans ((hBr.cell (p := ⟨b, o + s, none⟩) hb).trans hq1), (hW.cell (p := ⟨b, o + s', none⟩) (Nat.lt_of_lt_of_le hb hBr.size)).trans ((hBr.cell (p := ⟨b, o + s', none⟩) hb).trans hq2)⟩
      clear hs hx hy hz e' hq1 hq2 hs' hlt hb'
      go_wp2
      refine wp_region_mix' (fun W' => Below wr.heap.size wr W') [false, false, false, false, false, false, false, false, false, false, false, true, true] (by kernel_rfl) (by kernel_rfl) (Below.refl _ _).drew ?_
      simp only [mixT, mixH, mixD]
      iterate 11 (refine wpLts_light ?_ (fun W' hW => ?_) ?_; rotate_left; (obtain ⟨p0, p1⟩ := LT W' hW; go_simp; try with_reducible rfl); simp only [Act.put, List.setIfInBounds_toArray, List.set_cons_zero, List.set_cons_succ])
      iterate 2 (refine wpLts_heavy ?_)
      refine wpLts_nil ?_
      refine wpHvP_call 35 #[.int .i64 op, .int .i64 x, .int .i64 y] (by go_simp) ?_
      refine (C2.out _).mono ?_
      rintro e w13 ⟨rfl, hw13⟩
      have hBy : Below wr.heap.size wr w13 := by rw [← hw13]; exact (Below.refl _ wr).drew
      have hown3 := hown.drew
      rw [hw13] at hown3
      have hBr3 := hBr.trans (hBy.mono hBr.size)
      clear hw13 hown
      refine ⟨_, rfl, hBy, ?_⟩
      simp only [Act.put, List.setIfInBounds_toArray, List.set_cons_zero, List.set_cons_succ]
      refine wpHvP_value (.slice (some ⟨w13.heap.size, 0, none⟩) 1 1) (w13.alloc (.cells #[.int .i64 z] 3)) (by go_simp; try rfl) ⟨hBy.alloc hBy.size _, ?_⟩
      simp only [Act.put, List.setIfInBounds_toArray, List.set_cons_zero, List.set_cons_succ]
      refine wpHvP_nil ?_
      clear C2 LT
      go_wp2_with (at_builtin; refine wpList_append_own _ rfl _ _ 22 rfl w.heap.size 3 i0 (.int .i64 0) 1 8 Tryz.underlying22 hi hz0 hz1 hz2 rfl (by decide) _ _ _ rfl (hown3.alloc _) ⟨_, 0, none⟩ 1 1 [.int .i64 z] rfl rfl (cell_one_new _ _ _) (by simp [Value.oneCell']) (by unfold maxLen; omega) (by omega) (by have := hBr3.size; simp; omega) ?_; intro v' w2q hown' hgrow _; have hB2 := below_append hBr3 hBr3.size hown3 hgrow)
      have hown4 := OwnI.snoc hown'
      rw [← HT.out] at hown4
      clear hown' hgrow
      go_roundw
      case rel => exact ⟨k + 1, by have := HS.out; omega, by have := HS.out; omega, by have := HS.out; go_num, hown4, hB2⟩
      case measure => simp [intOf]; omega
    · have hTe : (prs (doN op) l).take k = prs (doN op) l := List.take_of_length_le (by rw [HPL.out]; omega)
      rw [hTe] at hown
      obtain ⟨s, hs⟩ : ∃ s, 2 * k = s := ⟨_, rfl⟩
      rw [hs] at hlt hk ⊢
      have hnlt : ¬ (s : Int) + 1 < (n : Int) := by omega
      clear hTe hs hlt
      go_wp2
      go_ret
      exact ⟨_, rfl, hown, hBr⟩

def OwnV (w : World) (base : Nat) (v : Value) (vs : List Value) : Prop := w.ownsRow base 22 1 v vs.length vs
theorem apart_v {w : World} {base base' : Nat} {u v : Value} {vs : List Value} {Z : List Int} (h : OwnV w base v vs) (h' : OwnI w base' u Z) (ht : 22 ≠ 3) : u.ownBlock = none ∨ u.ownBlock ≠ v.ownBlock := by
  rcases h.2 with ⟨rfl, _⟩ | ⟨g, cap, cur, rfl, hb, hh, hnc, _⟩
  · rcases h'.2 with ⟨rfl, _⟩ | ⟨g', cap', cur', rfl, hb', hh', hnc', _⟩
    · exact .inl rfl
    · exact .inr (by simp [Value.ownBlock])
  · rcases h'.2 with ⟨rfl, _⟩ | ⟨g', cap', cur', rfl, hb', hh', hnc', _⟩
    · exact .inl rfl
    · refine .inr fun e => ?_
      simp [Value.ownBlock] at e
      subst e
      rw [hh] at hh'
      simp at hh'
theorem OwnV.below {w w' : World} {base B : Nat} {v : Value} {vs : List Value} (h : OwnV w base v vs) (hb : Below B w w') (hB : w.heap.size ≤ B) : OwnV w' base v vs := by
  rcases h.2 with ⟨rfl, h0⟩ | ⟨g, cap, cur, rfl, h1, h2, h3⟩
  · exact ⟨h.1, .inl ⟨rfl, h0⟩⟩
  · exact ⟨h.1, .inr ⟨g, cap, cur, rfl, h1, (hb.block g (Nat.lt_of_lt_of_le (World.ownsRow.lt h g rfl).2 hB)).trans h2, h3⟩⟩
theorem OwnV.form {w : World} {base : Nat} {v : Value} {vs : List Value} (h : OwnV w base v vs) (h0 : 0 < vs.length) : ∃ g c, v = .slice (some ⟨g, 0, none⟩) vs.length c ∧ vs.length ≤ c ∧ g < w.heap.size ∧ ∀ j, j < vs.length → w.cell? ⟨g, j, none⟩ = vs[j]? := by
  have hr := h
  rcases h.2 with ⟨rfl, e0⟩ | ⟨g, cap, cur, rfl, hb, hh, hnc, _⟩
  · omega
  · exact ⟨g, cap, rfl, hnc, (World.ownsRow.lt hr g rfl).2, fun j hj => World.ownsRow.cellAt hr j (by omega)⟩
theorem below_appendV {w wr w1 : World} {base base' : Nat} {v : Value} {vs : List Value} {o : Obj} (hB : Below base w wr) (hb : base ≤ wr.heap.size) (hbb : base ≤ base') (h : OwnV wr base' v vs) (hg : (wr.alloc o).grownBy w1 v.ownBlock) : Below base w w1 :=
  (hB.alloc hb o).grown hg (by simp; omega) (fun k e => by
    have := (World.ownsRow.lt h k e).1
    omega)
theorem lvs_pad_one (f : Int → Int → Int) (a : List Int) (d : Nat) : (lvs f a d).length = d + 1 := lvs_len f a d
theorem rlevels_err (op : Int) (A : Option Addr) (c : Nat) (l : List Int) (w : World) (h : Sl w A l) (k : Ok l) (hc : cE op [l] ≠ 0) :
    Calls Tryz.prog 20 #[.int .i64 op, .slice A l.length c] w fun e w' => e = .returned (.tuple #[.slice none 0 0, .int .i64 (cE op [l])]) ∧ Below w.heap.size w w' := by
  have C1 := asked_any A c op l w h k
  have hd : (cE op [l] != 0) = true := by rw [bne_iff_ne]; exact hc
  obtain ⟨y, hy⟩ : ∃ y, cE op [l] = y := ⟨_, rfl⟩
  rw [hy] at C1 hd ⊢
  have C1 := Lib.hid C1
  clear hy hc
  go_enter Tryz.func20, Tryz.ntmps20
  go_wp2_with fail
  refine C1.out.mono ?_
  rintro e w1 ⟨rfl, hB⟩
  go_wp2
  go_ret2
  exact ⟨rfl, hB⟩
set_option maxHeartbeats 8000000 in
theorem rlevels_ok (op : Int) (d : Nat) (A : Option Addr) (c : Nat) (l : List Int) (w : World) (h : Sl w A l) (hl4 : l.length ≤ 1000) (hc : cE op [l] = 0) (hd : IsD l.length d) :
    Calls Tryz.prog 20 #[.int .i64 op, .slice A l.length c] w fun e w' => ∃ A' c', e = .returned (.tuple #[.slice A' (d + 1) c', .int .i64 0]) ∧ Sll w' A' (lvs (doN op) (padL (neN op) d l) d) ∧ Below w.heap.size w w' := by
  obtain ⟨i0, hi, hz0, hz1, hz2⟩ := info_parts int_info
  obtain ⟨i1, hi1, hy0, hy1, hy2⟩ : ∃ i, Tryz.prog.info? 22 = some i ∧ i.zero = some (.slice none 0 0) ∧ i.size = 1 ∧ i.bytes = 24 := by
    obtain ⟨i, hi, hzz⟩ := Option.map_eq_some_iff.1 sl_info
    simp only [Prod.mk.injEq] at hzz
    exact ⟨i, hi, hzz.1, hzz.2.1, hzz.2.2⟩
  have C1 := asked_any A c op l w h (by unfold Ok; omega)
  have hw : Wds l := (lsE_ok (cE_ok hc).2).2 l (by simp)
  have haB := neE_aB (cE_ok hc).1
  have hne := (cE_ok hc).1
  have M := mon_op haB
  have hpw : Wds (padL (neN op) d l) := padL_word M hw d
  have hpl : (padL (neN op) d l).length = 2 ^ d := padL_len hd
  have CN := fun W => rneutral_any op W
  simp only [hne] at CN
  have hd10 : 2 ^ d ≤ 2 * l.length + 1 := by
    rcases Nat.eq_zero_or_pos d with e | e
    · subst e; simp
    · have := hd.2.1 (d - 1) (by omega)
      have e2 : 2 ^ d = 2 * 2 ^ (d - 1) := by rw [show d = (d - 1) + 1 by omega, Nat.pow_succ]; simp; omega
      omega
  rw [hc] at C1
  have HB := Lib.hid haB; have HM := Lib.hid M; have HPW := Lib.hid hpw; have HPL := Lib.hid hpl
  have C1 := Lib.hid C1; have CN := Lib.hid CN
  have HD := Lib.hid hd
  have HPD : Hid (padL (neN op) d l = l ++ List.replicate (2 ^ d - l.length) (neN op)) := Lib.hid rfl
  have HNP : Hid (∀ j, j < 2 ^ d - l.length → powB (l.length + j) = false) := Lib.hid (fun j hj => by
    cases hx : powB (l.length + j) with
    | false => rfl
    | true =>
      obtain ⟨e, he⟩ := (powB_iff _).1 hx
      have hed : e < d := by
        apply Classical.byContradiction
        intro hn
        have : 2 ^ d ≤ 2 ^ e := Nat.pow_le_pow_right (by omega) (by omega)
        omega
      have := hd.2.1 e hed
      omega)
  have HYP : Hid (powB (2 ^ d) = true) := Lib.hid ((powB_iff _).2 ⟨d, rfl⟩)
  obtain ⟨x, hx⟩ : ∃ x, neN op = x := ⟨_, rfl⟩
  obtain ⟨PD, hPD⟩ : ∃ P, padL (neN op) d l = P := ⟨_, rfl⟩
  rw [hPD] at HPW HPL HPD ⊢
  rw [hx] at HPD
  simp only [hx] at CN
  have CN := Lib.hid CN.out
  obtain ⟨D2, hD2⟩ : ∃ D, 2 ^ d = D := ⟨_, rfl⟩
  have HD2 := Lib.hid hD2
  rw [hD2] at HPL HPD HNP HYP hd10
  have hlD : l.length ≤ D2 := by rw [← hD2]; exact hd.1
  obtain ⟨n, hnn⟩ : ∃ n, l.length = n := ⟨_, rfl⟩
  have HN := Lib.hid hnn
  simp only [hnn] at C1
  rw [hnn] at HPD HNP hd10 hlD hl4 ⊢
  clear hc hd hw haB hne M hpw hpl hx hPD hD2 hnn
  go_enter Tryz.func20, Tryz.ntmps20
  go_wp2_with fail
  refine C1.out.mono ?_
  rintro e w1 ⟨rfl, hB⟩
  go_wp2_with fail
  refine (CN.out _).mono ?_
  rintro e w2 ⟨rfl, hBx⟩
  replace hB := hB.trans (hBx.mono hB.size)
  clear hBx
  have CC := copy_gen A c l w2 (h.step hB) (by rw [HN.out]; omega)
  rw [HN.out] at CC
  have CC := Lib.hid CC
  go_wp2_with fail
  refine CC.out.mono ?_
  rintro e w3 ⟨v3, rfl, hown, hBx⟩
  have hw23 := hBx
  clear CC
  go_wp2
  go_loopw [9] (fun v wr => ∃ j : Nat, n + j ≤ D2 ∧ OwnI wr w2.heap.size v (l ++ List.replicate j x) ∧ Below w2.heap.size w2 wr) (fun v _ => D2 - (match v with | .slice _ k _ => k | _ => 0))
  case atStart => exact ⟨0, by omega, by simpa using hown, hBx⟩
  case round =>
    obtain ⟨j, hj, ho, hBr⟩ := hrel
    have hlj : (l ++ List.replicate j x).length = n + j := by rw [List.length_append, List.length_replicate, HN.out]
    obtain ⟨A4, c4, hv4, hc4, hs4⟩ := ho.form
    subst hv4
    have hoB := ho
    rw [hlj] at hc4 ho ⊢
    obtain ⟨P, hP⟩ : ∃ P, n + j = P := ⟨_, rfl⟩
    have HP := Lib.hid hP
    have CP := fun W => ispow_any P (by omega) W
    rw [hP] at hj hc4 ho hlj ⊢
    by_cases hlt : P < D2
    · have hpf : powB P = false := by rw [← hP]; exact HNP.out j (by omega)
      rw [hpf] at CP
      have CP := Lib.hid CP
      have hL1 : (l ++ List.replicate j x).length ≤ 1048576 := by rw [hlj]; omega
      clear hpf hP hoB
      go_wp2_with fail
      refine (CP.out _).mono ?_
      rintro e w' ⟨rfl, rfl⟩
      go_wp2_with (at_builtin; refine wpList_append_own _ rfl _ _ 22 rfl w2.heap.size 3 i0 (.int .i64 0) 1 8 Tryz.underlying22 hi hz0 hz1 hz2 rfl (by decide) _ _ _ rfl (ho.alloc _) ⟨_, 0, none⟩ 1 1 [.int .i64 x] rfl rfl (cell_one_new _ _ _) (by simp [Value.oneCell']) (by unfold maxLen; omega) (by omega) (by have := hBr.size; simp; omega) ?_; intro v' w2q hown' hgrow _; have hB2 := below_append hBr hBr.size ho hgrow)
      have hown2 := OwnI.snoc hown'
      rw [List.append_assoc, ← List.replicate_succ'] at hown2
      clear hown' hgrow
      have hfm := hown2.form
      obtain ⟨A5, c5, hv5, _, _⟩ := hfm
      subst hv5
      go_roundw
      case rel => exact ⟨j + 1, by have := HP.out; omega, hown2, hB2⟩
      case measure => simp [List.length_append, List.length_replicate, HN.out]; have := HP.out; omega
    · obtain rfl : P = D2 := by omega
      have hfull : l ++ List.replicate j x = PD := by rw [HPD.out, show P - n = j by have := HP.out; omega]
      rw [hfull] at ho hs4
      rw [HYP.out] at CP
      have CP := Lib.hid CP
      have hB2o := hB
      clear hfull hP hoB hlj hB hown hBx hw23
      rename World => wq
      have HWQ : Hid (w2.heap.size ≤ wq.heap.size) := Lib.hid hBr.size
      have hoA := ho.alloc (.cells #[.slice A4 P c4] 22)
      have hBA := hBr.alloc hBr.size (.cells #[.slice A4 P c4] 22)
      have hOV : OwnV (wq.alloc (.cells #[.slice A4 P c4] 22)) wq.heap.size (.slice (some ⟨wq.heap.size, 0, none⟩) 1 1) [.slice A4 P c4] := World.ownsRow_lit wq #[.slice A4 P c4] 1 (Nat.le_refl _) (by simp [maxLen]) rfl
      have hB2s := Lib.hid hB2o
      clear ho hBr
      go_wp2_with fail
      refine (CP.out _).mono ?_
      rintro e w' ⟨rfl, rfl⟩
      go_wp2
      clear CP
      go_loopw [10] (fun v wr => ∃ (q : Nat) (vs : Nat → Value), q ≤ d ∧ Hid (∀ j, j ≤ q → OwnI wr w2.heap.size (vs j) (lvK (doN op) PD j)) ∧ OwnV wr wq.heap.size v ((List.range (q + 1)).map vs) ∧ Below w2.heap.size w2 wr) (fun v _ => d + 1 - (match v with | .slice _ k _ => k | _ => 0))
      case atStart => exact ⟨0, fun _ => .slice A4 P c4, Nat.zero_le _, Lib.hid (fun j hj => by obtain rfl : j = 0 := (by omega); exact hoA), hOV, hBA⟩
      case round =>
        clear hOV hBA hoA
        obtain ⟨q, vs, hq, HRW, hov, hBr⟩ := hrel
        have hvl : ((List.range (q + 1)).map vs).length = q + 1 := by simp
        obtain ⟨g, cv, rfl, hcv, hg, hcell⟩ := hov.form (by rw [hvl]; omega)
        have hovB := hov
        rw [hvl] at hcv hov ⊢
        have hcq := hcell q (by rw [hvl]; omega)
        have hcq' : wr.cell? ⟨g, q, none⟩ = some (vs q) := by rw [hcq]; simp
        have hoq := HRW.out q (Nat.le_refl _)
        obtain ⟨Aq, cq, hvq, hcq2, hsq⟩ := hoq.form
        have hlq : (lvK (doN op) PD q).length = 2 ^ (d - q) := lv_length _ (HPL.out.trans HD2.out.symm) q hq
        obtain ⟨nq, hnq⟩ : ∃ n, (lvK (doN op) PD q).length = n := ⟨_, rfl⟩
        rw [hvq, hnq] at hcq'
        obtain ⟨N1, hN1⟩ : ∃ N1, q + 1 = N1 := ⟨_, rfl⟩
        have HN1 := Lib.hid hN1
        have hov' : OwnV wr wq.heap.size (.slice (some ⟨g, 0, none⟩) N1 cv) ((List.range (q + 1)).map vs) := by rw [← hN1]; exact hov
        rw [hN1] at hcv ⊢
        have hq1 : (N1 : Int) - 1 = (q : Int) := by omega
        have hq2 : IntKind.i64.wrap (q : Int) = (q : Int) := IntWalk.i64_in _ (by have := HD.out.2.2; omega)
        have hq0 : (0 : Int) ≤ (q : Int) := by omega
        have hq3 : (q : Int) < (N1 : Int) := by omega
        have HLQ := Lib.hid (hnq.symm.trans hlq)
        have hqw : Wds (lvK (doN op) PD q) := lv_word HM.out HPW.out q
        have hqle : nq ≤ 1048576 := by
          rw [← hnq]
          have := lv_le (doN op) PD q
          rw [HPL.out] at this
          omega
        have CH := fun W hW => halves_own HB.out Aq cq nq (lvK (doN op) PD q) W hW hnq hqle hqw
        have CH := Lib.hid CH
        have HNQ := Lib.hid hnq
        have Hvq := Lib.hid hvq
        have hCL := Lib.hid (fun j (hj : j < q + 1) => hcell j (by rw [hvl]; exact hj))
        clear hN1 hlq hnq hvq hcq hqw hcell
        by_cases hlt : q < d
        · have hn1 : (1 : Int) < (nq : Int) := by
            have : 2 ^ 1 ≤ 2 ^ (d - q) := Nat.pow_le_pow_right (by omega) (by omega)
            have := HLQ.out
            omega
          go_wp2_with fail
          refine (CH.out _ hsq).mono ?_
          rintro e w9 ⟨v9, rfl, hown9, hBx⟩
          have hcz : w9.cell? ⟨g, q, none⟩ = some (.slice Aq nq cq) := (hBx.cell (p := ⟨g, q, none⟩) hg).trans hcq'
          have hov9 := hov'.below hBx (Nat.le_refl _)
          have hB9 := hBr.trans (hBx.mono hBr.size)
          have HRW9 : Hid (∀ j, j ≤ q → OwnI w9 w2.heap.size (vs j) (lvK (doN op) PD j)) := Lib.hid (fun j hj => (HRW.out j hj).below hBx (Nat.le_refl _))
          have h9 := own_low hown9 hBr.size
          obtain ⟨A9, c9, hv9, _, _⟩ := h9.form
          subst hv9
          clear hown9 hBx CH hov hsq hoq HRW hcq'
          have hovR : w9.ownsRow wq.heap.size 22 1 (.slice (some ⟨g, 0, none⟩) N1 cv) N1 ((List.range (q + 1)).map vs) := by
            have h' := hov9
            unfold OwnV at h'
            rw [hvl, HN1.out] at h'
            rw [HN1.out]
            exact h'
          have hN20 : N1 ≤ 21 := by have := HD.out.2.2; have := HN1.out; omega
          have hwqs := HWQ.out
          have HOV9 := Lib.hid hov9
          have HRR := Lib.hid h9
          obtain ⟨PL, hPL⟩ : ∃ PL, (prs (doN op) (lvK (doN op) PD q)).length = PL := ⟨_, rfl⟩
          rw [hPL] at HRR ⊢
          go_wp2_with (at_builtin; refine wpList_append_own _ rfl _ _ 33 rfl wq.heap.size 22 i1 (.slice none 0 0) 1 24 Tryz.underlying33 hi1 hy0 hy1 hy2 rfl (by decide) _ _ _ rfl (World.ownsRow.alloc hovR _) ⟨_, 0, none⟩ 1 1 [.slice A9 PL c9] rfl rfl (cell_one_new _ _ _) (by simp [Value.oneCell']) (by unfold maxLen; omega) (by omega) (by have h1 := World.ownsRow.lt hovR g rfl; simp; omega) ?_; intro v' w2q hown' hgrow _)
          have hvs : (List.range (q + 1 + 1)).map (fun j => if j = q + 1 then .slice A9 PL c9 else vs j) = (List.range (q + 1)).map vs ++ [.slice A9 PL c9] := by
            rw [List.range_succ, List.map_append]
            congr 1
            · exact List.map_congr_left (fun j hj => by rw [if_neg (by have := List.mem_range.1 hj; omega)])
            · simp
          have hov2 : OwnV w2q wq.heap.size v' ((List.range (q + 1 + 1)).map (fun j => if j = q + 1 then .slice A9 PL c9 else vs j)) := by
            unfold OwnV
            rw [List.length_map, List.length_range, hvs, HN1.out]
            have h' := hown'
            rw [HN1.out] at h'
            exact h'
          have hB2 := below_appendV hB9 hB9.size hwqs HOV9.out hgrow
          have hRW2 : Hid (∀ j, j ≤ q + 1 → OwnI w2q w2.heap.size (if j = q + 1 then .slice A9 PL c9 else vs j) (lvK (doN op) PD j)) := Lib.hid (fun j hj => by
            by_cases e : j = q + 1
            · rw [if_pos e, e]
              exact (HRR.out.alloc _).kept hgrow (apart_v HOV9.out HRR.out (by decide))
            · rw [if_neg e]
              exact ((HRW9.out j (by omega)).alloc _).kept hgrow (apart_v HOV9.out (HRW9.out j (by omega)) (by decide)))
          obtain ⟨g2, cv2, hvv, _⟩ := hov2.form (by simp)
          subst hvv
          clear hown' hgrow hvs hovR
          go_roundw
          case rel => exact ⟨q + 1, fun j => if j = q + 1 then .slice A9 PL c9 else vs j, by omega, hRW2, hov2, hB2⟩
          case measure => simp; have := HN1.out; omega
        · obtain rfl : q = d := by omega
          have hn1 : ¬ (1 : Int) < (nq : Int) := by
            have := HLQ.out
            rw [Nat.sub_self] at this
            omega
          have hBe := hB2s.out.trans (hBr.mono hB2s.out.size)
          have hSL : Sll wr (some ⟨g, 0, none⟩) (lvs (doN op) PD q) := fun _ => ⟨g, 0, rfl, hg, fun j hj => by
            rw [lvs_len] at hj
            obtain ⟨Aj, cj, hvj, hcj, hsj⟩ := (HRW.out j (by omega)).form
            rw [lvs_nth _ _ _ _ hj, Nat.zero_add]
            refine ⟨Aj, cj, ?_, hcj, hsj⟩
            rw [hCL.out j (by omega)]
            simp [hj, hvj]⟩
          rw [← HN1.out]
          go_wp2
          go_ret2
          exact ⟨some ⟨g, 0, none⟩, ⟨cv, rfl⟩, hSL, hBe⟩
end Go.Proofs.YtecpanppnljkhaaGreatDoor
namespace Go.Proofs.YtecpanppnljkhaaGreatDoor.scanTrees
open Go.ChangeShapes Go.WideShapes Go.ChangeAt Go.RowKit Go.ChangeMaps
set_option linter.unusedVariables false
theorem equalLists_below (A A' : Option Addr) (c c' : Nat) (L : List (List Int)) (w : World) (h : Sll w A L) (h' : Sll w A' L) (hl : L.length ≤ 9223372036854775807) (hs : AllShort L) :
    Calls Tryz.prog 21 #[.slice A L.length c, .slice A' L.length c'] w fun e w' => e = .returned (.bool true) ∧ Below w.heap.size w w' := by
  refine (equalLists_refl A A' c c' L w h h' hl hs).mono ?_
  rintro e w' ⟨rfl, m, rfl⟩
  exact ⟨rfl, below_drewN (Below.refl _ _) m⟩
set_option maxRecDepth 100000 in
set_option maxHeartbeats 40000000 in
theorem core (op n a E1 E2 E3 : Int) (A A2 : Option Addr) (c c2 N N2 : Nat) (C D : List Int) (LV : List (List Int)) (S : World → Prop) (hstep : ∀ W W', S W → Below W.heap.size W W' → S W') (w : World) (hI : Inv w) (hS : S w) (hN : N ≤ 400) (hC : C.length ≤ 9223372036854775807) (hD : D.length ≤ 9223372036854775807) (hL : LV.length ≤ 9223372036854775807) (hLs : AllShort LV)
    (C1 : ∀ W, Inv W → S W → Calls Tryz.prog 15 #[.int .i64 op, .slice A N c, .slice A2 N2 c2] W (fun e w' => e = .returned (.tuple #[.int .i64 a, .int .i64 E1]) ∧ Below W.heap.size W w'))
    (C2 : ∀ W, S W → Calls Tryz.prog 16 #[.int .i64 op, .slice A N c, .slice A2 N2 c2] W (fun e w' => e = .returned (.tuple #[.int .i64 a, .int .i64 E1]) ∧ Below W.heap.size W w'))
    (C3 : ∀ W, Inv W → S W → Calls Tryz.prog 17 #[.int .i64 op, .slice A N c, .int .i64 n] W (RetLL W C D E2))
    (C4 : ∀ W, S W → Calls Tryz.prog 18 #[.int .i64 op, .slice A N c, .int .i64 n] W (RetLL W C D E2))
    (C5 : ∀ W, Inv W → S W → Calls Tryz.prog 19 #[.int .i64 op, .slice A N c] W (fun e w' => ∃ A' c', e = .returned (.tuple #[.slice A' LV.length c', .int .i64 E3]) ∧ Sll w' A' LV ∧ Below W.heap.size W w'))
    (C6 : ∀ W, S W → Calls Tryz.prog 20 #[.int .i64 op, .slice A N c] W (fun e w' => ∃ A' c', e = .returned (.tuple #[.slice A' LV.length c', .int .i64 E3]) ∧ Sll w' A' LV ∧ Below W.heap.size W w')) :
    Calls Tryz.prog 4 #[.int .i64 op, .slice A N c, .slice A2 N2 c2, .int .i64 n] w (Ret (.bool true) w) := by
  have C1 := Lib.hid C1; have C2 := Lib.hid C2; have C3 := Lib.hid C3; have C4 := Lib.hid C4; have C5 := Lib.hid C5; have C6 := Lib.hid C6; have HST := Lib.hid hstep
  have hN' : ¬ ((400 : Int) < (N : Int)) := by omega
  have hB : Below w.heap.size w w := Below.refl _ _
  clear hstep
  go_enter Tryz.func4, Tryz.ntmps4
  go_wp2_with fail
  refine (C1.out _ (hI.below hB) hS).mono ?_
  rintro e w1 ⟨rfl, hBx⟩
  replace hS := HST.out _ _ hS hBx
  replace hB := hB.trans (hBx.mono hB.size)
  clear hBx C1
  go_wp2_with fail
  refine (C2.out _ hS).mono ?_
  rintro e w2 ⟨rfl, hBx⟩
  replace hS := HST.out _ _ hS hBx
  replace hB := hB.trans (hBx.mono hB.size)
  clear hBx C2
  go_wp2_with fail
  refine (C3.out _ (hI.below hB) hS).mono ?_
  rintro e w3 ⟨A3, c3, B3, d3, rfl, _, _, h3, g3, hBx⟩
  replace hS := HST.out _ _ hS hBx
  replace hB := hB.trans (hBx.mono hB.size)
  clear hBx C3
  go_wp2_with fail
  refine (C4.out _ hS).mono ?_
  rintro e w4 ⟨A4, c4, B4, d4, rfl, _, _, h4, g4, hBx⟩
  replace hS := HST.out _ _ hS hBx
  replace h3 := h3.step hBx
  replace g3 := g3.step hBx
  replace hB := hB.trans (hBx.mono hB.size)
  clear hBx C4
  go_wp2_with fail
  refine (C5.out _ (hI.below hB) hS).mono ?_
  rintro e w5 ⟨A5, c5, rfl, h5, hBx⟩
  replace hS := HST.out _ _ hS hBx
  replace h3 := h3.step hBx
  replace g3 := g3.step hBx
  replace h4 := h4.step hBx
  replace g4 := g4.step hBx
  replace hB := hB.trans (hBx.mono hB.size)
  clear hBx C5
  go_wp2_with fail
  refine (C6.out _ hS).mono ?_
  rintro e w6 ⟨A6, c6, rfl, h6, hBx⟩
  replace h3 := h3.step hBx
  replace g3 := g3.step hBx
  replace h4 := h4.step hBx
  replace g4 := g4.step hBx
  replace h5 := h5.step hBx
  replace hB := hB.trans (hBx.mono hB.size)
  clear hBx C6 hS HST
  go_wp2_with fail
  refine (eq_lit A3 A4 c3 c4 C.length C _ rfl h3 h4 hC).mono ?_
  rintro e w7 ⟨rfl, hBx⟩
  replace g3 := g3.step hBx
  replace g4 := g4.step hBx
  replace h5 := h5.step hBx
  replace h6 := h6.step hBx
  replace hB := hB.trans (hBx.mono hB.size)
  clear hBx h3 h4
  go_wp2_with fail
  refine (eq_lit B3 B4 d3 d4 D.length D _ rfl g3 g4 hD).mono ?_
  rintro e w8 ⟨rfl, hBx⟩
  replace h5 := h5.step hBx
  replace h6 := h6.step hBx
  replace hB := hB.trans (hBx.mono hB.size)
  clear hBx g3 g4
  go_wp2_with fail
  refine (equalLists_below A5 A6 c5 c6 LV _ h5 h6 hL hLs).mono ?_
  rintro e w9 ⟨rfl, hBx⟩
  replace hB := hB.trans (hBx.mono hB.size)
  clear hBx h5 h6
  go_wp2_with fail
  refine (joined_any _ (hI.below hB)).mono ?_
  rintro e w17 ⟨rfl, hBx⟩
  go_wp2
  go_ret
  exact ⟨rfl, hB.trans (hBx.mono hB.size)⟩
set_option maxRecDepth 100000 in
set_option maxHeartbeats 40000000 in
theorem long (op n : Int) (A A2 : Option Addr) (c c2 N N2 : Nat) (w : World) (hI : Inv w) (hN : 400 < N) :
    Calls Tryz.prog 4 #[.int .i64 op, .slice A N c, .slice A2 N2 c2, .int .i64 n] w (Ret (.bool true) w) := by
  have hN' : (400 : Int) < (N : Int) := by omega
  go_enter Tryz.func4, Tryz.ntmps4
  go_wp2_with fail
  refine (joined_any _ hI).mono ?_
  rintro e w17 ⟨rfl, hBx⟩
  go_wp2
  go_ret
  exact ⟨rfl, hBx⟩
theorem orLL {w : World} {x y x' y' : List Int} {E E' : Int} {e : Ending} {w' : World} (hE : E = E') (hx : x = x') (hy : y = y') (h : RetLL w x y E e w') : RetLL w x' y' E' e w' := by subst hE hx hy; exact h
theorem nil_lv {W w' : World} {E : Int} {e : Ending} (h : e = .returned (.tuple #[.slice none 0 0, .int .i64 E]) ∧ Below W.heap.size W w') : ∃ A' c', e = .returned (.tuple #[.slice A' ([] : List (List Int)).length c', .int .i64 E]) ∧ Sll w' A' [] ∧ Below W.heap.size W w' :=
  ⟨none, 0, h.1, fun hh => absurd hh (by simp), h.2⟩
set_option maxRecDepth 100000 in
set_option maxHeartbeats 40000000 in
theorem walk (op : Int) (A : Option Addr) (c : Nat) (l : List Int) (A2 : Option Addr) (c2 : Nat) (s : List Int) (n : Int) (w : World) (hI : Inv w) (h : Sl w A l) (hcl : l.length ≤ c) (k : Ok l) (h2 : Sl w A2 s) (hc2 : s.length ≤ c2) (k2 : Ok s) :
    Calls Tryz.prog 4 #[.int .i64 op, .slice A l.length c, .slice A2 s.length c2, .int .i64 n] w (Ret (.bool true) w) := by
  by_cases hl : l.length ≤ 400
  case neg => exact long op n A A2 c c2 l.length s.length w hI (by omega)
  have ks : s.length ≤ 9223372036854775807 := k2
  have hst : ∀ W W', (Sl W A l ∧ Sl W A2 s) → Below W.heap.size W W' → (Sl W' A l ∧ Sl W' A2 s) := fun W W' hW hb => ⟨hW.1.step hb, hW.2.step hb⟩
  by_cases hc : cE op [l] = 0
  case neg =>
    have hbe : blE op l n = cE op [l] := by unfold blE; rw [if_neg hc]
    exact core op n 0 (cE op [l]) (cE op [l]) (cE op [l]) A A2 c c2 l.length s.length [] [] [] (fun W => Sl W A l ∧ Sl W A2 s) hst w hI ⟨h, h2⟩ hl (by simp) (by simp) (by simp) (fun j hj => absurd hj (by simp))
      (fun W hW hS => tree_err1 op A c _ l W hW hS.1 hcl k hc)
      (fun W hS => rtree_err1 op A c s.length c2 A2 l W hS.1 k hc)
      (fun W hW hS => (blocks_err1 op n A c l W hW hS.1 hcl k hc).mono fun e w' hh => orLL hbe (by rw [hbe, orL_err _ hc]) (by rw [hbe, orL_err _ hc]) hh)
      (fun W hS => rblocks_err1 op n A c l W hS.1 k hc)
      (fun W hW hS => (levels_err op A c l W hW hS.1 hcl k hc).mono fun e w' hh => nil_lv hh)
      (fun W hS => (rlevels_err op A c l W hS.1 k hc).mono fun e w' hh => nil_lv hh)
  obtain ⟨d, hd⟩ := exD l.length (by omega)
  have haB := neE_aB (cE_ok hc).1
  have M := mon_op haB
  have hw : Wds l := (lsE_ok (cE_ok hc).2).2 l (by simp)
  have hVl : (lvs (doN op) (padL (neN op) d l) d).length = d + 1 := lvs_len _ _ _
  have hVs : AllShort (lvs (doN op) (padL (neN op) d l) d) := lvs_short _ (padL_len hd) hd.2.2
  have hd20 := hd.2.2
  have T : ∃ a E1, (∀ W, Inv W → (Sl W A l ∧ Sl W A2 s) → Calls Tryz.prog 15 #[.int .i64 op, .slice A l.length c, .slice A2 s.length c2] W (fun e w' => e = .returned (.tuple #[.int .i64 a, .int .i64 E1]) ∧ Below W.heap.size W w')) ∧ (∀ W, (Sl W A l ∧ Sl W A2 s) → Calls Tryz.prog 16 #[.int .i64 op, .slice A l.length c, .slice A2 s.length c2] W (fun e w' => e = .returned (.tuple #[.int .i64 a, .int .i64 E1]) ∧ Below W.heap.size W w')) := by
    by_cases hs : Shape s l.length
    · have hn : 0 < l.length := by have := hs.1; omega
      have e := M.tree hw hd hs hn
      refine ⟨_, 0, fun W hW hS => tree_ok op d A A2 c c2 l s W hW hS.1 hcl k hS.2 ks hc hd hn hs, fun W hS => ?_⟩
      rw [e]
      exact rtree_ok op A A2 c c2 l s W hS.1 hcl (by omega) hS.2 hc hs hn
    · exact ⟨0, 6, fun W hW hS => tree_err2 op A A2 c c2 l s W hW hS.1 hcl k hS.2 ks hc hs, fun W hS => rtree_err2 op A A2 c c2 l s W hS.1 k hS.2 ks hc hs⟩
  have B : ∃ C D E2, C.length ≤ 9223372036854775807 ∧ D.length ≤ 9223372036854775807 ∧ (∀ W, Inv W → (Sl W A l ∧ Sl W A2 s) → Calls Tryz.prog 17 #[.int .i64 op, .slice A l.length c, .int .i64 n] W (RetLL W C D E2)) ∧ (∀ W, (Sl W A l ∧ Sl W A2 s) → Calls Tryz.prog 18 #[.int .i64 op, .slice A l.length c, .int .i64 n] W (RetLL W C D E2)) := by
    by_cases hm : 1 ≤ n ∧ n ≤ 1048576
    · obtain ⟨m, rfl⟩ : ∃ m : Nat, n = (m : Int) := ⟨n.toNat, by omega⟩
      have hz := blocks_segs l m (by omega) (by omega)
      have q1 : (blS op l m).length = (chL l.length m).length := kp_len_one (fun _ => rfl) _ _ _
      have q2 := hz.few
      have q3 : blL op l m = ahL (doN op) (neN op) l := M.blocks_all hw hz
      have q4 : (ahL (doN op) (neN op) l).length = l.length := mk_length _ _
      exact ⟨blS op l m, blL op l m, 0, by omega, by rw [q3, q4]; omega, fun W hW hS => blocks_ok op m A c l W hW hS.1 hcl k hc (by omega) (by omega), fun W hS => rblocks_ok op m A c l W hS.1 hcl k hc (by omega) (by omega)⟩
    · have hbe : blE op l n = 2 := by unfold blE; rw [if_pos hc, if_neg hm]
      exact ⟨[], [], 2, by simp, by simp, fun W hW hS => (blocks_err2 op n A c l W hW hS.1 hcl k hc hm).mono fun e w' hh => orLL hbe (by rw [hbe]; rfl) (by rw [hbe]; rfl) hh, fun W hS => rblocks_err2 op n A c l W hS.1 k hc hm⟩
  obtain ⟨a, E1, T1, T2⟩ := T
  obtain ⟨C, D, E2, hC, hD, B1, B2⟩ := B
  exact core op n a E1 E2 0 A A2 c c2 l.length s.length C D (lvs (doN op) (padL (neN op) d l) d) (fun W => Sl W A l ∧ Sl W A2 s) hst w hI ⟨h, h2⟩ hl hC hD (by rw [hVl]; omega) hVs T1 T2 B1 B2
    (fun W hW hS => (levels_ok op d A c l W hW hS.1 hcl k hd hc).mono fun e w' hh => by
      obtain ⟨G, vs, rfl, hT, hb⟩ := hh
      exact ⟨_, _, by rw [hVl], tree_sll hT hd20, hb⟩)
    (fun W hS => (rlevels_ok op d A c l W hS.1 (by omega) hc hd).mono fun e w' hh => by
      obtain ⟨A', c', rfl, hT, hb⟩ := hh
      exact ⟨_, _, by rw [hVl], hT, hb⟩)

/-! ### the row and the card -/
set_option maxRecDepth 100000
theorem own : ownKnob Tryz.prog.godebug = none := by kernel_rfl
theorem door_met (os : Os) (args : Array Value) : laidMetH Tryz.prog Rows.scanTreesRow.laid ((World.doorLaid Tryz.prog 61 os).forCall (fun _ _ => 0) ⟨#[], args, []⟩).memory :=
  laidMetH_of_parts3 (fuel := 8) (laidMet_of_run' 8 (by kernel_rfl) (by kernel_rfl)) (by kernel_rfl) (by kernel_rfl)
theorem lifted (os : Os) (started : os.Started) (H : Type) (enc : TypeId × Value → H) :
    ReturnsInHanded {} Tryz.checked os 4 .any (fun w args => (Rows.scanTreesSpec.pre enc Tryz.prog Tryz.f4 [] false w args ∧ laidMetH Tryz.prog Rows.scanTreesRow.laid w) ∧ sizedMet enc Tryz.prog Tryz.f4 (OpenSpec.ofChange Rows.scanTreesSpec) false w args)
      (Rows.scanTreesSpec.post enc Tryz.prog Tryz.f4 false true false false) := by
  refine returnsInHanded_of_change_and (C := Tryz.checked) (X := fun w _ => laidMetH Tryz.prog Rows.scanTreesRow.laid w) (fun _ _ _ hh h => h.of_heap hh) own started (by kernel_rfl) Tryz.func4
    (ChangeSpec.witness_shaped (enc := enc) (C := Tryz.checked) (os := os) (X := fun w _ => laidMetH Tryz.prog Rows.scanTreesRow.laid w) false (World.doorLaid Tryz.prog 61 os) #[.int .i64 0, .slice none 0 0, .slice none 0 0, .int .i64 0] 8 rfl (World.shaped_of_RefB (by kernel_rfl) (by kernel_rfl)) (by kernel_rfl) (by kernel_rfl) (by kernel_rfl) (door_met os _)) ?_
  intro W base args ds gs before hval0 hW _ _ hL _
  have hval : ∀ (j : Nat) t v, Tryz.f4.params[j]? = some t → args[j]? = some v → Value.okWide Tryz.prog W .any base t v := hval0
  have hW' := hW
  obtain ⟨p, q, hA0, hV, rfl, hfz, hnd⟩ := hW
  have hA : DataW.TrodAll enc Tryz.prog W 0 (fun _ => true) true Tryz.f4.params.toList args.toList ds p := hA0
  rw [Tryz.params4] at hA hval
  obtain ⟨v0, vs0, d0, ds0, p0, q0, hargs, rfl, rfl, h0, r0⟩ := trodAll_cons hA
  obtain ⟨v1, vs1, d1, ds1, p1, q1, rfl, rfl, rfl, h1, r1⟩ := trodAll_cons r0
  obtain ⟨v2, vs2, d2, ds2, p2, q2, rfl, rfl, rfl, h2, r2⟩ := trodAll_cons r1
  obtain ⟨v3, vs3, d3, ds3, p3, q3, rfl, rfl, rfl, h3, r3⟩ := trodAll_cons r2
  obtain ⟨rfl, rfl, rfl⟩ := trodAll_nil r3
  obtain rfl : args = #[v0, v1, v2, v3] := by cases args; simp_all
  obtain ⟨rfl, rfl⟩ := trodVars_none hV
  clear hA0 hval0
  simp only [List.append_nil] at hW'
  obtain ⟨a0, rfl, rfl, rfl, w0⟩ := open_int Tryz.underlying3 (hval 0 3 v0 rfl rfl) h0
  have hlt1 : ∀ x ∈ p1, x.block < W.heap.size := fun x hx => by simpa using hW'.lt x (by simp [hx])
  have hg1 : ∀ (W' : World), Below W.heap.size W W' → DataW.Trod enc Tryz.prog W' 0 (fun b => decide (b < W.heap.size)) true 22 v1 d1 p1 :=
    fun W' hn => Below.trod Tryz.laidOut (by kernel_rfl) (of_decide_eq_true (by kernel_rfl)) h1 hn hlt1
  obtain ⟨A1, c1, z1, rfl, hle1, hmx1, hS1, hR1⟩ := open_sl (hval 1 22 v1 rfl rfl) h1 hlt1
  have hlt2 : ∀ x ∈ p2, x.block < W.heap.size := fun x hx => by simpa using hW'.lt x (by simp [hx])
  have hg2 : ∀ (W' : World), Below W.heap.size W W' → DataW.Trod enc Tryz.prog W' 0 (fun b => decide (b < W.heap.size)) true 22 v2 d2 p2 :=
    fun W' hn => Below.trod Tryz.laidOut (by kernel_rfl) (of_decide_eq_true (by kernel_rfl)) h2 hn hlt2
  obtain ⟨A2, c2, z2, rfl, hle2, hmx2, hS2, hR2⟩ := open_sl (hval 2 22 v2 rfl rfl) h2 hlt2
  obtain ⟨a3, rfl, rfl, rfl, w3⟩ := open_int Tryz.underlying3 (hval 3 3 v3 rfl rfl) h3
  refine (walk a0 A1 c1 z1 A2 c2 z2 a3 W (of_laid hL) hS1 hle1 (by unfold Ok; omega) hS2 hle2 (by unfold Ok; omega)).mono fun e W' ⟨he, hB⟩ => ?_
  subst he
  exact ⟨_, rfl, _, _, _, [], _, [], hW', trodAll_cons_mk (shut_bool Tryz.underlying4 _) trodAll_mk0, trodAll_cons_mk (shut_int Tryz.underlying3 w0) (trodAll_cons_mk (hg1 _ hB) (trodAll_cons_mk (hg2 _ hB) (trodAll_cons_mk (shut_int Tryz.underlying3 w3) trodAll_mk0))), rfl, hB.frame _, fun h => by cases h⟩
theorem holds : Rows.ScanTreesSaid :=
  OpenClaim.holds_of_wide 4 Tryz.f4 rfl rfl rfl rfl rfl rfl rfl ⟨rfl, rfl, rfl, rfl, rfl⟩ rfl rfl rfl rfl rfl (by kernel_rfl) Tryz.func4 (by kernel_rfl)
    (of_decide_eq_true (by kernel_rfl)) (by unfold Func.isWrapper; first | (rw [if_pos (by decide +kernel)]; kernel_rfl) | (rw [if_neg (by decide +kernel)]; exact ⟨rfl, rfl⟩))
    (fun os started H enc _ => lifted os started H enc)
theorem proved : Rows.ScanTreesCardSaid :=
  Claim7.holds_tied_plain_at .later [] [.data] true (true, "39db146c1ea4f99e319f61b0ca8fb22d700a93142eae72cffab67917881868a7") false
    holds (fun _ h => by cases h) (by kernel_rfl) (fun _ h => by cases h) scanTrees_row_tie rfl ⟨rfl, rfl⟩ (by kernel_rfl) rfl
    (fun f fn hf hfn => by
      obtain rfl : f = 4 := Option.some.inj ((show Tryz.prog.funcNamed "sheafworks/sheafworkslaw05.ScanTrees" = some 4 by kernel_rfl).symm.trans hf) |>.symm
      obtain rfl : fn = Tryz.f4 := (Option.some.inj (Tryz.func4.symm.trans hfn)).symm
      exact ⟨by kernel_rfl, fun j t ht => by
        rw [Tryz.params4] at ht
        have hm : t ∈ [3, 22, 22, 3] := by
          have := Array.mem_of_getElem? ht
          simpa using this
        have hall : ([3, 22, 22, 3].all fun u => !Tryz.prog.wantsStandIn u) = true := by kernel_rfl
        exact (show Tryz.prog.wantsStandIn t = false by simpa using List.all_eq_true.1 hall t hm)⟩)
    (by kernel_rfl)
#print axioms proved
end Go.Proofs.YtecpanppnljkhaaGreatDoor.scanTrees
