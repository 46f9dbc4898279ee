/- The iterator over segments has its contract: all of them, in order; or the first k, where a round has said 'no more'. -/
import Derived.RangeFuncNested
import Derived.RangeFuncBound
import Derived.RangeFuncCalls
import Derived.RangeFuncLeaves
import Derived.RangeFuncBox
import Derived.Shelf.Abstract
import Derived.WalkKit
import Derived.OwnWalkIn
import Derived.TacticsInMore
import Derived.LoopNIn
import Derived.LoopIn
import Derived.Maps.AppendAt
import Derived.Test.YtcbkocjpkdcpfaaWd
namespace Go.Proofs.Ytcbkocjpkdcpfaa
set_option linter.unusedVariables false
open Go.RowKit Go.Shelf

attribute [local go_sem] Oper.semAt_some

/-- What has come when k rounds are over. -/
def fr (n k : Nat) : List (Fin n) := (List.finRange n).take k
theorem fr_succ (n k : Nat) (h : k < n) : fr n (k + 1) = fr n k ++ [⟨k, h⟩] := by
  unfold fr
  rw [List.take_succ_eq_append_getElem (by simpa using h)]
  simp
theorem fr_length (n k : Nat) (h : k ≤ n) : (fr n k).length = k := by simp [fr, h]
theorem fr_all (n : Nat) : fr n n = List.finRange n := by unfold fr; rw [List.take_of_length_le (by simp)]

/-- What the iterator over segments hands out: the number, and the span. -/
def segV (zs : List Int) (x : Fin zs.length) : Array Value := #[.int .i64 ((x.val : Nat) : Int), .agg #[.int .i64 (psum zs x.val), .int .i64 (nth zs x.val)]]

/-- The lists that a check lets by. -/
structure Fine (zs : List Int) : Prop where
  len : zs.length ≤ 1048576
  pos : PosTo zs zs.length
  sum : zs.sum ≤ 1048576
theorem Fine.of_ck {zs : List Int} (h : ckE zs = 0) : Fine zs := by
  obtain ⟨h1, h2, h3, _⟩ := ck_ok h
  exact ⟨h1, posTo_of zs h2, h3⟩
theorem Fine.psum {zs : List Int} (h : Fine zs) (k : Nat) (hk : k ≤ zs.length) : 0 ≤ psum zs k ∧ psum zs k ≤ 1048576 := by
  have h1 := psum_nonneg zs k hk (h.pos.le hk)
  have h2 := psum_mono zs zs.length (Nat.le_refl _) h.pos k zs.length hk (Nat.le_refl _)
  rw [psum_all] at h2
  have := h.sum
  exact ⟨h1, by omega⟩
theorem Fine.nth {zs : List Int} (h : Fine zs) (k : Nat) (hk : k < zs.length) : 0 ≤ nth zs k ∧ nth zs k ≤ 1048576 := by
  have h1 := h.pos k hk
  have h2 := h.psum k (by omega)
  have h3 := h.psum (k + 1) (by omega)
  rw [psum_succ zs k hk] at h3
  exact ⟨h1, by omega⟩

set_option maxRecDepth 100000 in
set_option maxHeartbeats 2000000 in
theorem segs_in (F : Fence) (n : Nat) (h7 : F.fn 63) (hro : F.round = none) (hn : 1 ≤ n) (l Bs n₀ b off c : Nat) (zs : List Int) (hz : Fine zs) (hb : b < n₀) (J Jx : List (Fin zs.length) → World → Prop)
    (hY : ∀ pre x W, J pre W → pre.length < zs.length → YieldAt F (n - 1) Try.prog l (segV zs x) W fun e W' =>
      (e = .returned (.bool true) ∧ J (pre ++ [x]) W' ∧ Below n₀ W W') ∨ (e = .returned (.bool false) ∧ Jx (pre ++ [x]) W'))
    (W : World) (hBs : W.cell? ⟨Bs, 0, none⟩ = some (.slice (some ⟨b, off, none⟩) zs.length c)) (hc : ∀ j, j < zs.length → W.cell? ⟨b, off + j, none⟩ = some (.int .i64 (nth zs j))) (h0 : J [] W) :
    CallsIn F n Try.prog 63 #[.func (.yield l) #[] #[], .pointer (some ⟨Bs, 0, none⟩)] W fun e W' => (∃ v, e = .returned v) ∧
      ((∃ ys, ys = List.finRange zs.length ∧ J ys W') ∨ (∃ pre, (∃ k, k ≤ zs.length ∧ pre = fr zs.length k) ∧ Jx pre W')) := by
  have hlen := hz.len
  refine callsIn_of_wp Try.func63 rfl h7 ?_ hro
  simp only [Try.ntmps63, List.size_toArray, List.length_cons, List.length_nil, Nat.reduceAdd, Nat.reduceSub, Array.replicate_succ, Array.replicate_zero, List.push_toArray, List.append_toArray, List.nil_append, List.cons_append]
  gi_wp2
  gi_loopw [3, 8] (fun p i wr => ∃ k : Nat, k ≤ zs.length ∧ i = .int .i64 k ∧ p = .int .i64 (psum zs k) ∧ J (fr zs.length k) wr ∧ Below n₀ W wr)
    (fun _ i _ => zs.length - (intOf i).toNat)
  case atStart => exact ⟨0, Nat.zero_le _, rfl, by rw [psum_zero], h0, Below.refl _ _⟩
  case round =>
    obtain ⟨k, hk, rfl, rfl, hJs, hnx⟩ := hrel
    by_cases hlt : k < zs.length
    · have hcx' := (hnx.cell (p := ⟨b, off + k, none⟩) hb).trans (hc k hlt)
      obtain ⟨fn, tmps, assign, body, hy, hR⟩ := hY _ ⟨k, hlt⟩ wr hJs (by rw [fr_length _ _ hk]; exact hlt)
      have h1 := hz.psum k hk
      have h2 := hz.nth k hlt
      have hs := Lib.hid (psum_succ zs k hlt)
      have HF := Lib.hid (fr_succ zs.length k hlt)
      simp only [segV] at hy
      gi_wp2
      refine hR.mono ?_
      rintro e W3 (⟨rfl, hJ3, hk3⟩ | ⟨rfl, hJx3⟩)
      · gi_wp2
        go_roundw
        case rel => exact ⟨k + 1, by omega, by go_num, by rw [hs.out], by rw [HF.out]; exact hJ3, hnx.trans hk3⟩
        case measure => simp [intOf]; omega
      · gi_wp2
        refine bodyPost_ret (results_none rfl _ _ _) rfl ?_
        exact ⟨⟨_, rfl⟩, .inr ⟨_, ⟨k + 1, by omega, HF.out.symm⟩, hJx3⟩⟩
    · obtain rfl : k = zs.length := by omega
      gi_wp2
      go_end0
      exact ⟨⟨_, rfl⟩, .inl ⟨_, fr_all _, hJs⟩⟩

set_option maxRecDepth 100000 in
set_option maxHeartbeats 1000000 in
theorem segs_nil_in (F : Fence) (n : Nat) (h7 : F.fn 63) (hro : F.round = none) (l Bs : Nat) (A : Option Addr) (c : Nat) (J : List (Fin (List.length ([] : List Int))) → World → Prop) (W : World) (hBs : W.cell? ⟨Bs, 0, none⟩ = some (.slice A 0 c)) (h0 : J [] W) :
    CallsIn F n Try.prog 63 #[.func (.yield l) #[] #[], .pointer (some ⟨Bs, 0, none⟩)] W fun e W' => (∃ v, e = .returned v) ∧ J [] W' := by
  refine callsIn_of_wp Try.func63 rfl h7 ?_ hro
  simp only [Try.ntmps63, List.size_toArray, List.length_cons, List.length_nil, Nat.reduceAdd, Nat.reduceSub, Array.replicate_succ, Array.replicate_zero, List.push_toArray, List.append_toArray, List.nil_append, List.cons_append]
  gi_wp2
  gi_loopw [8] (fun i wr => i = .int .i64 0 ∧ J [] wr) (fun _ _ => 0)
  case atStart => exact ⟨rfl, h0⟩
  case round =>
    obtain ⟨rfl, hJs⟩ := hrel
    gi_wp2
    go_end0
    exact ⟨⟨_, rfl⟩, hJs⟩

/-- segments(lens) hands back a value that 'SeqStopsK', at 'Kp := Below n₀'. -/
theorem segs_stops (F : Fence) (n : Nat) (h7 : F.fn 63) (hro : F.round = none) (hn : 1 ≤ n) (Bs n₀ c : Nat) (A : Option Addr) (zs : List Int) (hz : Fine zs) (w wa : World) (hBs : Bs < w.heap.size) (hn₀ : n₀ = wa.heap.size) (hB : Below n₀ wa w) (hsz : n₀ ≤ w.heap.size)
    (hc : w.cell? ⟨Bs, 0, none⟩ = some (.slice A zs.length c)) (hS : Sl wa A zs) :
    SeqStopsK F n Try.prog 63 #[.pointer (some ⟨Bs, 0, none⟩)] (segV zs) (Below n₀) (fun ys => ys = List.finRange zs.length) (fun pre => ∃ k, k ≤ zs.length ∧ pre = fr zs.length k) zs.length w := fun l J Jx W hW _ _ hY h0 => by
  have hc' := (hW.cell (p := ⟨Bs, 0, none⟩) hBs).trans hc
  rcases Nat.eq_zero_or_pos zs.length with h | h
  · have e := List.eq_nil_of_length_eq_zero h
    subst e
    exact (segs_nil_in F n h7 hro l Bs A c J W hc' h0).mono fun e W' ⟨he, hj⟩ => ⟨he, .inl ⟨_, rfl, hj⟩⟩
  · obtain ⟨b, off, rfl, hb, hcs⟩ := hS h
    refine segs_in F n h7 hro hn l Bs n₀ b off c zs hz (by omega) J Jx hY W hc' (fun j hj => ?_) h0
    exact ((hW.mono hsz).cell (p := ⟨b, off + j, none⟩) (by show b < n₀; omega)).trans ((hB.cell (p := ⟨b, off + j, none⟩) (by show b < n₀; omega)).trans (hcs j hj))

/-! ### what a caller's invariant is made of abides the law's own book-keeping -/
def Aside (B : Nat) (X : World) (row : Option Nat) : Prop := ∀ r, row = some r → B ≤ r ∧ ∃ o : Obj, X.heap[r]? = some o ∧ o.isCells = false
theorem Blk.aside {X Y : World} {B g : Nat} {t : TypeId} {cs : Array Value} {row : Option Nat} (h : Blk X g t cs) (hg : X.grownBy Y row) (hr : Aside B X row) : Blk Y g t cs :=
  h.grown hg (fun e => by
    obtain ⟨_, o, ho, hc⟩ := hr g e.symm
    rw [show X.heap[g]? = _ from h] at ho; cases ho; cases hc)
theorem own_aside {X Y : World} {B base : Nat} {e : TypeId} {size n : Nat} {v : Value} {xs : List Value} {row : Option Nat} (h : X.ownsRow base e size v n xs) (hg : X.grownBy Y row) (hr : Aside B X row) : Y.ownsRow base e size v n xs := by
  refine h.kept hg ?_
  rcases h.2 with ⟨rfl, _⟩ | ⟨g, cap, cur, rfl, _, hgb, _⟩
  · exact .inl rfl
  · refine .inr fun e' => ?_
    obtain ⟨_, o, ho, hc⟩ := hr g (by simpa [Value.ownBlock] using e'.symm)
    rw [hgb] at ho; cases ho; cases hc
theorem OwnI.aside {X Y : World} {B base : Nat} {v : Value} {zs : List Int} {row : Option Nat} (h : OwnI X base v zs) (hg : X.grownBy Y row) (hr : Aside B X row) : OwnI Y base v zs := own_aside h hg hr
theorem below_aside {w X Y : World} {B n₀ : Nat} {row : Option Nat} (h : Below n₀ w X) (hn : n₀ ≤ w.heap.size) (hB : n₀ ≤ B) (hg : X.grownBy Y row) (hr : Aside B X row) : Below n₀ w Y :=
  h.grown hg (Nat.le_trans hn h.size) (fun k e => Nat.le_trans hB (hr k e).1)

theorem nth_app (a b : List Int) (k : Nat) (h : a.length = k) : nth (a ++ b) k = nth b 0 := by
  unfold nth
  rw [List.getD_eq_getElem?_getD, List.getElem?_append_right (by omega), h, Nat.sub_self, List.getD_eq_getElem?_getD]
theorem nth_drop0 (l : List Int) (k : Nat) : nth (l.drop k) 0 = nth l k := by
  unfold nth
  rw [List.getD_eq_getElem?_getD, List.getElem?_drop, Nat.add_zero, List.getD_eq_getElem?_getD]
/-- A fold that sets each place once. -/
theorem foldl_set (n : Nat) (f : Int → Fin n → Int) (init : List Int) (hi : init.length = n) (k : Nat) (hk : k ≤ n) :
    (fr n k).foldl (fun l x => l.set x.val (f (nth l x.val) x)) init = ((fr n k).map fun x => f (nth init x.val) x) ++ init.drop k := by
  induction k with
  | zero => simp [fr]
  | succ k ih =>
    have hk' : k < n := by omega
    rw [fr_succ n k hk', List.foldl_append, List.map_append, ih (by omega)]
    have hl : ((fr n k).map fun x => f (nth init x.val) x).length = k := by rw [List.length_map, fr_length n k (by omega)]
    have hnth : nth (((fr n k).map fun x => f (nth init x.val) x) ++ init.drop k) k = nth init k := by
      rw [nth_app _ _ k hl, nth_drop0]
    simp only [List.foldl_cons, List.foldl_nil, List.map_cons, List.map_nil, hnth]
    rw [List.set_append_right _ _ (by omega), hl, Nat.sub_self, List.drop_eq_getElem_cons (by omega : k < init.length), List.set_cons_zero, List.append_assoc]
    rfl
theorem foldl_set_all (n : Nat) (f : Int → Fin n → Int) (init : List Int) (hi : init.length = n) :
    (List.finRange n).foldl (fun l x => l.set x.val (f (nth l x.val) x)) init = (List.finRange n).map fun x => f (nth init x.val) x := by
  rw [← fr_all, foldl_set n f init hi n (Nat.le_refl _), List.drop_of_length_le (by omega), List.append_nil]
theorem foldl_set_length {α : Type} (f : List Int → α → Int) (g : α → Nat) (pre : List α) (init : List Int) : (pre.foldl (fun l x => l.set (g x) (f l x)) init).length = init.length := by
  induction pre generalizing init with
  | nil => rfl
  | cons x pre ih => rw [List.foldl_cons, ih, List.length_set]
theorem finRange_map (n : Nat) (f : Nat → Int) : ((List.finRange n).map fun x => f x.val) = (List.range n).map f := by
  apply List.ext_getElem
  · simp
  · intro i h1 h2; simp
theorem bcell {W w1 : World} (hb : Below W.heap.size W w1) : (∀ b o, b < W.heap.size → w1.cell? ⟨b, o, none⟩ = W.cell? ⟨b, o, none⟩) ∧ (∀ b o, b < W.heap.size → w1.frozen? ⟨b, o, none⟩ = W.frozen? ⟨b, o, none⟩) :=
  ⟨fun b o h => hb.cell (p := ⟨b, o, none⟩) h, fun b o h => hb.frozen (p := ⟨b, o, none⟩) h⟩
/-! ### a block of the call's own that holds just a list of ints -/
/-- Block g is just these ints. -/
def Full (w : World) (g : Nat) (zs : List Int) : Prop := Blk w g 3 (zs.map (Value.int .i64)).toArray
section
variable {w w' : World} {g : Nat} {zs : List Int}
theorem Full.made (w : World) (n : Nat) (hm : n ≤ maxLen) : Full (w.alloc (.cells (madeCells #[.int .i64 0] n) 3)) w.heap.size (List.replicate n 0) := by
  have h := Blk.new w 3 (madeCells #[.int .i64 0] n)
  have e : ((List.replicate n (0 : Int)).map (Value.int .i64)).toArray = madeCells #[.int .i64 0] n := by
    rw [List.map_replicate, ← toList_madeCells_one]
  unfold Full
  rw [e]
  exact h
theorem Full.lt (h : Full w g zs) : g < w.heap.size := Blk.lt h
theorem Full.cell (h : Full w g zs) (k : Nat) (hk : k < zs.length) : w.cell? ⟨g, k, none⟩ = some (.int .i64 (nth zs k)) := by
  rw [Blk.cell h k]
  simp [List.getElem?_eq_getElem hk, nth_eq zs k hk]
theorem Full.frozen (h : Full w g zs) (k : Nat) : w.frozen? ⟨g, k, none⟩ = false := Blk.frozen h k
theorem Full.alloc (h : Full w g zs) (o : Obj) : Full (w.alloc o) g zs := Blk.alloc h o
theorem Full.set_ (h : Full w g zs) (k : Nat) (x : Int) : Full (w.setCell ⟨g, k, none⟩ (.int .i64 x)) g (zs.set k x) := by
  have := Blk.set_ h k (.int .i64 x)
  unfold Full
  rw [List.map_set]
  simpa using this
theorem Full.far (h : Full w g zs) {p : Addr} (hp : g ≠ p.block) (u : Value) : Full (w.setCell p u) g zs := Blk.far h hp u
theorem Full.below {B : Nat} (h : Full w g zs) (hb : Below B w w') (hB : w.heap.size ≤ B) : Full w' g zs := Blk.below h hb (Nat.lt_of_lt_of_le h.lt hB)
theorem Full.grown {row : Option Nat} (h : Full w g zs) (hb : w.grownBy w' row) (hg : some g ≠ row) : Full w' g zs := Blk.grown h hb hg
theorem Full.aside {B : Nat} {row : Option Nat} (h : Full w g zs) (hg : w.grownBy w' row) (hr : Aside B w row) : Full w' g zs := Blk.aside h hg hr
theorem Full.sl (h : Full w g zs) : Sl w (some ⟨g, 0, none⟩) zs := fun _ => ⟨g, 0, rfl, h.lt, fun j hj => by rw [Nat.zero_add]; exact h.cell j hj⟩
end
/-- The slice at A is not in block g. -/
def NotAt (A : Option Addr) (g : Nat) : Prop := ∀ a, A = some a → a.block ≠ g
theorem Sl.far {w : World} {A : Option Addr} {zs : List Int} {g k : Nat} (h : Sl w A zs) (hn : NotAt A g) (u : Value) : Sl (w.setCell ⟨g, k, none⟩ u) A zs := fun hl => by
  obtain ⟨b, off, e, hb, hc⟩ := h hl
  have hne : b ≠ g := hn _ e
  refine ⟨b, off, e, by simpa using hb, fun j hj => ?_⟩
  rw [World.cell?_of_block (Below.heap_setCell w ⟨g, k, none⟩ u b hne)]
  exact hc j hj
theorem OwnI.form' {w : World} {base : Nat} {v : Value} {zs : List Int} (h : OwnI w base v zs) : ∃ A c, v = .slice A zs.length c ∧ zs.length ≤ c ∧ Sl w A zs ∧ ∀ a, A = some a → base ≤ a.block ∧ a.block < w.heap.size := by
  obtain ⟨A, c, rfl, h1, h2⟩ := h.form
  refine ⟨A, c, rfl, h1, h2, fun a e => ?_⟩
  subst e
  rcases h.2 with ⟨h0, _⟩ | ⟨g, cap, cur, e, _⟩
  · cases h0
  · have e1 : a = ⟨g, 0, none⟩ := by injection e with e; injection e
    subst e1
    exact h.lt g rfl

/-! ### an append into a boxed slice of the call's own -/
theorem Blk.not_row {W : World} {base B : Nat} {t : TypeId} {cs : Array Value} {v : Value} {zs : List Int} (h : Blk W B t cs) (ht : t ≠ 3) (hrow : OwnI W base v zs) : some B ≠ v.ownBlock := fun e => by
  rcases hrow.2 with ⟨rfl, _⟩ | ⟨g, cap, cur, rfl, _, hgb, _⟩
  · cases e
  · obtain rfl : B = g := by simpa [Value.ownBlock] using e
    rw [show W.heap[B]? = _ from h] at hgb
    cases hgb
    exact ht rfl
theorem Blk.low_row {W : World} {base g : Nat} {v : Value} {zs : List Int} (h : OwnI W base v zs) (hg : g < base) : some g ≠ v.ownBlock := fun e => by
  have := (h.lt g e.symm).1
  omega
theorem OwnI.lower {W : World} {base n : Nat} {v : Value} {zs : List Int} (h : OwnI W base v zs) (hn : n ≤ base) : OwnI W n v zs := by
  refine ⟨h.1, ?_⟩
  rcases h.2 with h0 | ⟨g, cap, cur, e, h1, h2⟩
  · exact .inl h0
  · exact .inr ⟨g, cap, cur, e, Nat.le_trans hn h1, h2⟩
structure AppStep (W w1 : World) (base B : Nat) (v v' : Value) (zs : List Int) (x : Int) : Prop where
  box : Blk w1 B 22 #[v]
  box' : Blk (w1.setCell ⟨B, 0, none⟩ v') B 22 #[v']
  own : OwnI (w1.setCell ⟨B, 0, none⟩ v') base v' (zs ++ [x])
  others : KeepsOthers W (w1.setCell ⟨B, 0, none⟩ v')
  below : Below base W (w1.setCell ⟨B, 0, none⟩ v')
  keep : ∀ g t cs, Blk W g t cs → g ≠ B → some g ≠ v.ownBlock → Blk w1 g t cs ∧ Blk (w1.setCell ⟨B, 0, none⟩ v') g t cs
theorem app_step {W w1 : World} {base B : Nat} {v v' : Value} {zs : List Int} {x : Int} {tmp : Obj} (hv : Blk W B 22 #[v]) (hrow : OwnI W base v zs) (hb : base ≤ W.heap.size) (hB : base ≤ B)
    (hown' : w1.ownsRow base 3 1 v' (zs.length + 1) (zs.map (Value.int .i64) ++ [.int .i64 x])) (hgrow : (W.alloc tmp).grownBy w1 v.ownBlock) : AppStep W w1 base B v v' zs x := by
  have hv' : Boxed W B 22 v := hv
  obtain ⟨a1, a2, a3, a4, a5⟩ := Boxed.appended hv' (by decide) hrow hb hB hown' hgrow
  refine ⟨a1, a2, OwnI.snoc a3, a4, a5, fun g t cs hg hne hnr => ?_⟩
  have h1 : Blk w1 g t cs := (hg.alloc tmp).grown hgrow hnr
  exact ⟨h1, h1.far (p := ⟨B, 0, none⟩) hne v'⟩
/-- The same where the box lies below the base. -/
structure AppStep2 (W w1 : World) (base B : Nat) (v v' : Value) (zs : List Int) (x : Int) : Prop where
  box : Blk w1 B 22 #[v]
  box' : Blk (w1.setCell ⟨B, 0, none⟩ v') B 22 #[v']
  own : OwnI (w1.setCell ⟨B, 0, none⟩ v') base v' (zs ++ [x])
  others : KeepsOthers W (w1.setCell ⟨B, 0, none⟩ v')
  below : ∀ n, n ≤ base → n ≤ B → n ≤ W.heap.size → Below n W (w1.setCell ⟨B, 0, none⟩ v')
  keep : ∀ g t cs, Blk W g t cs → g ≠ B → some g ≠ v.ownBlock → Blk w1 g t cs ∧ Blk (w1.setCell ⟨B, 0, none⟩ v') g t cs
  full : ∀ g l, Full W g l → some g ≠ v.ownBlock → g ≠ B → Full (w1.setCell ⟨B, 0, none⟩ v') g l
theorem app_step2 {W w1 : World} {base B : Nat} {v v' : Value} {zs : List Int} {x : Int} {tmp : Obj} (hv : Blk W B 22 #[v]) (hrow : OwnI W base v zs) (hb : base ≤ W.heap.size)
    (hown' : w1.ownsRow base 3 1 v' (zs.length + 1) (zs.map (Value.int .i64) ++ [.int .i64 x])) (hgrow : (W.alloc tmp).grownBy w1 v.ownBlock) : AppStep2 W w1 base B v v' zs x := by
  have hv' : Boxed W B 22 v := hv
  have hlow := fun (n : Nat) (h : n ≤ base) => (OwnI.lower (n := n) (OwnI.snoc hown') h)
  have hap := fun (n : Nat) (h : n ≤ base) (h2 : n ≤ B) (h3 : n ≤ W.heap.size) => Boxed.appended hv' (by decide) (hrow.lower h) h3 h2 (hlow n h) hgrow
  obtain ⟨a1, a2, _, a4, _⟩ := hap 0 (by omega) (by omega) (by omega)
  have hnot : some B ≠ v'.ownBlock := Blk.not_row (B := B) (t := 22) a1 (by decide) (OwnI.snoc hown')
  refine ⟨a1, a2, ?_, a4, fun n h h2 h3 => (hap n h h2 h3).2.2.2.2, fun g t cs hg hne hnr => ?_, fun g l hg hnr hne => ?_⟩
  · exact (OwnI.snoc hown').kept (grownBy_setCell' w1 B v') (.inr hnot.symm)
  · have h1 : Blk w1 g t cs := (hg.alloc tmp).grown hgrow hnr
    exact ⟨h1, h1.far (p := ⟨B, 0, none⟩) hne v'⟩
  · exact ((hg.alloc tmp).grown hgrow hnr).far (p := ⟨B, 0, none⟩) hne v'
theorem ownsRow_succ {w : World} {base n : Nat} {v : Value} {xs : List Value} (h : w.ownsRow base 3 1 v (n + 1) xs) : ∃ g cap, v = .slice (some ⟨g, 0, none⟩) (n + 1) cap := by
  obtain ⟨g, cap, e, _⟩ := h.form (by omega)
  exact ⟨g, cap, e⟩
end Go.Proofs.Ytcbkocjpkdcpfaa
