/- Walks of prim: Fill, Bin, Pick, Off, Gather. -/
import Derived.Test.YtecpanppnljkhaaDoorCc
import Derived.Test.YtecpanppnljkhaaDoorCe
namespace Go.Proofs.YtecpanppnljkhaaDoor
set_option linter.unusedVariables false
open Go.RowKit

theorem al1 (w : World) (o1 : Obj) : Below w.heap.size w (w.alloc o1) := (Below.refl _ _).alloc (Nat.le_refl _) _
theorem al2 (w : World) (o1 o2 : Obj) : Below w.heap.size w ((w.alloc o1).alloc o2) := (al1 w o1).alloc (by simp) _
theorem al3 (w : World) (o1 o2 o3 : Obj) : Below w.heap.size w (((w.alloc o1).alloc o2).alloc o3) := (al2 w o1 o2).alloc (by simp; omega) _
theorem al4 (w : World) (o1 o2 o3 o4 : Obj) : Below w.heap.size w ((((w.alloc o1).alloc o2).alloc o3).alloc o4) := (al3 w o1 o2 o3).alloc (by simp; omega) _
theorem Blk.at {w : World} {g : Nat} {t : TypeId} {cs : Array Value} (h : w.heap.size = g) : Blk (w.alloc (.cells cs t)) g t cs := h ▸ Blk.new w t cs
theorem Blk.sl1 {w : World} {g : Nat} {n : Int} (h : Blk w g 3 #[.int .i64 n]) : Sl w (some ⟨g, 0, none⟩) [n] := fun _ => ⟨g, 0, rfl, h.lt, fun j hj => by
  match j, hj with
  | 0, _ => exact h.cell 0⟩
theorem RetL.mono {w w0 : World} {zs : List Int} {er : Int} {e : Ending} {w' : World} (h : RetL w0 zs er e w') (hb : Below w.heap.size w w0) : RetL w zs er e w' := by
  obtain ⟨A, c, h1, h2, h3, h4⟩ := h
  exact ⟨A, c, h1, h2, h3, below_step hb h4⟩
theorem retL_none {w w' : World} {er : Int} {l : List Int} (he : er ≠ 0) (h : Below w.heap.size w w') : RetL w (orL er l) er (.returned (.tuple #[.slice none 0 0, .int .i64 er])) w' := by
  rw [orL_err l he]
  exact ⟨none, 0, rfl, Nat.le_refl _, Sl.nil _ _, h⟩

set_option maxRecDepth 100000 in
set_option maxHeartbeats 2000000 in
theorem fill_any (n : Int) (A : Option Addr) (c : Nat) (l : List Int) (w : World) (h : Sl w A l) (hc : l.length ≤ c) (k : Ok l) :
    Calls Tryd.prog 47 #[.int .i64 n, .slice A l.length c] w (RetL w (orL (filE n l) (filL n l)) (filE n l)) := by
  have C1 : ∀ W g g', Below w.heap.size w W → Blk W g' 3 #[.int .i64 n] → Blk W g 22 #[.slice A l.length c, .slice (some ⟨g', 0, none⟩) 1 1] → Calls Tryd.prog 74 #[.slice (some ⟨g, 0, none⟩) 2 2] W (RetV W (.int .i64 (filE n l))) :=
    fun W g g' hb h1 h2 => check2 g A (some ⟨g', 0, none⟩) c 1 l [n] W h2 (h.step hb) h1.sl1 hc (Nat.le_refl _) k (by unfold Ok; simp)
  have bx := (Blk.new w 3 #[.int .i64 n])
  by_cases he : filE n l = 0
  · have hl : l.length ≤ 1048576 := (lsE_ok he).1 l (by simp)
    rw [he] at C1 ⊢
    rw [orL_ok]
    have C1 := Lib.hid C1
    have C2 : ∀ W, W.cell? ⟨w.heap.size, 0, none⟩ = some (.int .i64 n) → w.heap.size < W.heap.size → Calls Tryd.prog 79 #[.agg #[.slice none 0 0, .func (.func 87) #[] #[.pointer (some ⟨w.heap.size, 0, none⟩)]], .int .i64 (l.length : Int)] W (RetL W (filL n l) 0) := fun W hb hlt => by
      have := first_fill ⟨w.heap.size, 0, none⟩ (fun _ => n) (fun _ => 0) l.length W hl (fun k W' _ hB => fillc_any w.heap.size k n W' ((hB.cell hlt).trans hb))
      rw [fe_none (fun _ _ => rfl), orL_ok] at this
      exact this
    have C2 := Lib.hid C2
    clear he
    go_enter Tryd.func47, Tryd.ntmps47
    go_wp2_with fail
    refine (C1.out _ _ (w.heap.size + 1) (al3 _ _ _ _) ?_ ?_).mono ?_
    · exact (Blk.at (by simp)).alloc _
    · exact Blk.at (by simp)
    rintro e w1 ⟨rfl, hB⟩
    have hB0 := below_step (al3 _ _ _ _) hB
    have b1 := ((bx.alloc _).alloc _).below hB (by simp; omega)
    have c1 := b1.cell 0
    have hlt := b1.lt
    simp at c1
    go_wp2_with fail
    refine (C2.out _ ?_ ?_).mono ?_
    · exact (b1.alloc _).cell 0
    · exact (b1.alloc _).lt
    rintro e w2 ⟨A', c', rfl, hcc, hsl, hB2⟩
    go_wp2
    go_ret2
    exact ⟨A', c', rfl, hcc, hsl, below_step (below_step hB0 (al1 _ _)) hB2⟩
  · have hd : (filE n l != 0) = true := by rw [bne_iff_ne]; exact he
    have C1 := Lib.hid C1
    have HE := Lib.hid he
    clear he
    go_enter Tryd.func47, Tryd.ntmps47
    go_wp2_with fail
    refine (C1.out _ _ (w.heap.size + 1) (al3 _ _ _ _) ?_ ?_).mono ?_
    · exact (Blk.at (by simp)).alloc _
    · exact Blk.at (by simp)
    rintro e w1 ⟨rfl, hB⟩
    have hB0 := below_step (al3 _ _ _ _) hB
    go_wp2
    go_ret2
    exact retL_none HE.out hB0

set_option maxRecDepth 100000 in
set_option maxHeartbeats 4000000 in
theorem pick_any (A1 A2 A3 : Option Addr) (c1 c2 c3 : Nat) (f a b : List Int) (w : World) (h1 : Sl w A1 f) (h2 : Sl w A2 a) (h3 : Sl w A3 b) (hc1 : f.length ≤ c1) (hc2 : a.length ≤ c2) (hc3 : b.length ≤ c3) (k1 : Ok f) (k2 : Ok a) (k3 : Ok b) :
    Calls Tryd.prog 38 #[.slice A1 f.length c1, .slice A2 a.length c2, .slice A3 b.length c3] w (RetL w (orL (picE f a b) (picL f a b)) (picE f a b)) := by
  have C1 : ∀ W g, Below w.heap.size w W → Blk W g 22 #[.slice A1 f.length c1, .slice A2 a.length c2, .slice A3 b.length c3] → Calls Tryd.prog 33 #[.slice (some ⟨g, 0, none⟩) 3 3] W (RetV W (.int .i64 (picE f a b))) :=
    fun W g hb hg => even3 g A1 A2 A3 c1 c2 c3 f a b W hg (h1.step hb) (h2.step hb) (h3.step hb) hc1 hc2 hc3 k1 k2 k3
  have bx1 := (((Blk.new w 22 #[.slice A1 f.length c1]).alloc (.cells #[.slice A2 a.length c2] 22)).alloc (.cells #[.slice A3 b.length c3] 22)).alloc (.cells #[.slice A1 f.length c1, .slice A2 a.length c2, .slice A3 b.length c3] 22)
  have bx2 : Blk _ (w.heap.size + 1) _ _ := ((Blk.at (t := 22) (cs := #[.slice A2 a.length c2]) (show (w.alloc (.cells #[.slice A1 f.length c1] 22)).heap.size = w.heap.size + 1 by simp)).alloc (.cells #[.slice A3 b.length c3] 22)).alloc (.cells #[.slice A1 f.length c1, .slice A2 a.length c2, .slice A3 b.length c3] 22)
  have bx3 : Blk _ (w.heap.size + 1 + 1) _ _ := (Blk.at (t := 22) (cs := #[.slice A3 b.length c3]) (show ((w.alloc (.cells #[.slice A1 f.length c1] 22)).alloc (.cells #[.slice A2 a.length c2] 22)).heap.size = w.heap.size + 1 + 1 by simp)).alloc (.cells #[.slice A1 f.length c1, .slice A2 a.length c2, .slice A3 b.length c3] 22)
  by_cases he : picE f a b = 0
  · have hl := (lsE_ok (evE_ok he).1).1 f (by simp)
    have e2 : a.length = f.length := (evE_ok he).2 a (by simp)
    have e3 : b.length = f.length := (evE_ok he).2 b (by simp)
    have E2 := Lib.hid e2
    have E3 := Lib.hid e3
    rw [he] at C1 ⊢
    rw [orL_ok]
    have C1 := Lib.hid C1
    have C2 : ∀ W, Below w.heap.size w W → W.cell? ⟨w.heap.size, 0, none⟩ = some (.slice A1 f.length c1) → W.cell? ⟨w.heap.size + 1, 0, none⟩ = some (.slice A2 a.length c2) → W.cell? ⟨w.heap.size + 1 + 1, 0, none⟩ = some (.slice A3 b.length c3) → w.heap.size + 1 + 1 < W.heap.size →
        Calls Tryd.prog 79 #[.agg #[.slice none 0 0, .func (.func 80) #[] #[.pointer (some ⟨w.heap.size, 0, none⟩), .pointer (some ⟨w.heap.size + 1, 0, none⟩), .pointer (some ⟨w.heap.size + 1 + 1, 0, none⟩)]], .int .i64 (f.length : Int)] W (RetL W (picL f a b) 0) := fun W hb d1 d2 d3 hlt => by
      have := first_pick ⟨w.heap.size, 0, none⟩ ⟨w.heap.size + 1, 0, none⟩ ⟨w.heap.size + 1 + 1, 0, none⟩ (fun k => if nth f k ≠ 0 then nth a k else nth b k) (fun _ => 0) f.length W hl (fun k W' hk hB => by
        have hB' := below_step hb hB
        exact pickc_any _ _ _ A1 A2 A3 c1 c2 c3 f a b k W' hk E2.out E3.out ((hB.cell (by show w.heap.size < _; omega)).trans d1) ((hB.cell (by show w.heap.size + 1 < _; omega)).trans d2) ((hB.cell (by show w.heap.size + 1 + 1 < _; omega)).trans d3) (h1.step hB') (h2.step hB') (h3.step hB') hl)
      rw [fe_none (fun _ _ => rfl), orL_ok] at this
      exact this
    have C2 := Lib.hid C2
    clear he e2 e3
    go_enter Tryd.func38, Tryd.ntmps38
    go_wp2_with fail
    refine (C1.out _ _ (al4 _ _ _ _ _) ?_).mono ?_
    · exact Blk.at (by simp)
    rintro e w1 ⟨rfl, hB⟩
    have hB0 := below_step (al4 _ _ _ _ _) hB
    have b1 := bx1.below hB bx1.lt
    have b2 := bx2.below hB bx2.lt
    have b3 := bx3.below hB bx3.lt
    have d1 := b1.cell 0
    have d2 := b2.cell 0
    have d3 := b3.cell 0
    have hlt := b3.lt
    simp at d1 d2 d3
    have D1 : ∀ o, (w1.alloc o).cell? ⟨w.heap.size, 0, none⟩ = some (.slice A1 f.length c1) := fun o => (b1.alloc o).cell 0
    clear bx1 bx2 bx3
    go_wp2_with fail
    refine (C2.out _ ?_ ?_ ?_ ?_ ?_).mono ?_
    · exact below_step hB0 (al1 _ _)
    · exact (b1.alloc _).cell 0
    · exact (b2.alloc _).cell 0
    · exact (b3.alloc _).cell 0
    · exact (b3.alloc _).lt
    rintro e w2 ⟨A', c', rfl, hcc, hsl, hB2⟩
    go_wp2
    go_ret2
    exact ⟨A', c', rfl, hcc, hsl, below_step (below_step hB0 (al1 _ _)) hB2⟩
  · have hd : (picE f a b != 0) = true := by rw [bne_iff_ne]; exact he
    have C1 := Lib.hid C1
    have HE := Lib.hid he
    clear he bx1 bx2 bx3
    go_enter Tryd.func38, Tryd.ntmps38
    go_wp2_with fail
    refine (C1.out _ _ (al4 _ _ _ _ _) ?_).mono ?_
    · exact Blk.at (by simp)
    rintro e w1 ⟨rfl, hB⟩
    have hB0 := below_step (al4 _ _ _ _ _) hB
    go_wp2
    go_ret2
    exact retL_none HE.out hB0

set_option maxRecDepth 100000 in
set_option maxHeartbeats 4000000 in
theorem off_any (A1 A2 : Option Addr) (c1 c2 : Nat) (a b : List Int) (w : World) (h1 : Sl w A1 a) (h2 : Sl w A2 b) (hc1 : a.length ≤ c1) (hc2 : b.length ≤ c2) (k1 : Ok a) (k2 : Ok b) :
    Calls Tryd.prog 44 #[.slice A1 a.length c1, .slice A2 b.length c2] w (RetL w (orL (offE a b) (offL a b)) (offE a b)) := by
  have C1 : ∀ W g, Below w.heap.size w W → Blk W g 22 #[.slice A1 a.length c1, .slice A2 b.length c2] → Calls Tryd.prog 74 #[.slice (some ⟨g, 0, none⟩) 2 2] W (RetV W (.int .i64 (offE a b))) :=
    fun W g hb hg => check2 g A1 A2 c1 c2 a b W hg (h1.step hb) (h2.step hb) hc1 hc2 k1 k2
  have bx1 := ((Blk.new w 22 #[.slice A1 a.length c1]).alloc (.cells #[.slice A2 b.length c2] 22)).alloc (.cells #[.slice A1 a.length c1, .slice A2 b.length c2] 22)
  have bx2 : Blk _ (w.heap.size + 1) _ _ := (Blk.at (t := 22) (cs := #[.slice A2 b.length c2]) (show (w.alloc (.cells #[.slice A1 a.length c1] 22)).heap.size = w.heap.size + 1 by simp)).alloc (.cells #[.slice A1 a.length c1, .slice A2 b.length c2] 22)
  by_cases he : offE a b = 0
  · have hl := (lsE_ok he).1 a (by simp)
    have hl2 := (lsE_ok he).1 b (by simp)
    have hw := Lib.hid ((lsE_ok he).2 a (by simp))
    rw [he] at C1 ⊢
    rw [orL_ok]
    have C1 := Lib.hid C1
    have C2 : ∀ W, Below w.heap.size w W → W.cell? ⟨w.heap.size, 0, none⟩ = some (.slice A1 a.length c1) → W.cell? ⟨w.heap.size + 1, 0, none⟩ = some (.slice A2 b.length c2) → w.heap.size + 1 < W.heap.size →
        Calls Tryd.prog 79 #[.agg #[.slice none 0 0, .func (.func 86) #[] #[.pointer (some ⟨w.heap.size, 0, none⟩), .pointer (some ⟨w.heap.size + 1, 0, none⟩)]], .int .i64 (a.length : Int)] W (RetL W (offL a b) 0) := fun W hb d1 d2 hlt => by
      have := first_off ⟨w.heap.size, 0, none⟩ ⟨w.heap.size + 1, 0, none⟩ (fun k => wrap32 (nth a k + b.length)) (fun _ => 0) a.length W hl (fun k W' hk hB => by
        have hB' := below_step hb hB
        have hs := hB.size
        exact offc_any _ _ A1 A2 c1 c2 b.length a k W' hk hl2 (hw.out k hk) (by omega) (by omega) ((hB.cell (by show w.heap.size < _; omega)).trans d1) ((hB.cell (by show w.heap.size + 1 < _; omega)).trans d2) (h1.step hB') hl)
      rw [fe_none (fun _ _ => rfl), orL_ok] at this
      exact this
    have C2 := Lib.hid C2
    clear he
    go_enter Tryd.func44, Tryd.ntmps44
    go_wp2_with fail
    refine (C1.out _ _ (al3 _ _ _ _) ?_).mono ?_
    · exact Blk.at (by simp)
    rintro e w1 ⟨rfl, hB⟩
    have hB0 := below_step (al3 _ _ _ _) hB
    have b1 := bx1.below hB bx1.lt
    have b2 := bx2.below hB bx2.lt
    have d1 := b1.cell 0
    have d2 := b2.cell 0
    have hlt := b2.lt
    simp at d1 d2
    have D1 : ∀ o, (w1.alloc o).cell? ⟨w.heap.size, 0, none⟩ = some (.slice A1 a.length c1) := fun o => (b1.alloc o).cell 0
    clear bx1 bx2
    go_wp2_with fail
    refine (C2.out _ ?_ ?_ ?_ ?_).mono ?_
    · exact below_step hB0 (al1 _ _)
    · exact (b1.alloc _).cell 0
    · exact (b2.alloc _).cell 0
    · exact (b2.alloc _).lt
    rintro e w2 ⟨A', c', rfl, hcc, hsl, hB2⟩
    go_wp2
    go_ret2
    exact ⟨A', c', rfl, hcc, hsl, below_step (below_step hB0 (al1 _ _)) hB2⟩
  · have hd : (offE a b != 0) = true := by rw [bne_iff_ne]; exact he
    have C1 := Lib.hid C1
    have HE := Lib.hid he
    clear he bx1 bx2
    go_enter Tryd.func44, Tryd.ntmps44
    go_wp2_with fail
    refine (C1.out _ _ (al3 _ _ _ _) ?_).mono ?_
    · exact Blk.at (by simp)
    rintro e w1 ⟨rfl, hB⟩
    have hB0 := below_step (al3 _ _ _ _) hB
    go_wp2
    go_ret2
    exact retL_none HE.out hB0

def gatV (a p : List Int) (k : Nat) : Int := if plB (nth p k) a.length = true then nth a (nth p k).toNat else 0
def gatR (a p : List Int) (k : Nat) : Int := if plB (nth p k) a.length = true then 0 else 14
theorem gat_list {a p : List Int} (h : fe (gatR a p) p.length = 0) : mk (gatV a p) p.length = gatL a p := by
  refine mk_congr fun k hk => ?_
  have := fe_all h k hk
  unfold gatV gatR at *
  split at this
  · rename_i h; rw [if_pos h]
  · simp at this
theorem gat_err {a p : List Int} (h : lsE [a, p] = 0) : gatE a p = fe (gatR a p) p.length := by unfold gatE; rw [if_pos h]; rfl
theorem gat_or {a p : List Int} (h : lsE [a, p] = 0) : orL (fe (gatR a p) p.length) (mk (gatV a p) p.length) = orL (gatE a p) (gatL a p) := by
  rw [gat_err h]
  by_cases he : fe (gatR a p) p.length = 0
  · rw [gat_list he]
  · rw [orL_err _ he, orL_err _ he]
set_option maxRecDepth 100000 in
set_option maxHeartbeats 4000000 in
theorem gather_any (A1 A2 : Option Addr) (c1 c2 : Nat) (a p : List Int) (w : World) (h1 : Sl w A1 a) (h2 : Sl w A2 p) (hc1 : a.length ≤ c1) (hc2 : p.length ≤ c2) (k1 : Ok a) (k2 : Ok p) :
    Calls Tryd.prog 40 #[.slice A1 a.length c1, .slice A2 p.length c2] w (RetL w (orL (gatE a p) (gatL a p)) (gatE a p)) := by
  have C1 : ∀ W g, Below w.heap.size w W → Blk W g 22 #[.slice A1 a.length c1, .slice A2 p.length c2] → Calls Tryd.prog 74 #[.slice (some ⟨g, 0, none⟩) 2 2] W (RetV W (.int .i64 (lsE [a, p]))) :=
    fun W g hb hg => check2 g A1 A2 c1 c2 a p W hg (h1.step hb) (h2.step hb) hc1 hc2 k1 k2
  have bx1 := ((Blk.new w 22 #[.slice A1 a.length c1]).alloc (.cells #[.slice A2 p.length c2] 22)).alloc (.cells #[.slice A1 a.length c1, .slice A2 p.length c2] 22)
  have bx2 : Blk _ (w.heap.size + 1) _ _ := (Blk.at (t := 22) (cs := #[.slice A2 p.length c2]) (show (w.alloc (.cells #[.slice A1 a.length c1] 22)).heap.size = w.heap.size + 1 by simp)).alloc (.cells #[.slice A1 a.length c1, .slice A2 p.length c2] 22)
  by_cases he : lsE [a, p] = 0
  · have hl := (lsE_ok he).1 a (by simp)
    have hl2 := (lsE_ok he).1 p (by simp)
    rw [he] at C1
    have C1 := Lib.hid C1
    have C2 : ∀ W, Below w.heap.size w W → W.cell? ⟨w.heap.size, 0, none⟩ = some (.slice A1 a.length c1) → W.cell? ⟨w.heap.size + 1, 0, none⟩ = some (.slice A2 p.length c2) → w.heap.size + 1 < W.heap.size →
        Calls Tryd.prog 79 #[.agg #[.slice none 0 0, .func (.func 84) #[] #[.pointer (some ⟨w.heap.size + 1, 0, none⟩), .pointer (some ⟨w.heap.size, 0, none⟩)]], .int .i64 (p.length : Int)] W (RetL W (orL (gatE a p) (gatL a p)) (gatE a p)) := fun W hb d1 d2 hlt => by
      have := first_gather ⟨w.heap.size + 1, 0, none⟩ ⟨w.heap.size, 0, none⟩ (gatV a p) (gatR a p) p.length W hl2 (fun k W' hk hB => by
        have hB' := below_step hb hB
        exact gatherc_any _ _ A2 A1 c2 c1 p a k W' hk ((hB.cell (by show w.heap.size + 1 < _; omega)).trans d2) ((hB.cell (by show w.heap.size < _; omega)).trans d1) (h2.step hB') (h1.step hB') hl2 hl)
      rw [gat_or he, ← gat_err he] at this
      exact this
    obtain ⟨r, hr⟩ : ∃ r, gatE a p = r := ⟨_, rfl⟩
    obtain ⟨z, hz⟩ : ∃ z, orL r (gatL a p) = z := ⟨_, rfl⟩
    rw [hr] at C2 ⊢
    rw [hz] at C2 ⊢
    have C2 := Lib.hid C2
    clear he hr hz
    go_enter Tryd.func40, Tryd.ntmps40
    go_wp2_with fail
    refine (C1.out _ _ (al3 _ _ _ _) ?_).mono ?_
    · exact Blk.at (by simp)
    rintro e w1 ⟨rfl, hB⟩
    have hB0 := below_step (al3 _ _ _ _) hB
    have b1 := bx1.below hB bx1.lt
    have b2 := bx2.below hB bx2.lt
    have d1 := b1.cell 0
    have d2 := b2.cell 0
    have hlt := b2.lt
    simp at d1 d2
    have D1 : ∀ o, (w1.alloc o).cell? ⟨w.heap.size + 1, 0, none⟩ = some (.slice A2 p.length c2) := fun o => (b2.alloc o).cell 0
    clear bx1 bx2
    go_wp2_with fail
    refine (C2.out _ ?_ ?_ ?_ ?_).mono ?_
    · exact below_step hB0 (al1 _ _)
    · exact (b1.alloc _).cell 0
    · exact (b2.alloc _).cell 0
    · exact (b2.alloc _).lt
    rintro e w2 ⟨A', c', rfl, hcc, hsl, hB2⟩
    go_wp2
    go_ret2
    exact ⟨A', c', rfl, hcc, hsl, below_step (below_step hB0 (al1 _ _)) hB2⟩
  · have HG := Lib.hid (show gatE a p = lsE [a, p] by unfold gatE; rw [if_neg he])
    rw [HG.out]
    have hd : (lsE [a, p] != 0) = true := by rw [bne_iff_ne]; exact he
    have C1 := Lib.hid C1
    have HE := Lib.hid he
    clear he bx1 bx2
    go_enter Tryd.func40, Tryd.ntmps40
    go_wp2_with fail
    refine (C1.out _ _ (al3 _ _ _ _) ?_).mono ?_
    · exact Blk.at (by simp)
    rintro e w1 ⟨rfl, hB⟩
    have hB0 := below_step (al3 _ _ _ _) hB
    go_wp2
    go_ret2
    exact retL_none HE.out hB0
end Go.Proofs.YtecpanppnljkhaaDoor
