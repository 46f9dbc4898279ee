/- Blocks: the mathematics of segments, seg.Split, and the walk. -/
import Derived.Test.YtecpanppnljkhaaGreatDoorGa
import Derived.Test.YtecpanppnljkhaaGreatDoorSg
import Derived.Test.YtecpanppnljkhaaGreatDoorEg
import Derived.Test.YtecpanppnljkhaaGreatDoorEm
import Derived.Shelf.RegionOpen
import Derived.Test.YtecpanppnljkhaaGreatDoorEi
namespace Go.Proofs.YtecpanppnljkhaaGreatDoor
set_option linter.unusedVariables false
open Go.RowKit
theorem wrap32_add' (x y : Int) : wrap32 (wrap32 x + wrap32 y) = wrap32 (x + y) := by unfold wrap32; omega
theorem ofInt_wrap32' (x : Int) : BitVec.ofInt 32 (wrap32 x) = BitVec.ofInt 32 x := by rw [wrap32_bv, BitVec.ofInt_toInt]
theorem wrap32_mulL (x y : Int) : wrap32 (wrap32 x * y) = wrap32 (x * y) := by
  rw [wrap32_bv (wrap32 x * y), wrap32_bv (x * y), BitVec.ofInt_mul, BitVec.ofInt_mul, ofInt_wrap32']
theorem wrap32_mulR (x y : Int) : wrap32 (x * wrap32 y) = wrap32 (x * y) := by
  rw [wrap32_bv (x * wrap32 y), wrap32_bv (x * y), BitVec.ofInt_mul, BitVec.ofInt_mul, ofInt_wrap32']
theorem ofInt_toInt_w {a : Int} (ha : isW a) : (BitVec.ofInt 32 a).toInt = a := by rw [← wrap32_bv, wrap32_of a ha]
theorem aB_seven {op : Int} (h : aB op = true) : op = 0 ∨ op = 2 ∨ op = 7 ∨ op = 8 ∨ op = 9 ∨ op = 10 ∨ op = 11 := by simp [aB] at h; omega
theorem V_assoc {op a b c : Int} (h : aB op = true) (ha : isW a) (hb : isW b) (hc : isW c) : V op (V op a b) c = V op a (V op b c) := by
  rcases aB_seven h with rfl | rfl | rfl | rfl | rfl | rfl | rfl
  · simp only [V0]; rw [← wrap32_of c hc, wrap32_add', ← wrap32_of a ha, wrap32_add']; simp only [wrap32_of a ha, wrap32_of c hc]; rw [Int.add_assoc]
  · simp only [V2]; rw [wrap32_mulL, wrap32_mulR, Int.mul_assoc]
  · simp only [V7]; omega
  · simp only [V8]; omega
  · simp only [V9]; rw [bits_and_word a b ha hb, bits_and_word b c hb hc, bits_and_word _ c (bv_word _) hc, bits_and_word a _ ha (bv_word _), BitVec.ofInt_toInt, BitVec.ofInt_toInt, BitVec.and_assoc]
  · simp only [V10]; rw [bits_or_word a b ha hb, bits_or_word b c hb hc, bits_or_word _ c (bv_word _) hc, bits_or_word a _ ha (bv_word _), BitVec.ofInt_toInt, BitVec.ofInt_toInt, BitVec.or_assoc]
  · simp only [V11]; rw [bits_xor_word a b ha hb, bits_xor_word b c hb hc, bits_xor_word _ c (bv_word _) hc, bits_xor_word a _ ha (bv_word _), BitVec.ofInt_toInt, BitVec.ofInt_toInt, BitVec.xor_assoc]
theorem nt_isW (op : Int) : isW (nt op) := by unfold nt isW; repeat (split; omega); omega
theorem V_nt {op a : Int} (h : aB op = true) (ha : isW a) : V op a (nt op) = a ∧ V op (nt op) a = a := by
  rcases aB_seven h with rfl | rfl | rfl | rfl | rfl | rfl | rfl
  · simp only [V0, nt]; simp [wrap32_of a ha]
  · simp only [V2, nt]; simp [wrap32_of a ha]
  · simp only [V7, nt]; unfold isW at ha; simp; omega
  · simp only [V8, nt]; unfold isW at ha; simp; omega
  · have h1 : isW (-1) := by unfold isW; omega
    show V 9 a (-1) = a ∧ V 9 (-1) a = a
    rw [V9, V9, bits_and_word _ _ h1 ha, bits_and_word _ _ ha h1, show BitVec.ofInt 32 (-1) = BitVec.allOnes 32 from by decide, BitVec.allOnes_and, BitVec.and_allOnes]
    exact ⟨ofInt_toInt_w ha, ofInt_toInt_w ha⟩
  · have h1 : isW 0 := by unfold isW; omega
    show V 10 a 0 = a ∧ V 10 0 a = a
    rw [V10, V10, bits_or_word _ _ h1 ha, bits_or_word _ _ ha h1, show BitVec.ofInt 32 0 = 0#32 from by decide, BitVec.zero_or, BitVec.or_zero]
    exact ⟨ofInt_toInt_w ha, ofInt_toInt_w ha⟩
  · have h1 : isW 0 := by unfold isW; omega
    show V 11 a 0 = a ∧ V 11 0 a = a
    rw [V11, V11, bits_xor_word _ _ h1 ha, bits_xor_word _ _ ha h1, show BitVec.ofInt 32 0 = 0#32 from by decide, BitVec.zero_xor, BitVec.xor_zero]
    exact ⟨ofInt_toInt_w ha, ofInt_toInt_w ha⟩
/-- What joins words, associatively, with a word that changes none. -/
structure Mon (f : Int → Int → Int) (x : Int) : Prop where
  word : ∀ a b, isW a → isW b → isW (f a b)
  assoc : ∀ a b c, isW a → isW b → isW c → f (f a b) c = f a (f b c)
  right : ∀ a, isW a → f a x = a
  left : ∀ a, isW a → f x a = a
  one : isW x
/-- an operation that never traps -/
def Safe' (op : Int) : Prop := isOpb op = true ∧ op ≠ 3 ∧ op ≠ 4
theorem Safe'.trap {op : Int} (h : Safe' op) (b : Int) : trapsb op b = false := by
  rw [← Bool.not_eq_true, trapsb_iff]; have := h.2; omega
theorem doN_isW {op : Int} (h : Safe' op) (a b : Int) (ha : isW a) (hb : isW b) : isW (doN op a b) := by
  unfold doN; split
  · exact V_word op a b ha hb (h.trap b)
  · unfold isW; omega
theorem doE_ok {op : Int} (h : Safe' op) (a b : Int) (ha : isW a) (hb : isW b) : doE op a b = 0 := by
  unfold doE; rw [if_pos h.1, if_pos ⟨isWb_of a ha, isWb_of b hb⟩, h.trap b]; rfl
theorem aB_safe {op : Int} (h : aB op = true) : Safe' op := ⟨aB_op h, (by rintro rfl; cases h), (by rintro rfl; cases h)⟩
theorem doN_V {op a b : Int} (h : aB op = true) (ha : isW a) (hb : isW b) : doN op a b = V op a b := by
  unfold doN; rw [if_pos ⟨aB_op h, isWb_of a ha, isWb_of b hb, (aB_safe h).trap b⟩]
theorem mon_op {op : Int} (h : aB op = true) : Mon (doN op) (neN op) := by
  have hn : neN op = nt op := by simp [neN, h]
  have hw : ∀ a b, isW a → isW b → isW (doN op a b) := fun a b ha hb => doN_isW (aB_safe h) a b ha hb
  refine ⟨hw, fun a b c ha hb hc => ?_, fun a ha => ?_, fun a ha => ?_, by rw [hn]; exact nt_isW op⟩
  · rw [doN_V h (hw a b ha hb) hc, doN_V h ha (hw b c hb hc), doN_V h ha hb, doN_V h hb hc, V_assoc h ha hb hc]
  · rw [hn, doN_V h ha (nt_isW op), (V_nt h ha).1]
  · rw [hn, doN_V h (nt_isW op) ha, (V_nt h ha).2]
theorem neE_aB {op : Int} (h : neE op = 0) : aB op = true := by
  unfold neE at h
  split at h
  · split at h
    · assumption
    · cases h
  · cases h
theorem aB_neE {op : Int} (h : aB op = true) : neE op = 0 := by simp [neE, h, aB_op h]
/-- All of a list are words. -/
def Wds (l : List Int) : Prop := ∀ j, j < l.length → isW (nth l j)
theorem Wds.at {l : List Int} (h : Wds l) (j : Nat) : isW (nth l j) := by
  rcases Nat.lt_or_ge j l.length with hj | hj
  · exact h j hj
  · rw [show nth l j = 0 from by unfold nth; rw [List.getD_eq_getElem?_getD, List.getElem?_eq_none hj]; rfl]; unfold isW; omega
section
variable {f : Int → Int → Int} {x : Int}
theorem Mon.sc (M : Mon f x) {l : List Int} (h : Wds l) {a : Int} (ha : isW a) : ∀ k, isW (scN f a l k)
  | 0 => ha
  | k + 1 => M.word _ _ (M.sc h ha k) (h.at k)
/-- A word ahead of all can be joined at the end. -/
theorem Mon.sc_from (M : Mon f x) {l : List Int} (h : Wds l) {a : Int} (ha : isW a) : ∀ k, scN f a l k = f a (scN f x l k)
  | 0 => (M.right a ha).symm
  | k + 1 => by
    show f (scN f a l k) (nth l k) = f a (f (scN f x l k) (nth l k))
    rw [M.sc_from h ha k, M.assoc _ _ _ ha (M.sc h M.one k) (h.at k)]
theorem scN_app_le (f : Int → Int → Int) (x : Int) (a b : List Int) (k : Nat) (hk : k ≤ a.length) : scN f x (a ++ b) k = scN f x a k :=
  scN_congr fun i hi => nth_app_lt a b i (by omega)
theorem scN_app (f : Int → Int → Int) (x : Int) (a b : List Int) : ∀ k, scN f x (a ++ b) (a.length + k) = scN f (scN f x a a.length) b k
  | 0 => by rw [Nat.add_zero, scN_app_le f x a b _ (Nat.le_refl _)]; rfl
  | k + 1 => by
    show f (scN f x (a ++ b) (a.length + k)) (nth (a ++ b) (a.length + k)) = f (scN f (scN f x a a.length) b k) (nth b k)
    rw [scN_app f x a b k, nth_app_ge a b _ (by omega), Nat.add_sub_cancel_left]
/-- The fold of two lists, one behind the other. -/
theorem Mon.fold_app (M : Mon f x) {a b : List Int} (ha : Wds a) (hb : Wds b) : scN f x (a ++ b) (a ++ b).length = f (scN f x a a.length) (scN f x b b.length) := by
  rw [List.length_append, scN_app f x a b b.length, M.sc_from hb (M.sc ha M.one _)]
/-- Words that change nothing behind a list. -/
theorem Mon.pad (M : Mon f x) {l : List Int} (h : Wds l) (n : Nat) : ∀ k, k ≤ n → scN f x (l ++ List.replicate n x) (l.length + k) = scN f x l l.length
  | 0, _ => by rw [scN_app]; rfl
  | k + 1, hk => by
    rw [← Nat.add_assoc]
    show f (scN f x (l ++ List.replicate n x) (l.length + k)) (nth (l ++ List.replicate n x) (l.length + k)) = _
    rw [M.pad h n k (by omega), nth_app_ge _ _ _ (by omega), Nat.add_sub_cancel_left, show nth (List.replicate n x) k = x from by rw [nth_eq _ _ (by rw [List.length_replicate]; omega)]; simp]
    exact M.right _ (M.sc h M.one _)
end
end Go.Proofs.YtecpanppnljkhaaGreatDoor

namespace Go.Proofs.YtecpanppnljkhaaGreatDoor
set_option linter.unusedVariables false
open Go.RowKit
theorem psum_app_le (a b : List Int) (k : Nat) (h : k ≤ a.length) : psum (a ++ b) k = psum a k := by
  unfold psum; rw [List.take_append_of_le_length h]
theorem psum_app_all (a b : List Int) (k : Nat) : psum (a ++ b) (a.length + k) = a.sum + psum b k := by
  unfold psum; rw [List.take_append, List.take_of_length_le (by omega), Nat.add_sub_cancel_left, List.sum_append]
theorem ofs_app_le (a b : List Int) (k : Nat) (h : k ≤ a.length) : ofs (a ++ b) k = ofs a k := by unfold ofs; rw [psum_app_le a b k h]
theorem sg_app (l m lens : List Int) (x : Int) (h : Segs l lens) (i : Nat) (hi : i < lens.length) : sgL (l ++ m) (lens ++ [x]) i = sgL l lens i := by
  obtain ⟨_, h2, h3, _⟩ := h.step i hi
  unfold sgL
  rw [ofs_app_le _ _ _ (by omega), ofs_app_le _ _ _ (by omega), List.drop_append_of_le_length (by omega), List.take_append_of_le_length (by rw [List.length_drop]; omega)]
theorem kp_app (f : List Int → List Int) (l m lens : List Int) (x : Int) (h : Segs l lens) : ∀ i, i ≤ lens.length → kpK f (l ++ m) (lens ++ [x]) i = kpK f l lens i
  | 0, _ => rfl
  | i + 1, hi => by
    show kpK f (l ++ m) (lens ++ [x]) i ++ f (sgL (l ++ m) (lens ++ [x]) i) = _
    rw [kp_app f l m lens x h i (by omega), sg_app l m lens x h i (by omega)]; rfl
/-- One segment more, of another list. -/
theorem kp_snoc (f : List Int → List Int) (l m lens : List Int) (h : Segs l lens) : kpK f (l ++ m) (lens ++ [(m.length : Int)]) (lens ++ [(m.length : Int)]).length = kpK f l lens lens.length ++ f m := by
  rw [List.length_append, List.length_singleton]
  show kpK f (l ++ m) (lens ++ [(m.length : Int)]) lens.length ++ f (sgL (l ++ m) (lens ++ [(m.length : Int)]) lens.length) = _
  rw [kp_app f l m lens _ h _ (Nat.le_refl _)]
  have h0 : ofs (lens ++ [(m.length : Int)]) lens.length = l.length := by rw [ofs_app_le _ _ _ (Nat.le_refl _), h.ofs_all]
  have h1 : ofs (lens ++ [(m.length : Int)]) (lens.length + 1) = l.length + m.length := by
    unfold ofs
    rw [psum_app_all, h.sum]
    show ((l.length : Int) + ([(m.length : Int)].take 1).sum).toNat = _
    simp
    omega
  congr 2
  unfold sgL
  rw [h0, h1, List.drop_left, Nat.add_sub_cancel_left, List.take_length]
theorem segs_snoc {l lens : List Int} (m : List Int) (h : Segs l lens) (h1 : lens.length + 1 ≤ 1048576) (h2 : l.length + m.length ≤ 1048576) : Segs (l ++ m) (lens ++ [(m.length : Int)]) := by
  refine ⟨?_, by rw [List.length_append]; simpa using h1, by rw [List.length_append]; exact h2, by rw [List.sum_append, h.sum, List.length_append]; simp⟩
  have := h.pos
  unfold posB at *
  rw [List.all_append, this]
  simp
theorem segs_one (l : List Int) (h : l.length ≤ 1048576) : Segs l [(l.length : Int)] := ⟨by unfold posB; simp, by simp, h, by simp⟩
/-- A list as one segment. -/
theorem kp_one (f : List Int → List Int) (l : List Int) : kpK f l [(l.length : Int)] [(l.length : Int)].length = f l := by
  show [] ++ f (sgL l [(l.length : Int)] 0) = f l
  rw [List.nil_append]
  have h1 : ofs [(l.length : Int)] 1 = l.length := by unfold ofs psum; simp
  unfold sgL
  rw [ofs_zero, h1, List.drop_zero, Nat.sub_zero, List.take_length]
/-- A scan through is the scan, joined with the list. -/
theorem kp_thru (f : Int → Int → Int) (x : Int) {l lens : List Int} (h : Segs l lens) : ∀ i, i ≤ lens.length → kpK (upL' f x) l lens i = mk (fun k => f (nth (kpK (ahL f x) l lens i) k) (nth l k)) (ofs lens i)
  | 0, _ => by rw [ofs_zero]; rfl
  | i + 1, hi => by
    obtain ⟨_, h2, h3, _⟩ := h.step i (by omega)
    have hl := h.kp_len (f := ahL f x) (fun s => mk_length _ _) i (by omega)
    have hsl : (sgL l lens i).length = ofs lens (i + 1) - ofs lens i := by unfold sgL; rw [List.length_take, List.length_drop]; omega
    show kpK (upL' f x) l lens i ++ upL' f x (sgL l lens i) = _
    rw [kp_thru f x h i (by omega)]
    apply eq_of_nth
    · rw [List.length_append, mk_length, mk_length]; unfold upL'; rw [mk_length, hsl]; omega
    · intro k hk
      rw [List.length_append, mk_length] at hk
      unfold upL' at hk
      rw [mk_length, hsl] at hk
      have hA : nth (kpK (ahL f x) l lens (i + 1)) k = if k < ofs lens i then nth (kpK (ahL f x) l lens i) k else nth (ahL f x (sgL l lens i)) (k - ofs lens i) := by
        show nth (kpK (ahL f x) l lens i ++ ahL f x (sgL l lens i)) k = _
        split
        · rw [nth_app_lt _ _ _ (by omega)]
        · rw [nth_app_ge _ _ _ (by omega), hl]
      rw [nth_mk _ _ k (by omega), hA]
      by_cases h1 : k < ofs lens i
      · rw [nth_app_lt _ _ _ (by rw [mk_length]; exact h1), nth_mk _ _ _ h1, if_pos h1]
      · rw [nth_app_ge _ _ _ (by rw [mk_length]; omega), mk_length, if_neg h1]
        unfold upL' ahL
        rw [nth_mk _ _ _ (by omega), nth_mk _ _ _ (by omega)]
        show f (scN f x (sgL l lens i) (k - ofs lens i)) (nth (sgL l lens i) (k - ofs lens i)) = _
        rw [seg_nth l lens i _ (by omega), show ofs lens i + (k - ofs lens i) = k by omega]
section
variable {f : Int → Int → Int} {x : Int}
theorem sg_word {l : List Int} (h : Wds l) (lens : List Int) (i : Nat) : Wds (sgL l lens i) := fun j hj => by
  rw [seg_nth l lens i j hj]; exact h.at _
/-- What a segment adds. -/
theorem Mon.seg_at (M : Mon f x) {l lens : List Int} (h : Wds l) (hz : Segs l lens) (i : Nat) (hi : i < lens.length) : ∀ k, k ≤ (sgL l lens i).length → f (scN f x l (ofs lens i)) (scN f x (sgL l lens i) k) = scN f x l (ofs lens i + k)
  | 0, _ => M.right _ (M.sc h M.one _)
  | k + 1, hk => by
    show f (scN f x l (ofs lens i)) (f (scN f x (sgL l lens i) k) (nth (sgL l lens i) k)) = f (scN f x l (ofs lens i + k)) (nth l (ofs lens i + k))
    rw [← M.assoc _ _ _ (M.sc h M.one _) (M.sc (sg_word h lens i) M.one _) ((sg_word h lens i).at _), M.seg_at h hz i hi k (by omega), seg_nth l lens i k (by omega)]
theorem seg_len {l lens : List Int} (hz : Segs l lens) (i : Nat) (hi : i < lens.length) : (sgL l lens i).length = ofs lens (i + 1) - ofs lens i := by
  obtain ⟨_, h2, h3, _⟩ := hz.step i hi
  unfold sgL; rw [List.length_take, List.length_drop]; omega
/-- The scan of a word of a segment, from what stands ahead of the segment. -/
theorem Mon.seg_sc (M : Mon f x) {l lens : List Int} (h : Wds l) (hz : Segs l lens) (i : Nat) (hi : i < lens.length) : ∀ k, k ≤ (sgL l lens i).length → scN f (scN f x l (ofs lens i)) (sgL l lens i) k = scN f x l (ofs lens i + k) := fun k hk => by
  rw [M.sc_from (sg_word h lens i) (M.sc h M.one _), M.seg_at h hz i hi k hk]
theorem kp_wh_nth (f : Int → Int → Int) (x : Int) (l lens : List Int) (i : Nat) : ∀ m, i < m → nth (kpK (whL f x) l lens m) i = scN f x (sgL l lens i) (sgL l lens i).length := by
  intro m
  induction m with
  | zero => intro h; omega
  | succ m ih =>
    intro hm
    have hl := kp_len_one (f := whL f x) (fun _ => rfl) l lens m
    show nth (kpK (whL f x) l lens m ++ whL f x (sgL l lens m)) i = _
    rcases Nat.lt_or_ge i m with h1 | h1
    · rw [nth_app_lt _ _ _ (by omega), ih h1]
    · obtain rfl : i = m := by omega
      rw [nth_app_ge _ _ _ (by omega), hl, Nat.sub_self]; rfl
/-- The folds of some segments, folded. -/
theorem Mon.kp_fold (M : Mon f x) {l lens : List Int} (h : Wds l) (hz : Segs l lens) : ∀ i, i ≤ lens.length → scN f x (kpK (whL f x) l lens lens.length) i = scN f x l (ofs lens i)
  | 0, _ => by rw [ofs_zero]; rfl
  | i + 1, hi => by
    obtain ⟨_, h2, h3, _⟩ := hz.step i (by omega)
    have hsl := seg_len hz i (by omega)
    show f (scN f x (kpK (whL f x) l lens lens.length) i) (nth (kpK (whL f x) l lens lens.length) i) = _
    rw [M.kp_fold h hz i (by omega), kp_wh_nth f x l lens i _ (by omega), M.seg_at h hz i (by omega) _ (Nat.le_refl _), show ofs lens i + (sgL l lens i).length = ofs lens (i + 1) by omega]
theorem Mon.fold_word (M : Mon f x) {l lens : List Int} (h : Wds l) : Wds (kpK (whL f x) l lens lens.length) := fun j hj => by
  rw [kp_len_one (fun _ => rfl)] at hj
  rw [kp_wh_nth f x l lens j _ hj]
  exact M.sc (sg_word h lens j) M.one _
/-- The scan of blocks, each from what is ahead of it. -/
def blK (f : Int → Int → Int) (x : Int) (B l lens : List Int) : Nat → List Int
  | 0 => []
  | i + 1 => blK f x B l lens i ++ ahL f (nth B i) (sgL l lens i)
theorem Mon.blocks (M : Mon f x) {l lens : List Int} (h : Wds l) (hz : Segs l lens) : ∀ i, i ≤ lens.length → blK f x (ahL f x (kpK (whL f x) l lens lens.length)) l lens i = Go.Proofs.YtecpanppnljkhaaGreatDoor.mk (scN f x l) (ofs lens i)
  | 0, _ => by rw [ofs_zero]; rfl
  | i + 1, hi => by
    obtain ⟨_, h2, h3, _⟩ := hz.step i (by omega)
    have hsl := seg_len hz i (by omega)
    have hb : nth (ahL f x (kpK (whL f x) l lens lens.length)) i = scN f x l (ofs lens i) := by
      unfold ahL
      rw [nth_mk _ _ _ (by rw [kp_len_one (fun _ => rfl)]; omega), M.kp_fold h hz i (by omega)]
    show blK f x _ l lens i ++ ahL f _ (sgL l lens i) = _
    rw [M.blocks h hz i (by omega), hb]
    apply eq_of_nth
    · rw [List.length_append, mk_length, mk_length]; unfold ahL; rw [mk_length, hsl]; omega
    · intro k hk
      rw [List.length_append, mk_length] at hk
      unfold ahL at hk
      rw [mk_length, hsl] at hk
      rw [nth_mk _ _ k (by omega)]
      rcases Nat.lt_or_ge k (ofs lens i) with h1 | h1
      · rw [nth_app_lt _ _ _ (by rw [mk_length]; exact h1), nth_mk _ _ _ h1]
      · rw [nth_app_ge _ _ _ (by rw [mk_length]; omega), mk_length]
        unfold ahL
        rw [nth_mk _ _ _ (by omega), M.seg_sc h hz i (by omega) _ (by omega), show ofs lens i + (k - ofs lens i) = k by omega]
/-- The scan in blocks is the scan. -/
theorem Mon.blocks_all (M : Mon f x) {l lens : List Int} (h : Wds l) (hz : Segs l lens) : blK f x (ahL f x (kpK (whL f x) l lens lens.length)) l lens lens.length = ahL f x l := by
  rw [M.blocks h hz _ (Nat.le_refl _), hz.ofs_all]; rfl
/-- The scan of a place of a segment. -/
theorem kp_ah_nth (f : Int → Int → Int) (x : Int) {l lens : List Int} (hz : Segs l lens) (i k : Nat) (hi : i < lens.length) (hk : k < (sgL l lens i).length) : nth (kpK (ahL f x) l lens lens.length) (ofs lens i + k) = scN f x (sgL l lens i) k := by
  have key : ∀ m, i < m → m ≤ lens.length → nth (kpK (ahL f x) l lens m) (ofs lens i + k) = scN f x (sgL l lens i) k := by
    intro m
    induction m with
    | zero => intro h; omega
    | succ m ih =>
      intro hm hm2
      have hl := hz.kp_len (f := ahL f x) (fun s => mk_length _ _) m (by omega)
      have hsl := seg_len hz i hi
      show nth (kpK (ahL f x) l lens m ++ ahL f x (sgL l lens m)) (ofs lens i + k) = _
      rcases Nat.lt_or_ge i m with h1 | h1
      · have hmono : ofs lens (i + 1) ≤ ofs lens m := by
          have a1 := (hz.ofs (i + 1) (by omega)).1
          have a2 := (hz.ofs m (by omega)).1
          have a3 := psum_mono lens hz.pos (i + 1) m (by omega) (by omega)
          omega
        rw [nth_app_lt _ _ _ (by omega), ih h1 (by omega)]
      · obtain rfl : i = m := by omega
        rw [nth_app_ge _ _ _ (by omega), hl, Nat.add_sub_cancel_left]
        unfold ahL
        rw [nth_mk _ _ _ hk]
  exact key lens.length hi (Nat.le_refl _)
/-- The scan of a block is that of the joined blocks ahead of it, joined with the scan of the block alone. -/
theorem Mon.block_at (M : Mon f x) {l lens : List Int} (h : Wds l) (hz : Segs l lens) (i k : Nat) (hi : i < lens.length) (hk : k < (sgL l lens i).length) :
    f (nth (ahL f x (kpK (whL f x) l lens lens.length)) i) (nth (kpK (ahL f x) l lens lens.length) (ofs lens i + k)) = nth (ahL f x l) (ofs lens i + k) := by
  obtain ⟨_, h2, h3, _⟩ := hz.step i hi
  have hsl := seg_len hz i hi
  rw [kp_ah_nth f x hz i k hi hk]
  unfold ahL
  rw [nth_mk _ _ _ (by rw [kp_len_one (fun _ => rfl)]; omega), M.kp_fold h hz i (by omega), M.seg_at h hz i hi k (by omega), nth_mk _ _ _ (by omega)]
end
/-! flagged words -/
/-- Two flagged words joined. -/
def joF (f : Int → Int → Int) (a b : Bool × Int) : Bool × Int := if b.1 = true then b else (a.1, f a.2 b.2)
theorem Mon.joF_assoc {f : Int → Int → Int} {x : Int} (M : Mon f x) (a b c : Bool × Int) (ha : isW a.2) (hb : isW b.2) (hc : isW c.2) : joF f (joF f a b) c = joF f a (joF f b c) := by
  unfold joF
  by_cases h1 : c.1 = true
  · simp [h1]
  · by_cases h2 : b.1 = true
    · simp [h1, h2]
    · simp [h1, h2, M.assoc _ _ _ ha hb hc]
end Go.Proofs.YtecpanppnljkhaaGreatDoor

namespace Go.Proofs.YtecpanppnljkhaaGreatDoor
set_option linter.unusedVariables false
open Go.RowKit Go.Shelf
attribute [local go_sem] Oper.semAt_some
set_option maxRecDepth 100000
/-- How many pieces of at most m a segment of n has. -/
def spN (n m : Nat) : Nat := (n + m - 1) / m
/-- Its first j pieces. -/
def chK (n m j : Nat) : List Int := (List.range j).map fun i : Nat => min ((n : Int) - (i : Int) * (m : Int)) (m : Int)
def chL (n m : Nat) : List Int := chK n m (spN n m)
theorem chK_zero (n m : Nat) : chK n m 0 = [] := rfl
theorem chK_succ (n m j : Nat) : chK n m (j + 1) = chK n m j ++ [min ((n : Int) - (j : Int) * (m : Int)) (m : Int)] := by simp [chK, List.range_succ]
theorem spN_eq {n m j : Nat} (hm : 1 ≤ m) (h1 : n ≤ j * m) (h2 : j = 0 ∨ (j - 1) * m < n) : j = spN n m := by
  unfold spN
  rcases h2 with rfl | h2
  · have : n = 0 := by omega
    subst this
    rw [Nat.div_eq_of_lt (by omega)]
  · symm
    cases j with
    | zero => simp at h1; subst h1; simp at h2
    | succ j =>
      rw [Nat.add_sub_cancel] at h2
      rw [Nat.succ_mul] at h1
      refine Nat.div_eq_of_lt_le ?_ ?_
      · rw [Nat.succ_mul]; omega
      · rw [Nat.succ_mul, Nat.succ_mul]; omega
/-- The pieces of the segments. -/
def spE (zs : List Int) (most : Int) : Int := if ckE zs ≠ 0 then ckE zs else if 1 ≤ most ∧ most ≤ 1048576 then 0 else 2
def spP (zs : List Int) (m : Nat) : List Int := (List.range zs.length).flatMap fun k => chL (nth zs k).toNat m
def spO (zs : List Int) (m : Nat) : List Int := (List.range zs.length).map fun k => ((spN (nth zs k).toNat m : Nat) : Int)
theorem sgments_any (v : Value) (hv : ∃ A n c, v = .slice A n c) (w : World) : Calls Tryz.prog 80 #[v] w fun e w' => e = .returned (.func (.func 100) #[] #[.pointer (some ⟨w.heap.size, 0, none⟩)]) ∧ w' = w.alloc (.cells #[v] 22) := by
  obtain ⟨A, n, c, rfl⟩ := hv
  go_enter Tryz.func80, Tryz.ntmps80
  go_wp2
  go_ret
  exact ⟨rfl, rfl⟩
/-- What the iterator over segments hands out: the number, and the span. -/
def sgmV (zs : List Int) (x : Fin zs.length) : Array Value := #[.int .i64 ((x.val : Nat) : Int), .agg #[.int .i64 (psum zs x.val), .int .i64 (nth zs x.val)]]
/-- The lists that a check lets by. -/
structure Fine (zs : List Int) : Prop where
  len : zs.length ≤ 1048576
  pos : PosTo zs zs.length
  sum : zs.sum ≤ 1048576
theorem Fine.of_ck {zs : List Int} (h : ckE zs = 0) : Fine zs := by
  obtain ⟨h1, h2, h3, _⟩ := ck_ok h
  exact ⟨h1, posTo_of zs h2, h3⟩
theorem Fine.psum {zs : List Int} (h : Fine zs) (k : Nat) (hk : k ≤ zs.length) : 0 ≤ psum zs k ∧ psum zs k ≤ 1048576 := by
  have h1 := psum_nonneg zs k hk (h.pos.le hk)
  have h2 := psum_monoP zs zs.length (Nat.le_refl _) h.pos k zs.length hk (Nat.le_refl _)
  rw [psum_all] at h2
  have := h.sum
  exact ⟨h1, by omega⟩
theorem Fine.nth {zs : List Int} (h : Fine zs) (k : Nat) (hk : k < zs.length) : 0 ≤ nth zs k ∧ nth zs k ≤ 1048576 := by
  have h1 := h.pos k hk
  have h2 := h.psum k (by omega)
  have h3 := h.psum (k + 1) (by omega)
  rw [psum_succ zs k hk] at h3
  exact ⟨h1, by omega⟩
set_option maxRecDepth 100000 in
set_option maxHeartbeats 2000000 in
theorem sgms_in (F : Fence) (n : Nat) (h7 : F.fn 100) (hro : F.round = none) (hn : 1 ≤ n) (l Bs n₀ b off c : Nat) (zs : List Int) (hz : Fine zs) (hb : b < n₀) (J Jx : List (Fin zs.length) → World → Prop)
    (hY : ∀ pre x W, J pre W → pre.length < zs.length → YieldAt F (n - 1) Tryz.prog l (sgmV zs x) W fun e W' =>
      (e = .returned (.bool true) ∧ J (pre ++ [x]) W' ∧ Below n₀ W W') ∨ (e = .returned (.bool false) ∧ Jx (pre ++ [x]) W'))
    (W : World) (hBs : W.cell? ⟨Bs, 0, none⟩ = some (.slice (some ⟨b, off, none⟩) zs.length c)) (hc : ∀ j, j < zs.length → W.cell? ⟨b, off + j, none⟩ = some (.int .i64 (nth zs j))) (h0 : J [] W) :
    CallsIn F n Tryz.prog 100 #[.func (.yield l) #[] #[], .pointer (some ⟨Bs, 0, none⟩)] W fun e W' => (∃ v, e = .returned v) ∧
      ((∃ ys, ys = List.finRange zs.length ∧ J ys W') ∨ (∃ pre, (∃ k, k ≤ zs.length ∧ pre = fr zs.length k) ∧ Jx pre W')) := by
  have hlen := hz.len
  refine callsIn_of_wp Tryz.func100 rfl h7 ?_ hro
  simp only [Tryz.ntmps100, List.size_toArray, List.length_cons, List.length_nil, Nat.reduceAdd, Nat.reduceSub, Array.replicate_succ, Array.replicate_zero, List.push_toArray, List.append_toArray, List.nil_append, List.cons_append]
  gi_wp2
  gi_loopw [3, 8] (fun p i wr => ∃ k : Nat, k ≤ zs.length ∧ i = .int .i64 k ∧ p = .int .i64 (psum zs k) ∧ J (fr zs.length k) wr ∧ Below n₀ W wr)
    (fun _ i _ => zs.length - (intOf i).toNat)
  case atStart => exact ⟨0, Nat.zero_le _, rfl, by rw [psum_zero], h0, Below.refl _ _⟩
  case round =>
    obtain ⟨k, hk, rfl, rfl, hJs, hnx⟩ := hrel
    by_cases hlt : k < zs.length
    · have hcx' := (hnx.cell (p := ⟨b, off + k, none⟩) hb).trans (hc k hlt)
      obtain ⟨fn, tmps, assign, body, hy, hR⟩ := hY _ ⟨k, hlt⟩ wr hJs (by rw [fr_length _ _ hk]; exact hlt)
      have h1 := hz.psum k hk
      have h2 := hz.nth k hlt
      have hs := Lib.hid (psum_succ zs k hlt)
      have HF := Lib.hid (fr_succ zs.length k hlt)
      simp only [sgmV] at hy
      gi_wp2
      refine hR.mono ?_
      rintro e W3 (⟨rfl, hJ3, hk3⟩ | ⟨rfl, hJx3⟩)
      · gi_wp2
        go_roundw
        case rel => exact ⟨k + 1, by omega, by go_num, by rw [hs.out], by rw [HF.out]; exact hJ3, hnx.trans hk3⟩
        case measure => simp [intOf]; omega
      · gi_wp2
        refine bodyPost_ret (results_none rfl _ _ _) rfl ?_
        exact ⟨⟨_, rfl⟩, .inr ⟨_, ⟨k + 1, by omega, HF.out.symm⟩, hJx3⟩⟩
    · obtain rfl : k = zs.length := by omega
      gi_wp2
      go_end0
      exact ⟨⟨_, rfl⟩, .inl ⟨_, fr_all _, hJs⟩⟩
set_option maxRecDepth 100000 in
set_option maxHeartbeats 1000000 in
theorem sgms_nil_in (F : Fence) (n : Nat) (h7 : F.fn 100) (hro : F.round = none) (l Bs : Nat) (A : Option Addr) (c : Nat) (J : List (Fin (List.length ([] : List Int))) → World → Prop) (W : World) (hBs : W.cell? ⟨Bs, 0, none⟩ = some (.slice A 0 c)) (h0 : J [] W) :
    CallsIn F n Tryz.prog 100 #[.func (.yield l) #[] #[], .pointer (some ⟨Bs, 0, none⟩)] W fun e W' => (∃ v, e = .returned v) ∧ J [] W' := by
  refine callsIn_of_wp Tryz.func100 rfl h7 ?_ hro
  simp only [Tryz.ntmps100, List.size_toArray, List.length_cons, List.length_nil, Nat.reduceAdd, Nat.reduceSub, Array.replicate_succ, Array.replicate_zero, List.push_toArray, List.append_toArray, List.nil_append, List.cons_append]
  gi_wp2
  gi_loopw [8] (fun i wr => i = .int .i64 0 ∧ J [] wr) (fun _ _ => 0)
  case atStart => exact ⟨rfl, h0⟩
  case round =>
    obtain ⟨rfl, hJs⟩ := hrel
    gi_wp2
    go_end0
    exact ⟨⟨_, rfl⟩, hJs⟩
/-- segments(lens) hands back a value that 'SeqStopsK', at 'Kp := Below n₀'. -/
theorem sgms_stops (F : Fence) (n : Nat) (h7 : F.fn 100) (hro : F.round = none) (hn : 1 ≤ n) (Bs n₀ c : Nat) (A : Option Addr) (zs : List Int) (hz : Fine zs) (w wa : World) (hBs : Bs < w.heap.size) (hn₀ : n₀ = wa.heap.size) (hB : Below n₀ wa w) (hsz : n₀ ≤ w.heap.size)
    (hc : w.cell? ⟨Bs, 0, none⟩ = some (.slice A zs.length c)) (hS : Sl wa A zs) :
    SeqStopsK F n Tryz.prog 100 #[.pointer (some ⟨Bs, 0, none⟩)] (sgmV zs) (Below n₀) (fun ys => ys = List.finRange zs.length) (fun pre => ∃ k, k ≤ zs.length ∧ pre = fr zs.length k) zs.length w := fun l J Jx W hW _ _ hY h0 => by
  have hc' := (hW.cell (p := ⟨Bs, 0, none⟩) hBs).trans hc
  rcases Nat.eq_zero_or_pos zs.length with h | h
  · have e := List.eq_nil_of_length_eq_zero h
    subst e
    exact (sgms_nil_in F n h7 hro l Bs A c J W hc' h0).mono fun e W' ⟨he, hj⟩ => ⟨he, .inl ⟨_, rfl, hj⟩⟩
  · obtain ⟨b, off, rfl, hb, hcs⟩ := hS h
    refine sgms_in F n h7 hro hn l Bs n₀ b off c zs hz (by omega) J Jx hY W hc' (fun j hj => ?_) h0
    exact ((hW.mono hsz).cell (p := ⟨b, off + j, none⟩) (by show b < n₀; omega)).trans ((hB.cell (p := ⟨b, off + j, none⟩) (by show b < n₀; omega)).trans (hcs j hj))
theorem nth_app2 (a b : List Int) (k : Nat) (h : a.length = k) : nth (a ++ b) k = nth b 0 := by
  unfold nth
  rw [List.getD_eq_getElem?_getD, List.getElem?_append_right (by omega), h, Nat.sub_self, List.getD_eq_getElem?_getD]
theorem nth_drop0 (l : List Int) (k : Nat) : nth (l.drop k) 0 = nth l k := by
  unfold nth
  rw [List.getD_eq_getElem?_getD, List.getElem?_drop, Nat.add_zero, List.getD_eq_getElem?_getD]
/-- A fold that sets each place once. -/
theorem foldl_set (n : Nat) (f : Int → Fin n → Int) (init : List Int) (hi : init.length = n) (k : Nat) (hk : k ≤ n) :
    (fr n k).foldl (fun l x => l.set x.val (f (nth l x.val) x)) init = ((fr n k).map fun x => f (nth init x.val) x) ++ init.drop k := by
  induction k with
  | zero => simp [fr]
  | succ k ih =>
    have hk' : k < n := by omega
    rw [fr_succ n k hk', List.foldl_append, List.map_append, ih (by omega)]
    have hl : ((fr n k).map fun x => f (nth init x.val) x).length = k := by rw [List.length_map, fr_length n k (by omega)]
    have hnth : nth (((fr n k).map fun x => f (nth init x.val) x) ++ init.drop k) k = nth init k := by
      rw [nth_app2 _ _ k hl, nth_drop0]
    simp only [List.foldl_cons, List.foldl_nil, List.map_cons, List.map_nil, hnth]
    rw [List.set_append_right _ _ (by omega), hl, Nat.sub_self, List.drop_eq_getElem_cons (by omega : k < init.length), List.set_cons_zero, List.append_assoc]
    rfl
theorem foldl_set_all (n : Nat) (f : Int → Fin n → Int) (init : List Int) (hi : init.length = n) :
    (List.finRange n).foldl (fun l x => l.set x.val (f (nth l x.val) x)) init = (List.finRange n).map fun x => f (nth init x.val) x := by
  rw [← fr_all, foldl_set n f init hi n (Nat.le_refl _), List.drop_of_length_le (by omega), List.append_nil]
theorem foldl_set_length {α : Type} (f : List Int → α → Int) (g : α → Nat) (pre : List α) (init : List Int) : (pre.foldl (fun l x => l.set (g x) (f l x)) init).length = init.length := by
  induction pre generalizing init with
  | nil => rfl
  | cons x pre ih => rw [List.foldl_cons, ih, List.length_set]
theorem finRange_map0 (n : Nat) (f : Nat → Int) : ((List.finRange n).map fun x => f x.val) = (List.range n).map f := by
  apply List.ext_getElem
  · simp
  · intro i h1 h2; simp
theorem Full.aside {w w' : World} {g : Nat} {zs : List Int} {B : Nat} {row : Option Nat} (h : Full w g zs) (hg : w.grownBy w' row) (hr : Aside B w row) : Full w' g zs := Blk.aside h hg hr
/-- The same where the box lies below the base. -/
structure AppStep2 (W w1 : World) (base B : Nat) (v v' : Value) (zs : List Int) (x : Int) : Prop where
  box : Blk w1 B 22 #[v]
  box' : Blk (w1.setCell ⟨B, 0, none⟩ v') B 22 #[v']
  own : OwnI (w1.setCell ⟨B, 0, none⟩ v') base v' (zs ++ [x])
  others : KeepsOthers W (w1.setCell ⟨B, 0, none⟩ v')
  below : ∀ n, n ≤ base → n ≤ B → n ≤ W.heap.size → Below n W (w1.setCell ⟨B, 0, none⟩ v')
  keep : ∀ g t cs, Blk W g t cs → g ≠ B → some g ≠ v.ownBlock → Blk w1 g t cs ∧ Blk (w1.setCell ⟨B, 0, none⟩ v') g t cs
  full : ∀ g l, Full W g l → some g ≠ v.ownBlock → g ≠ B → Full (w1.setCell ⟨B, 0, none⟩ v') g l
theorem app_step2 {W w1 : World} {base B : Nat} {v v' : Value} {zs : List Int} {x : Int} {tmp : Obj} (hv : Blk W B 22 #[v]) (hrow : OwnI W base v zs) (hb : base ≤ W.heap.size)
    (hown' : w1.ownsRow base 3 1 v' (zs.length + 1) (zs.map (Value.int .i64) ++ [.int .i64 x])) (hgrow : (W.alloc tmp).grownBy w1 v.ownBlock) : AppStep2 W w1 base B v v' zs x := by
  have hv' : Boxed W B 22 v := hv
  have hlow := fun (n : Nat) (h : n ≤ base) => (OwnI.lower (n := n) (OwnI.snoc hown') h)
  have hap := fun (n : Nat) (h : n ≤ base) (h2 : n ≤ B) (h3 : n ≤ W.heap.size) => Boxed.appended hv' (by decide) (hrow.lower h) h3 h2 (hlow n h) hgrow
  obtain ⟨a1, a2, _, a4, _⟩ := hap 0 (by omega) (by omega) (by omega)
  have hnot : some B ≠ v'.ownBlock := Blk.not_row (B := B) (t := 22) a1 (by decide) (OwnI.snoc hown')
  refine ⟨a1, a2, ?_, a4, fun n h h2 h3 => (hap n h h2 h3).2.2.2.2, fun g t cs hg hne hnr => ?_, fun g l hg hnr hne => ?_⟩
  · exact (OwnI.snoc hown').kept (grownBy_setCell' w1 B v') (.inr hnot.symm)
  · have h1 : Blk w1 g t cs := (hg.alloc tmp).grown hgrow hnr
    exact ⟨h1, h1.far (p := ⟨B, 0, none⟩) hne v'⟩
  · exact ((hg.alloc tmp).grown hgrow hnr).far (p := ⟨B, 0, none⟩) hne v'
theorem nth_repl0 (n k : Nat) : nth (List.replicate n 0) k = 0 := by
  unfold nth
  rw [List.getD_eq_getElem?_getD, List.getElem?_replicate]
  split <;> rfl
theorem nth_set_self (l : List Int) (k : Nat) (v : Int) (h : k < l.length) : nth (l.set k v) k = v := by
  rw [nth_eq _ _ (by rw [List.length_set]; exact h), List.getElem_set_self]
theorem nth_set_other (l : List Int) (k j : Nat) (v : Int) (h : k ≠ j) : nth (l.set k v) j = nth l j := by
  unfold nth
  rw [List.getD_eq_getElem?_getD, List.getElem?_set_ne h, List.getD_eq_getElem?_getD]
theorem set_nth0 (l : List Int) (k : Nat) (h : k < l.length) : l.set k (nth l k) = l := by
  rw [nth_eq l k h]; exact List.set_getElem_self h
def Bd (n : Nat) (l : List Int) : Prop := ∀ j, 0 ≤ nth l j ∧ nth l j ≤ (n : Int) * 1048576
theorem bd_zero (n : Nat) : Bd 0 (List.replicate n 0) := fun j => by rw [nth_repl0]; omega
theorem bd_set {n : Nat} {l : List Int} (h : Bd n l) (k : Nat) (hk : k < l.length) (v : Int) (h0 : 0 ≤ v) (h1 : v ≤ 1048576) : Bd (n + 1) (l.set k (nth l k + v)) := fun j => by
  by_cases e : k = j
  · subst e
    rw [nth_set_self _ _ _ hk]
    have := h k
    omega
  · rw [nth_set_other _ _ _ _ e]
    have := h j
    omega
theorem retLL_nil {w W : World} {er : Int} (hB : Below w.heap.size w W) : RetLL w [] [] er (.returned (.tuple #[.slice none 0 0, .slice none 0 0, .int .i64 er])) W :=
  ⟨_, _, _, _, rfl, Nat.le_refl _, Nat.le_refl _, Sl.nil _ _, Sl.nil _ _, hB⟩
theorem finRange_fm {α : Type} (n : Nat) (f : Nat → List α) : ((List.finRange n).flatMap fun x => f x.val) = (List.range n).flatMap f := by
  have h : (List.finRange n).map (fun x => f x.val) = (List.range n).map f := by
    apply List.ext_getElem
    · simp
    · intro i h1 h2; simp
  simp only [List.flatMap_def, h]
theorem row_low0 {W : World} {base : Nat} {v : Value} {zs : List Int} (h : OwnI W base v zs) {g : Nat} (hg : g < base) : some g ≠ v.ownBlock := fun e => by
  have := (h.lt g e.symm).1
  omega
theorem OwnI.far {w : World} {base : Nat} {v : Value} {zs : List Int} (h : OwnI w base v zs) {g o : Nat} (hg : some g ≠ v.ownBlock) (x : Value) : OwnI (w.setCell ⟨g, o, none⟩ x) base v zs :=
  h.kept (row := some g) ⟨rfl, rfl, rfl, by simp, fun k _ hk => Below.heap_setCell w ⟨g, o, none⟩ x k (fun e => hk (by rw [e]))⟩ (.inr fun e => hg e.symm)
def spF (zs : List Int) (m : Nat) (pre : List (Fin zs.length)) : List Int := pre.flatMap fun x => chL (nth zs x.val).toNat m
theorem spF_snoc (zs : List Int) (m : Nat) (pre : List (Fin zs.length)) (x : Fin zs.length) : spF zs m (pre ++ [x]) = spF zs m pre ++ chL (nth zs x.val).toNat m := by simp [spF]
theorem spF_all (zs : List Int) (m : Nat) : spF zs m (List.finRange zs.length) = spP zs m := finRange_fm zs.length (fun k => chL (nth zs k).toNat m)
def soF (zs : List Int) (m : Nat) (pre : List (Fin zs.length)) : List Int := pre.foldl (fun l x => l.set x.val (nth l x.val + ((spN (nth zs x.val).toNat m : Nat) : Int))) (List.replicate zs.length 0)
theorem soF_length (zs : List Int) (m : Nat) (pre : List (Fin zs.length)) : (soF zs m pre).length = zs.length := by
  unfold soF; rw [foldl_set_length (fun l (x : Fin zs.length) => nth l x.val + ((spN (nth zs x.val).toNat m : Nat) : Int)) (fun x => x.val), List.length_replicate]
theorem soF_snoc (zs : List Int) (m : Nat) (pre : List (Fin zs.length)) (x : Fin zs.length) : soF zs m (pre ++ [x]) = (soF zs m pre).set x.val (nth (soF zs m pre) x.val + ((spN (nth zs x.val).toNat m : Nat) : Int)) := by unfold soF; rw [List.foldl_append]; rfl
theorem soF_all (zs : List Int) (m : Nat) : soF zs m (List.finRange zs.length) = spO zs m := by
  unfold soF
  rw [foldl_set_all zs.length (fun a x => a + ((spN (nth zs x.val).toNat m : Nat) : Int)) _ (by simp)]
  simp only [nth_repl0, Int.zero_add]
  rw [finRange_map0 zs.length (fun k => ((spN (nth zs k).toNat m : Nat) : Int))]; rfl
set_option maxRecDepth 100000 in
set_option maxHeartbeats 2000000 in
theorem split_any (A : Option Addr) (c : Nat) (zs : List Int) (most : Int) (w : World) (h : Sl w A zs) (hl : zs.length ≤ 9223372036854775807) :
    Calls Tryz.prog 48 #[.slice A zs.length c, .int .i64 most] w (RetLL w (orL (spE zs most) (spP zs most.toNat)) (orL (spE zs most) (spO zs most.toNat)) (spE zs most)) := by
  obtain ⟨i0, hi, hz0, hz1, hz2⟩ := info_parts int_info
  refine (callsIn_wide (n := 8)).1 ?_
  refine callsIn_of_wp_marks Tryz.func48 rfl trivial ?_ rfl
  simp only [Tryz.ntmps48, List.size_toArray, List.length_cons, List.length_nil, Nat.reduceAdd, Nat.reduceSub, Array.replicate_succ, Array.replicate_zero, List.push_toArray, List.append_toArray, List.nil_append, List.cons_append]
  obtain ⟨w0, hw0⟩ : ∃ w0, ((w.alloc (.cells #[.int .i64 most] 3)).alloc (.cells #[.slice none 0 0] 22)).alloc (.cells #[.slice none 0 0] 22) = w0 := ⟨_, rfl⟩
  have b1 := ((Blk.new w 3 #[.int .i64 most]).alloc (.cells #[.slice none 0 0] 22)).alloc (.cells #[.slice none 0 0] 22)
  have b2 := (Blk.new (w.alloc (.cells #[.int .i64 most] 3)) 22 #[.slice none 0 0]).alloc (.cells #[.slice none 0 0] 22)
  have b3 := Blk.new ((w.alloc (.cells #[.int .i64 most] 3)).alloc (.cells #[.slice none 0 0] 22)) 22 #[.slice none 0 0]
  simp only [World.size_alloc] at b2 b3
  have hb0 : Below w.heap.size w (((w.alloc (.cells #[.int .i64 most] 3)).alloc (.cells #[.slice none 0 0] 22)).alloc (.cells #[.slice none 0 0] 22)) := (((Below.refl _ _).alloc (Nat.le_refl _) _).alloc (by simp) _).alloc (by simp; omega) _
  have hsz0 : w.heap.size + 3 ≤ (((w.alloc (.cells #[.int .i64 most] 3)).alloc (.cells #[.slice none 0 0] 22)).alloc (.cells #[.slice none 0 0] 22)).heap.size := by simp
  rw [hw0] at b1 b2 b3 hb0 hsz0
  have C1 := sgcheck_any A c zs w0 (h.step hb0) hl
  by_cases he : ckE zs = 0
  · have hF := Fine.of_ck he
    have hlen := hF.len
    rw [he] at C1
    by_cases hb : 1 ≤ most ∧ most ≤ 1048576
    · have HE := Lib.hid (show spE zs most = 0 by simp [spE, he, hb])
      obtain ⟨m, rfl⟩ : ∃ m : Nat, most = (m : Int) := ⟨most.toNat, by omega⟩
      have hm1 : 1 ≤ m := by omega
      have hm2 : m ≤ 1048576 := by omega
      have hmk := fun W => run_make_row (P := Tryz.prog) 22 3 i0 (.int .i64 0) Tryz.underlying22 hi hz0 hz1 rfl .i64 .i64 zs.length (by rw [hz2]; omega) (by omega) W
      have hd1 : decide ((m : Int) < 1) = false := by simp; omega
      have hd2 : decide (1048576 < (m : Int)) = false := by simp; omega
      clear he
      gi_wp2_with fail
      clear hw0
      refine ⟨trivial, ?_⟩
      refine (callsIn_wide.2 C1).mono ?_
      rintro e w1 ⟨rfl, hB1⟩
      have hs1 := hB1.size
      have hB1' := hb0.trans (hB1.mono (by omega))
      have d1 := b1.below hB1 b1.lt
      have d2 := b2.below hB1 b2.lt
      have d3 := b3.below hB1 b3.lt
      have c1 := d1.cell 0
      have c3 := d3.cell 0
      have f3 := d3.frozen 0
      have l3 := d3.lt
      simp at c1 c3
      gi_wp2_with (refine ⟨trivial, ?_⟩; gi_at_call 80; refine (callsIn_wide.2 (sgments_any _ ⟨_, _, _, rfl⟩ _)).mono ?_; rintro e w' ⟨rfl, rfl⟩)
      have hsS : (w1.setCell ⟨w.heap.size + 1 + 1, 0, none⟩ (.slice (some ⟨w1.heap.size, 0, none⟩) zs.length zs.length)).heap.size = w1.heap.size := by simp
      have e1 := ((d1.far (p := ⟨w.heap.size + 1 + 1, 0, none⟩) (by simp; omega) (.slice (some ⟨w1.heap.size, 0, none⟩) zs.length zs.length)).alloc (.cells (madeCells #[.int .i64 0] zs.length) 3)).alloc (.cells #[.slice A zs.length c] 22)
      have e2 := ((d2.far (p := ⟨w.heap.size + 1 + 1, 0, none⟩) (by simp) (.slice (some ⟨w1.heap.size, 0, none⟩) zs.length zs.length)).alloc (.cells (madeCells #[.int .i64 0] zs.length) 3)).alloc (.cells #[.slice A zs.length c] 22)
      have e3 := ((d3.set_ 0 (.slice (some ⟨w1.heap.size, 0, none⟩) zs.length zs.length)).alloc (.cells (madeCells #[.int .i64 0] zs.length) 3)).alloc (.cells #[.slice A zs.length c] 22)
      have fS := (Full.made (w1.setCell ⟨w.heap.size + 1 + 1, 0, none⟩ (.slice (some ⟨w1.heap.size, 0, none⟩) zs.length zs.length)) zs.length (by unfold maxLen; omega)).alloc (.cells #[.slice A zs.length c] 22)
      have bA := Blk.new ((w1.setCell ⟨w.heap.size + 1 + 1, 0, none⟩ (.slice (some ⟨w1.heap.size, 0, none⟩) zs.length zs.length)).alloc (.cells (madeCells #[.int .i64 0] zs.length) 3)) 22 #[.slice A zs.length c]
      simp only [World.size_alloc, hsS] at fS bA
      have hB0 : Below w.heap.size w (((w1.setCell ⟨w.heap.size + 1 + 1, 0, none⟩ (.slice (some ⟨w1.heap.size, 0, none⟩) zs.length zs.length)).alloc (.cells (madeCells #[.int .i64 0] zs.length) 3)).alloc (.cells #[.slice A zs.length c] 22)) := ((hB1'.setCell (p := ⟨w.heap.size + 1 + 1, 0, none⟩) (by simp; omega) _).alloc (by simp; omega) _).alloc (by simp; omega) _
      have hsz : w1.heap.size + 2 ≤ (((w1.setCell ⟨w.heap.size + 1 + 1, 0, none⟩ (.slice (some ⟨w1.heap.size, 0, none⟩) zs.length zs.length)).alloc (.cells (madeCells #[.int .i64 0] zs.length) 3)).alloc (.cells #[.slice A zs.length c] 22)).heap.size := by simp
      obtain ⟨W0, hW0⟩ : ∃ W0, ((w1.setCell ⟨w.heap.size + 1 + 1, 0, none⟩ (.slice (some ⟨w1.heap.size, 0, none⟩) zs.length zs.length)).alloc (.cells (madeCells #[.int .i64 0] zs.length) 3)).alloc (.cells #[.slice A zs.length c] 22) = W0 := ⟨_, rfl⟩
      rw [hW0] at e1 e2 e3 fS bA hB0 hsz ⊢
      clear hW0 hmk C1 hsS d1 d2 d3 c1 c3 f3
      have hgs : w.heap.size + 3 ≤ w1.heap.size := by omega
      refine wpIn_rangeFunc_ownH rfl (by omega) (gf := 100) (lb := #[.pointer (some ⟨w1.heap.size + 1, 0, none⟩)]) rfl trivial (enters_of Tryz.func100 (by kernel_rfl) rfl)
        (sgms_stops Fence.wide (8 - 1) trivial rfl (by omega) (w1.heap.size + 1) w.heap.size c A zs hF W0 w (by omega) rfl hB0 (by omega) (bA.cell 0) h) belowK_t (belowK_b (by omega)) (Below.refl _ _) (fun _ => rfl)
        (fun pre W => Blk W w.heap.size 3 #[.int .i64 (m : Int)] ∧ (∃ v, Blk W (w.heap.size + 1) 22 #[v] ∧ OwnI W (w1.heap.size + 1) v (spF zs m pre)) ∧ Blk W (w.heap.size + 1 + 1) 22 #[.slice (some ⟨w1.heap.size, 0, none⟩) zs.length zs.length] ∧ Full W w1.heap.size (soF zs m pre) ∧ (Bd pre.length (soF zs m pre) ∧ (spF zs m pre).length ≤ pre.length * 1048576) ∧ Below w.heap.size w W)
        (fun _ _ _ => False)
        (fun _ X Y row hs hg hr => by
          obtain ⟨k1, ⟨v, k2, k3⟩, k4, k5, k6, k7⟩ := hs
          exact ⟨k1.aside hg hr, ⟨v, k2.aside hg hr, k3.aside hg hr⟩, k4.aside hg hr, k5.aside hg hr, k6, below_aside k7 (Nat.le_refl _) (by omega) hg hr⟩)
        (fun _ _ _ _ _ hs _ _ => hs)
        ⟨e1, ⟨_, e2, OwnI.nil _ _⟩, e3, fS, ⟨bd_zero _, by simp [spF]⟩, hB0⟩
        (fun x a' W => ∃ Bx, w1.heap.size < Bx ∧ Blk W Bx 104 #[.int .i64 (psum zs x.val), .int .i64 (nth zs x.val)] ∧ a' = ⟨#[Value.slice A zs.length c, Value.int IntKind.i64 (m : Int), undef, Value.pointer (some { block := w.heap.size, off := 0 }), Value.pointer (some { block := w.heap.size + 1, off := 0 }), Value.pointer (some { block := w.heap.size + 1 + 1, off := 0 }), Value.int IntKind.i64 0, Value.int IntKind.i64 (ckN zs), Value.int IntKind.i64 0, .int .i64 x.val, .pointer (some ⟨Bx, 0, none⟩), undef, Value.tuple #[Value.int IntKind.i64 (ckN zs), Value.int IntKind.i64 0], Value.slice A zs.length c, Value.tuple #[Value.int IntKind.i64 (ckN zs), Value.int IntKind.i64 0], Value.int IntKind.i64 (ckN zs), Value.int IntKind.i64 0, Value.int IntKind.i64 0, Value.bool false, undef, Value.int IntKind.i64 (m : Int), Value.bool false, Value.bool false, Value.int IntKind.i64 (m : Int), Value.bool false, Value.bool false, Value.slice A zs.length c, Value.int IntKind.i64 ↑zs.length, Value.slice (some { block := w1.heap.size, off := 0 }) zs.length zs.length, Value.slice A zs.length c, Value.func (Fn.func 100) #[] #[Value.pointer (some { block := w1.heap.size + 1, off := 0 })], .int .i64 x.val, .agg #[.int .i64 (psum zs x.val), .int .i64 (nth zs x.val)], undef, undef, undef, undef, undef, undef, undef, undef, undef, undef, undef, undef, undef, undef, undef, undef, undef, undef, undef, undef, undef, undef, undef, undef, undef, undef], []⟩)
        (fun x a' _ X Y row hs hg hr => by obtain ⟨Bx, h1, h2, h3⟩ := hs; exact ⟨Bx, h1, h2.aside hg hr, h3⟩)
        ?assign ?body ?done ?stop
      case assign =>
        rintro l pre x W K ⟨i1, ⟨v, i2, i3⟩, i4, i5, i6, i7⟩ hK
        have hlt := i5.lt
        have hl7 := i7.size
        simp only [sgmV]
        gi_wp2
        exact hK _ _ ((KeepsOthers.alloc _ _).from _) ((Below.refl _ W).alloc i7.size _) ⟨i1.alloc _, ⟨v, i2.alloc _, i3.alloc _⟩, i4.alloc _, i5.alloc _, i6, i7.alloc i7.size _⟩ ⟨W.heap.size, hlt, Blk.new W 104 _, rfl⟩
      case body =>
        rintro l pre x a' W hl ⟨r, hr⟩ ⟨i1, ⟨v, i2, i3⟩, i4, i5, ⟨i6, i8⟩, i7⟩ ⟨Bx, hBx, bX, rfl⟩ hlt
        have hx := x.isLt
        obtain ⟨n, hn⟩ : ∃ n : Nat, nth zs x.val = (n : Int) := ⟨(nth zs x.val).toNat, by have := hF.nth x.val hx; omega⟩
        have hn2 : n ≤ 1048576 := by have := (hF.nth x.val hx).2; omega
        have HP := Lib.hid (show spF zs m (pre ++ [x]) = spF zs m pre ++ chL n m by rw [spF_snoc, hn]; rfl)
        have HO := Lib.hid (show soF zs m (pre ++ [x]) = (soF zs m pre).set x.val (nth (soF zs m pre) x.val + ((spN n m : Nat) : Int)) by rw [soF_snoc, hn]; rfl)
        rw [hn] at bX
        simp only [hn]
        clear hn
        have hPL : (spF zs m pre).length ≤ 1099511627776 := by omega
        have hLl := soF_length zs m pre
        obtain ⟨P0, HP0⟩ : ∃ P0, Hid (P0 = spF zs m pre) := ⟨_, Lib.hid rfl⟩
        obtain ⟨L0, HL0⟩ : ∃ L0, Hid (L0 = soF zs m pre) := ⟨_, Lib.hid rfl⟩
        rw [← HP0.out] at i3 hPL i8 HP
        rw [← HL0.out] at i5 i6 hLl HO
        have hyb := i6 x.val
        have c2 := bX.cell 1
        simp at c2
        gi_wp2
        gi_loopw [11] (fun y wr => ∃ (j : Nat) (L : Int) (Z : List Int) (v : Value), y = .int .i64 L ∧ Hid (L = (n : Int) - (j : Int) * (m : Int)) ∧ -1048576 ≤ L ∧ L ≤ (n : Int) ∧ (j : Int) + L ≤ (n : Int) ∧ Hid (j = 0 ∨ (j - 1) * m < n) ∧ j ≤ n ∧ Hid (Z = P0 ++ chK n m j) ∧ Z.length ≤ P0.length + j ∧ Blk wr w.heap.size 3 #[.int .i64 (m : Int)] ∧ Blk wr (w.heap.size + 1) 22 #[v] ∧ OwnI wr (w1.heap.size + 1) v Z ∧ Blk wr (w.heap.size + 1 + 1) 22 #[.slice (some ⟨w1.heap.size, 0, none⟩) zs.length zs.length] ∧ Full wr w1.heap.size (L0.set x.val (nth L0 x.val + (j : Int))) ∧ KeepsFrom W0.heap.size W wr ∧ Below w.heap.size W wr) (fun y _ => (intOf y).toNat)
        case atStart => exact ⟨0, n, P0, v, rfl, Lib.hid (by simp), by omega, by omega, by omega, Lib.hid (.inl rfl), by omega, Lib.hid (by simp [chK_zero]), by omega, i1, i2, i3, i4, by rw [show nth L0 x.val + ((0 : Nat) : Int) = nth L0 x.val by simp, set_nth0 L0 x.val (by omega)]; exact i5, KeepsFrom.refl _ _, Below.refl _ _⟩
        case round =>
          obtain ⟨j, L, Z, v, rfl, HL, hL1, hL2, hL3, HJ, hjn, HZ, hZ, j1, j2, j3, j4, j5, j6, j7⟩ := hrel
          by_cases hpos : 0 < L
          · have HJ' : Hid (j + 1 = 0 ∨ (j + 1 - 1) * m < n) := Lib.hid (.inr (by
              have h1 := HL.out
              rw [Nat.add_sub_cancel]
              have h2 : ((j * m : Nat) : Int) = (j : Int) * (m : Int) := by simp
              omega))
            have HZ' : Hid (Z ++ [min L (m : Int)] = P0 ++ chK n m (j + 1)) := Lib.hid (by rw [HZ.out, chK_succ, ← HL.out, List.append_assoc])
            have HL' : Hid (L - (m : Int) = (n : Int) - ((j + 1 : Nat) : Int) * (m : Int)) := Lib.hid (by
              rw [HL.out, Int.natCast_add, Int.add_mul]; simp; omega)
            have hl5 := j5.lt
            have cO := j2.cell 0
            have cM0 := j1.cell 0
            simp at cO cM0
            obtain ⟨y, HY⟩ : ∃ y, Hid (y = nth L0 x.val + (j : Int)) := ⟨_, Lib.hid rfl⟩
            have hyb2 : 0 ≤ y ∧ y ≤ 2000000000000 := by have := HY.out; omega
            rw [← HY.out] at j5
            have hx1 : (0 : Int) ≤ (x.val : Int) := by omega
            have hx2 : (x.val : Int) < (zs.length : Int) := by omega
            have hr1 := row_low0 j3 (g := w.heap.size) (by omega)
            have hr2 := row_low0 j3 (g := w.heap.size + 1 + 1) (by omega)
            have hr3 := row_low0 j3 (g := w1.heap.size) (by omega)
            by_cases hmin : L ≤ (m : Int)
            · rw [Int.min_eq_left hmin] at HZ'; have hmn := Int.min_eq_left hmin
              gi_wp2_with (gi_at_builtin; refine wpListIn_append_own _ rfl _ _ 22 rfl (w1.heap.size + 1) 3 i0 (.int .i64 0) 1 8 Tryz.underlying22 hi hz0 hz1 hz2 rfl (by decide) _ _ _ rfl (j3.alloc _) ⟨wr.heap.size, 0, none⟩ 1 1 [.int .i64 L] rfl rfl (cell_one_new _ _ _) (by simp [Value.oneCell']) (by unfold maxLen; omega) (by omega) (by simp; omega) ?_; intro v' w3 hown' hgrow _; obtain ⟨g', cap', rfl⟩ := ownsRow_succ hown'; have hst := app_step2 j2 j3 (by omega) hown' hgrow; have cB1 := hst.box.cell 0; have fB1 := hst.box.frozen 0; have hF5 := (hst.full _ _ j5 hr3 (by omega)); have cV := (hst.keep _ _ _ j4 (by omega) hr2).2.cell 0; have cX := hF5.cell x.val (by rw [List.length_set]; omega); have fX := hF5.frozen x.val; have hF6 := hF5.set_ x.val (y + 1); have cM := ((hst.keep _ _ _ j1 (by omega) hr1).2.far (p := ⟨w1.heap.size, x.val, none⟩) (by simp; omega) (.int .i64 (y + 1))).cell 0; simp at cB1 cV cM; rw [nth_set_self _ _ _ (by omega)] at cX; rw [List.set_set] at hF6)
              go_roundw
              case rel =>
                exact ⟨j + 1, L - (m : Int), Z ++ [L], _, rfl, HL', by omega, by omega, by omega, HJ', by omega, HZ', by rw [List.length_append]; simp only [List.length_cons, List.length_nil]; omega,
                  (hst.keep _ _ _ j1 (by omega) hr1).2.far (p := ⟨w1.heap.size, x.val, none⟩) (by simp; omega) _, hst.box'.far (p := ⟨w1.heap.size, x.val, none⟩) (by simp; omega) _, hst.own.far (row_low0 hst.own (by omega)) _, (hst.keep _ _ _ j4 (by omega) hr2).2.far (p := ⟨w1.heap.size, x.val, none⟩) (by simp; omega) _,
                  by rw [show nth L0 x.val + ((j + 1 : Nat) : Int) = y + 1 by have := HY.out; omega]; exact hF6, j6.trans ((hst.others.trans (KeepsOthers.setCell _ _ _)).from _), j7.trans ((hst.below _ (by omega) (by omega) (by omega)).setCell (p := ⟨w1.heap.size, x.val, none⟩) (by simp; omega) _)⟩
              case measure => simp [intOf]; omega
            · have hmin' : (m : Int) ≤ L := by omega
              rw [Int.min_eq_right hmin'] at HZ'; have hmn := Int.min_eq_right hmin'
              gi_wp2_with (gi_at_builtin; refine wpListIn_append_own _ rfl _ _ 22 rfl (w1.heap.size + 1) 3 i0 (.int .i64 0) 1 8 Tryz.underlying22 hi hz0 hz1 hz2 rfl (by decide) _ _ _ rfl (j3.alloc _) ⟨wr.heap.size, 0, none⟩ 1 1 [.int .i64 (m : Int)] rfl rfl (cell_one_new _ _ _) (by simp [Value.oneCell']) (by unfold maxLen; omega) (by omega) (by simp; omega) ?_; intro v' w3 hown' hgrow _; obtain ⟨g', cap', rfl⟩ := ownsRow_succ hown'; have hst := app_step2 j2 j3 (by omega) hown' hgrow; have cB1 := hst.box.cell 0; have fB1 := hst.box.frozen 0; have hF5 := (hst.full _ _ j5 hr3 (by omega)); have cV := (hst.keep _ _ _ j4 (by omega) hr2).2.cell 0; have cX := hF5.cell x.val (by rw [List.length_set]; omega); have fX := hF5.frozen x.val; have hF6 := hF5.set_ x.val (y + 1); have cM := ((hst.keep _ _ _ j1 (by omega) hr1).2.far (p := ⟨w1.heap.size, x.val, none⟩) (by simp; omega) (.int .i64 (y + 1))).cell 0; simp at cB1 cV cM; rw [nth_set_self _ _ _ (by omega)] at cX; rw [List.set_set] at hF6)
              go_roundw
              case rel =>
                exact ⟨j + 1, L - (m : Int), Z ++ [(m : Int)], _, rfl, HL', by omega, by omega, by omega, HJ', by omega, HZ', by rw [List.length_append]; simp only [List.length_cons, List.length_nil]; omega,
                  (hst.keep _ _ _ j1 (by omega) hr1).2.far (p := ⟨w1.heap.size, x.val, none⟩) (by simp; omega) _, hst.box'.far (p := ⟨w1.heap.size, x.val, none⟩) (by simp; omega) _, hst.own.far (row_low0 hst.own (by omega)) _, (hst.keep _ _ _ j4 (by omega) hr2).2.far (p := ⟨w1.heap.size, x.val, none⟩) (by simp; omega) _,
                  by rw [show nth L0 x.val + ((j + 1 : Nat) : Int) = y + 1 by have := HY.out; omega]; exact hF6, j6.trans ((hst.others.trans (KeepsOthers.setCell _ _ _)).from _), j7.trans ((hst.below _ (by omega) (by omega) (by omega)).setCell (p := ⟨w1.heap.size, x.val, none⟩) (by simp; omega) _)⟩
              case measure => simp [intOf]; omega
          · have HJN : Hid (j = spN n m) := Lib.hid (spN_eq hm1 (by
              have h1 := HL.out
              have h2 : ((j * m : Nat) : Int) = (j : Int) * (m : Int) := by simp
              omega) HJ.out)
            have HZ' : Hid (spF zs m (pre ++ [x]) = Z) := Lib.hid (by rw [HP.out, HZ.out, HJN.out]; rfl)
            have HO' : Hid (soF zs m (pre ++ [x]) = L0.set x.val (nth L0 x.val + (j : Int))) := Lib.hid (by rw [HO.out, ← HJN.out])
            have HB := Lib.hid (bd_set i6 x.val (by omega) (j : Int) (by omega) (by omega))
            gi_wp2
            exact ⟨j6, j7, j1, ⟨v, j2, by rw [HZ'.out]; exact j3⟩, j4, by rw [HO'.out]; exact j5, ⟨by rw [HO'.out, List.length_append]; exact HB.out, by rw [HZ'.out, List.length_append]; simp only [List.length_cons, List.length_nil]; omega⟩, i7.trans j7⟩
      case done =>
        rintro D ys' W hD rfl ⟨i1, ⟨v, i2, i3⟩, i4, i5, ⟨i6, i8⟩, i7⟩ hK
        obtain ⟨A', c', rfl, hcc, hsl⟩ := i3.form
        have cP := i2.cell 0
        have cO := i4.cell 0
        have fP := i2.frozen 0
        have fO := i4.frozen 0
        simp at cP cO
        have hmix : Tryz.prog.follows .mixedOrders = true := by kernel_rfl
        obtain ⟨Z, HZ⟩ : ∃ Z, Hid (Z = spF zs m (List.finRange zs.length)) := ⟨_, Lib.hid rfl⟩
        rw [← HZ.out] at cP hcc hsl
        have hcT : (Z.length : Int) ≤ (c' : Int) := by omega
        have hsW : w1.heap.size < W.heap.size := i5.lt
        have p1 := (i2.set_ 0 (.slice A' Z.length Z.length)).far (p := ⟨w.heap.size + 1 + 1, 0, none⟩) (by simp) (.slice (some ⟨w1.heap.size, 0, none⟩) zs.length zs.length)
        have p2 := (i4.far (p := ⟨w.heap.size + 1, 0, none⟩) (by simp) (.slice A' Z.length Z.length)).set_ 0 (.slice (some ⟨w1.heap.size, 0, none⟩) zs.length zs.length)
        have p3 := (i3.far (o := 0) (i2.not_row (by decide) i3) (.slice A' Z.length Z.length)).far (o := 0) (i4.not_row (by decide) i3) (.slice (some ⟨w1.heap.size, 0, none⟩) zs.length zs.length)
        have p5 := (i5.far (p := ⟨w.heap.size + 1, 0, none⟩) (by show w1.heap.size ≠ w.heap.size + 1; omega) (.slice A' Z.length Z.length)).far (p := ⟨w.heap.size + 1 + 1, 0, none⟩) (by show w1.heap.size ≠ w.heap.size + 1 + 1; omega) (.slice (some ⟨w1.heap.size, 0, none⟩) zs.length zs.length)
        have p7 := (i7.setCell (p := ⟨w.heap.size + 1, 0, none⟩) (by simp) (.slice A' Z.length Z.length)).setCell (p := ⟨w.heap.size + 1 + 1, 0, none⟩) (by simp; omega) (.slice (some ⟨w1.heap.size, 0, none⟩) zs.length zs.length)
        have pK := ((KeepsOthers.setCell W ⟨w.heap.size + 1, 0, none⟩ (.slice A' Z.length Z.length)).trans (KeepsOthers.setCell _ ⟨w.heap.size + 1 + 1, 0, none⟩ (.slice (some ⟨w1.heap.size, 0, none⟩) zs.length zs.length))).same D _ hK rfl
        clear hcT
        have hcT : (Z.length : Int) ≤ (c' : Int) := by omega
        gi_wp2
        gi_region_o
        obtain ⟨W2, hW2⟩ : ∃ W2, ((W.setCell ⟨w.heap.size + 1, 0, none⟩ (.slice A' Z.length Z.length)).setCell ⟨w.heap.size + 1 + 1, 0, none⟩ (.slice (some ⟨w1.heap.size, 0, none⟩) zs.length zs.length)).drew = W2 := ⟨_, rfl⟩
        have q1 : Blk W2 (w.heap.size + 1) 22 #[.slice A' Z.length Z.length] := by rw [← hW2]; exact p1
        have q2 : Blk W2 (w.heap.size + 1 + 1) 22 #[.slice (some ⟨w1.heap.size, 0, none⟩) zs.length zs.length] := by rw [← hW2]; exact p2
        have q3 : OwnI W2 (w1.heap.size + 1) (.slice A' (spF zs m (List.finRange zs.length)).length c') (spF zs m (List.finRange zs.length)) := by rw [← hW2]; exact p3
        have q5 : Full W2 w1.heap.size (soF zs m (List.finRange zs.length)) := by rw [← hW2]; exact p5
        have q7 : Below w.heap.size w W2 := by rw [← hW2]; exact p7.drew
        have qK : W2.heap[D]? = some (.deferred (some [])) := by rw [← hW2]; exact pK
        rw [hW2]
        clear hW2 p1 p2 p3 p5 p7 pK hsl cP cO fP fO
        gi_wp2
        refine ⟨by simp, .inl ⟨_, _, rfl, run_takeDeferred qK, ?_⟩⟩
        have r1 := (q1.aside (grownBy_putObj' W2 D (.deferred none)) (B := 0) (fun r e => by cases e; exact ⟨Nat.zero_le _, _, qK, rfl⟩)).cell 0
        have r2 := (q2.aside (grownBy_putObj' W2 D (.deferred none)) (B := 0) (fun r e => by cases e; exact ⟨Nat.zero_le _, _, qK, rfl⟩)).cell 0
        have r3 := q3.aside (grownBy_putObj' W2 D (.deferred none)) (B := 0) (fun r e => by cases e; exact ⟨Nat.zero_le _, _, qK, rfl⟩)
        have r5 := q5.aside (grownBy_putObj' W2 D (.deferred none)) (B := 0) (fun r e => by cases e; exact ⟨Nat.zero_le _, _, qK, rfl⟩)
        have r7 := below_aside (B := w.heap.size) q7 (Nat.le_refl _) (Nat.le_refl _) (grownBy_putObj' W2 D (.deferred none)) (fun r e => by cases e; exact ⟨by have := hB0.size; omega, _, qK, rfl⟩)
        simp at r1 r2
        refine ⟨.tuple #[.slice A' Z.length Z.length, .slice (some ⟨w1.heap.size, 0, none⟩) zs.length zs.length, .int .i64 0], by simp [results, Tryz.f48, go_sem, r1, r2], ?_⟩
        rw [HE.out, Int.toNat_natCast]
        have r3' := Sl.of_own r3
        rw [spF_all] at HZ r3'
        rw [soF_all] at r5
        have hol : (spO zs m).length = zs.length := by simp [spO]
        rw [HZ.out]
        exact ⟨_, _, _, _, by rw [← hol]; rfl, Nat.le_refl _, Nat.le_refl _, r3', r5.sl, r7⟩
      case stop =>
        rintro D c pre W _ _ h _
        exact h.elim
    · have HE := Lib.hid (show spE zs most = 2 by simp only [spE, he, if_neg hb]; simp)
      have C2 : most < 1 ∨ 1048576 < most := by omega
      clear he hb
      rcases C2 with C2 | C2
      all_goals
        gi_wp2_with fail
        clear hw0
        refine ⟨trivial, ?_⟩
        refine (callsIn_wide.2 C1).mono ?_
        rintro e w1 ⟨rfl, hB1⟩
        have hs1 := hB1.size
        have hB1' := hb0.trans (hB1.mono (by omega))
        have d1 := b1.below hB1 b1.lt
        have d2 := b2.below hB1 b2.lt
        have d3 := b3.below hB1 b3.lt
        have c1 := d1.cell 0
        have c2 := d2.cell 0
        have c3 := d3.cell 0
        have f2 := d2.frozen 0
        have f3 := d3.frozen 0
        have p1 := ((d2.set_ 0 (.slice none 0 0)).far (p := ⟨w.heap.size + 1 + 1, 0, none⟩) (by simp) (.slice none 0 0)).cell 0
        have p2 := ((d3.far (p := ⟨w.heap.size + 1, 0, none⟩) (by simp) (.slice none 0 0)).set_ 0 (.slice none 0 0)).cell 0
        have p7 := (hB1'.setCell (p := ⟨w.heap.size + 1, 0, none⟩) (by simp) (.slice none 0 0)).setCell (p := ⟨w.heap.size + 1 + 1, 0, none⟩) (by simp; omega) (.slice none 0 0)
        simp at c1 c2 c3 p1 p2
        gi_wp2
        refine ⟨.tuple #[.slice none 0 0, .slice none 0 0, .int .i64 2], by simp [results, Tryz.f48, go_sem, p1, p2], ?_⟩
        rw [HE.out]
        exact retLL_nil p7
  · have hd : (ckE zs != 0) = true := by rw [bne_iff_ne]; exact he
    have HE := Lib.hid (show spE zs most = ckE zs by simp [spE, he])
    have HO := Lib.hid (show ∀ l, orL (ckE zs) l = [] by simp [orL, he])
    clear he
    gi_wp2_with fail
    clear hw0
    refine ⟨trivial, ?_⟩
    refine (callsIn_wide.2 C1).mono ?_
    rintro e w1 ⟨rfl, hB1⟩
    have hs1 := hB1.size
    have hB1' := hb0.trans (hB1.mono (by omega))
    have d2 := b2.below hB1 b2.lt
    have d3 := b3.below hB1 b3.lt
    have c2 := d2.cell 0
    have c3 := d3.cell 0
    have f2 := d2.frozen 0
    have f3 := d3.frozen 0
    have p1 := ((d2.set_ 0 (.slice none 0 0)).far (p := ⟨w.heap.size + 1 + 1, 0, none⟩) (by simp) (.slice none 0 0)).cell 0
    have p2 := ((d3.far (p := ⟨w.heap.size + 1, 0, none⟩) (by simp) (.slice none 0 0)).set_ 0 (.slice none 0 0)).cell 0
    have p7 := (hB1'.setCell (p := ⟨w.heap.size + 1, 0, none⟩) (by simp) (.slice none 0 0)).setCell (p := ⟨w.heap.size + 1 + 1, 0, none⟩) (by simp; omega) (.slice none 0 0)
    simp at c2 c3 p1 p2
    gi_wp2
    refine ⟨.tuple #[.slice none 0 0, .slice none 0 0, .int .i64 (ckE zs)], by simp [results, Tryz.f48, go_sem, p1, p2], ?_⟩
    rw [HE.out, HO.out, HO.out]
    exact retLL_nil p7
end Go.Proofs.YtecpanppnljkhaaGreatDoor

namespace Go.Proofs.YtecpanppnljkhaaGreatDoor
set_option linter.unusedVariables false
set_option maxRecDepth 100000
open Go.RowKit Go.Shelf
attribute [local go_sem] Oper.semAt_some
/-- Two blocks are as they were. -/
def KpD (b B : Nat) (W W' : World) : Prop := W'.heap[b]? = W.heap[b]? ∧ W'.heap[B]? = W.heap[B]?
theorem kpD_t {b B : Nat} {X Y Z : World} (h : KpD b B X Y) (k : KpD b B Y Z) : KpD b B X Z := ⟨k.1.trans h.1, k.2.trans h.2⟩
theorem kpD_refl (b B : Nat) (W : World) : KpD b B W W := ⟨rfl, rfl⟩
theorem kpD_b {b B : Nat} {w : World} (hb : b < w.heap.size) (hB : B < w.heap.size) (W : World) (l : Nat) (o o' : Obj) (hl : w.heap.size ≤ l) (h : W.heap[l]? = some o) (h1 : o.isCells = false) (h2 : o.isWalk = false) : KpD b B W (W.putObj l o') :=
  ⟨(kpB_b (n₀ := 0) (Nat.zero_le _) hb W l o o' hl h h1 h2).2, (kpB_b (n₀ := 0) (Nat.zero_le _) hB W l o o' hl h h1 h2).2⟩
theorem cell_of_heap {W W' : World} {b : Nat} (h : W'.heap[b]? = W.heap[b]?) (i : Nat) : W'.cell? ⟨b, i, none⟩ = W.cell? ⟨b, i, none⟩ := by
  simp only [World.cell?, h]
set_option maxHeartbeats 2000000 in
theorem segs_in2 (F : Fence) (n : Nat) (h7 : F.fn 81) (hro : F.round = none) (hn : 1 ≤ n) (i Bl Bs b off c cl : Nat) (A : Option Addr) (l lens : List Int) (hz : Segs l lens) (hcl : l.length ≤ cl) (J Jx : List (Fin lens.length) → World → Prop)
    (hY : ∀ pre x W, J pre W → pre.length < lens.length → YieldAt F (n - 1) Tryz.prog i (segV A lens x) W fun e W' =>
      (e = .returned (.bool true) ∧ J (pre ++ [x]) W' ∧ KpD b Bl W W') ∨ (e = .returned (.bool false) ∧ Jx (pre ++ [x]) W'))
    (W : World) (hBs : W.cell? ⟨Bs, 0, none⟩ = some (.slice (some ⟨b, off, none⟩) lens.length c)) (hBl : Blk W Bl 22 #[.slice A l.length cl]) (hc : ∀ j, j < lens.length → W.cell? ⟨b, off + j, none⟩ = some (.int .i64 (nth lens j))) (h0 : J [] W) :
    CallsIn F n Tryz.prog 81 #[.func (.yield i) #[] #[], .pointer (some ⟨Bs, 0, none⟩), .pointer (some ⟨Bl, 0, none⟩)] W fun e W' => (∃ v, e = .returned v) ∧
      ((∃ ys, ys = List.finRange lens.length ∧ J ys W') ∨ (∃ pre, (∃ k, k ≤ lens.length ∧ pre = fr lens.length k) ∧ Jx pre W')) := by
  have hlen := hz.few
  have hll := hz.short
  refine callsIn_of_wp Tryz.func81 rfl h7 ?_ hro
  simp only [Tryz.ntmps81, List.size_toArray, List.length_cons, List.length_nil, Nat.reduceAdd, Nat.reduceSub, Array.replicate_succ, Array.replicate_zero, List.push_toArray, List.append_toArray, List.nil_append, List.cons_append]
  gi_wp2
  gi_loopw [4, 10] (fun p i wr => ∃ k : Nat, k ≤ lens.length ∧ i = .int .i64 k ∧ p = .int .i64 ((ofs lens k : Nat) : Int) ∧ J (fr lens.length k) wr ∧ KpD b Bl W wr)
    (fun _ i _ => lens.length - (intOf i).toNat)
  case atStart => exact ⟨0, Nat.zero_le _, rfl, by rw [ofs_zero]; rfl, h0, kpD_refl _ _ _⟩
  case round =>
    obtain ⟨k, hk, rfl, rfl, hJs, hnx⟩ := hrel
    by_cases hlt : k < lens.length
    · have hcx' := (cell_of_heap hnx.1 (off + k)).trans (hc k hlt)
      have hbk : Blk wr Bl 22 #[.slice A l.length cl] := hnx.2.trans hBl
      have hbl' := hbk.cell 0
      simp at hbl'
      obtain ⟨fn, tmps, assign, body, hy, hR⟩ := hY _ ⟨k, hlt⟩ wr hJs (by rw [fr_length _ _ hk]; exact hlt)
      obtain ⟨e1, e2, e3, e4, e5⟩ := hz.step k hlt
      have HF := Lib.hid (fr_succ lens.length k hlt)
      simp only [segV] at hy
      obtain ⟨p, hp⟩ : ∃ p, ofs lens k = p := ⟨_, rfl⟩
      obtain ⟨q, hq⟩ : ∃ q, ofs lens (k + 1) = q := ⟨_, rfl⟩
      obtain ⟨y, hy2⟩ : ∃ y, nth lens k = y := ⟨_, rfl⟩
      rw [hp, hq] at e1 hy
      rw [hp] at e2
      rw [hq] at e2 e3
      rw [hy2] at e1 e4 e5 hcx'
      have HQ := Lib.hid hq
      have hsum : (p : Int) + y = (q : Int) := by omega
      have hrun := fun W => slice_lhm A l.length cl p q e2 e3 hcl W
      have k1 : (0 : Int) ≤ (k : Int) := by omega
      have k2 : (k : Int) < (lens.length : Int) := by omega
      rw [hp]
      clear hp hq hy2 e1 hJs
      gi_wp2
      refine hR.mono ?_
      rintro e W3 (⟨rfl, hJ3, hk3⟩ | ⟨rfl, hJx3⟩)
      · gi_wp2
        go_roundw
        case rel => exact ⟨k + 1, by omega, by go_num, by rw [HQ.out], by rw [HF.out]; exact hJ3, kpD_t hnx hk3⟩
        case measure => simp [intOf]; omega
      · gi_wp2
        refine bodyPost_ret (results_none rfl _ _ _) rfl ?_
        exact ⟨⟨_, rfl⟩, .inr ⟨_, ⟨k + 1, by omega, HF.out.symm⟩, hJx3⟩⟩
    · obtain rfl : k = lens.length := by omega
      gi_wp2
      go_end0
      exact ⟨⟨_, rfl⟩, .inl ⟨_, fr_all _, hJs⟩⟩
/-- segments(l, lens) hands back a value that 'SeqStopsK', at 'Kp := Below n₀'. -/
theorem segs_stops2 (F : Fence) (n : Nat) (h7 : F.fn 81) (hro : F.round = none) (hn : 1 ≤ n) (Bl Bs bl c cl : Nat) (A A' : Option Addr) (l lens : List Int) (hz : Segs l lens) (hcl : l.length ≤ cl) (w : World) (hBs : Bs < w.heap.size) (hbl : bl < w.heap.size)
    (hc : w.cell? ⟨Bs, 0, none⟩ = some (.slice A' lens.length c)) (hl : Blk w Bl 22 #[.slice A l.length cl]) (hS : 0 < lens.length → ∃ off, A' = some ⟨bl, off, none⟩ ∧ ∀ j, j < lens.length → w.cell? ⟨bl, off + j, none⟩ = some (.int .i64 (nth lens j))) :
    SeqStopsK F n Tryz.prog 81 #[.pointer (some ⟨Bs, 0, none⟩), .pointer (some ⟨Bl, 0, none⟩)] (segV A lens) (KpD bl Bl) (fun ys => ys = List.finRange lens.length) (fun pre => ∃ k, k ≤ lens.length ∧ pre = fr lens.length k) lens.length w := fun i J Jx W hW _ _ hY h0 => by
  have hc' := (hW.cell (p := ⟨Bs, 0, none⟩) (by show Bs < w.heap.size; omega)).trans hc
  have hl' := hl.below hW hl.lt
  rcases Nat.eq_zero_or_pos lens.length with h | h
  · have e := List.eq_nil_of_length_eq_zero h
    subst e
    exact (segs_nil_in F n h7 hro i Bl Bs A' c J W hc' h0).mono fun e W' ⟨he, hj⟩ => ⟨he, .inl ⟨_, rfl, hj⟩⟩
  · obtain ⟨off, rfl, hcs⟩ := hS h
    exact segs_in2 F n h7 hro hn i Bl Bs bl off c cl A l lens hz hcl J Jx hY W hc' hl' (fun j hj => (hW.cell (p := ⟨bl, off + j, none⟩) hbl).trans (hcs j hj)) h0

theorem below_reset {N g : Nat} {X Y : World} {t : TypeId} {c0 v v' : Value} (hX : Blk X g t #[c0]) (hg : g < N) (h : Below N (X.setCell ⟨g, 0, none⟩ v) Y) : Below N (X.setCell ⟨g, 0, none⟩ v') (Y.setCell ⟨g, 0, none⟩ v') := by
  have hY : Blk Y g t #[v] := by have := (hX.set_ 0 v).below h hg; simpa using this
  refine ⟨h.os, h.tape, h.output, by have := h.size; simpa using this, fun k hk => ?_⟩
  by_cases e : k = g
  · subst e
    have h1 := hX.set_ 0 v'
    have h2 := hY.set_ 0 v'
    unfold Blk at h1 h2
    rw [h1, h2]; rfl
  · rw [Below.heap_setCell _ _ _ _ e, h.block k hk]
    rw [Below.heap_setCell _ _ _ _ e, Below.heap_setCell _ _ _ _ e]
theorem below_set {N g : Nat} {X Y : World} {t : TypeId} {c0 : Value} (v : Value) (hX : Blk X g t #[c0]) (hg : g < N) (h : Below N X Y) : Below N (X.setCell ⟨g, 0, none⟩ v) (Y.setCell ⟨g, 0, none⟩ v) := by
  have hY : Blk Y g t #[c0] := hX.below h hg
  refine ⟨h.os, h.tape, h.output, by have := h.size; simpa using this, fun k hk => ?_⟩
  by_cases e : k = g
  · subst e
    have h1 := hX.set_ 0 v
    have h2 := hY.set_ 0 v
    unfold Blk at h1 h2
    rw [h1, h2]
  · rw [Below.heap_setCell _ _ _ _ e, Below.heap_setCell _ _ _ _ e, h.block k hk]
theorem Sl.farBox {w : World} {A X : Option Addr} {zs : List Int} {g n c : Nat} {t : TypeId} (h : Sl w A zs) (hb : Blk w g t #[.slice X n c]) (u : Value) : Sl (w.setCell ⟨g, 0, none⟩ u) A zs := by
  rcases Nat.eq_zero_or_pos zs.length with h0 | h0
  · exact fun hl => by omega
  · obtain ⟨b, off, rfl, hlt, hc⟩ := h h0
    refine h.far (fun a ha => ?_) u
    cases ha
    rintro rfl
    have h1 := hc 0 h0
    rw [hb.cell] at h1
    cases off <;> simp at h1
end Go.Proofs.YtecpanppnljkhaaGreatDoor

namespace Go.Proofs.YtecpanppnljkhaaGreatDoor
set_option linter.unusedVariables false
set_option maxRecDepth 100000
open Go.RowKit Go.Shelf
attribute [local go_sem] Oper.semAt_some
/-! the blocks of a list -/
theorem sp_lt {n m j : Nat} (hm : 1 ≤ m) (h : j < spN n m) : j * m < n := by
  unfold spN at h
  have h1 : (j + 1) * m ≤ n + m - 1 := Nat.le_trans (Nat.mul_le_mul_right m h) (Nat.div_mul_le_self _ _)
  rw [Nat.succ_mul] at h1; omega
theorem spN_small (n m : Nat) (hm : 1 ≤ m) : spN n m ≤ n := by
  unfold spN
  have h : (n + m - 1) / m < n + 1 := by
    rw [Nat.div_lt_iff_lt_mul (by omega)]
    have : n * 1 ≤ n * m := Nat.mul_le_mul_left n hm
    rw [Nat.add_mul]
    omega
  omega
theorem chK_len (n m j : Nat) : (chK n m j).length = j := by simp [chK]
theorem chK_sum {n m : Nat} (hm : 1 ≤ m) : ∀ j, j ≤ spN n m → (chK n m j).sum = min (n : Int) ((j * m : Nat) : Int)
  | 0, _ => by simp [chK]; omega
  | j + 1, hj => by
    have h1 := sp_lt hm (show j < spN n m by omega)
    rw [chK_succ, List.sum_append, chK_sum hm j (by omega), Nat.succ_mul]
    have e : (j : Int) * (m : Int) = ((j * m : Nat) : Int) := by simp
    rw [e]
    simp only [List.sum_cons, List.sum_nil]
    omega
theorem sp_ge {n m : Nat} (hm : 1 ≤ m) : n ≤ spN n m * m := by
  unfold spN
  have h1 := Nat.div_add_mod (n + m - 1) m
  have h2 := Nat.mod_lt (n + m - 1) (show 0 < m by omega)
  rw [Nat.mul_comm] at h1; omega
theorem blocks_segs (l : List Int) (m : Nat) (hm : 1 ≤ m) (h : l.length ≤ 1048576) : Segs l (chL l.length m) := by
  have hs := chK_sum hm (spN l.length m) (Nat.le_refl _) (n := l.length)
  have hg := sp_ge hm (n := l.length)
  refine ⟨?_, by unfold chL; rw [chK_len]; have := spN_small l.length m hm; omega, h, by unfold chL; rw [hs]; omega⟩
  unfold posB
  rw [List.all_eq_true]
  intro y hy
  unfold chL chK at hy
  obtain ⟨i, hi, rfl⟩ := List.mem_map.1 hy
  have hi' := sp_lt hm (List.mem_range.1 hi)
  have e : (i : Int) * (m : Int) = ((i * m : Nat) : Int) := by simp
  rw [e]
  simp
  omega
def blE (op : Int) (l : List Int) (most : Int) : Int := if cE op [l] = 0 then (if 1 ≤ most ∧ most ≤ 1048576 then 0 else 2) else cE op [l]
def blS (op : Int) (l : List Int) (m : Nat) : List Int := kpK (whL (doN op) (neN op)) l (chL l.length m) (chL l.length m).length
def blL (op : Int) (l : List Int) (m : Nat) : List Int := blK (doN op) (neN op) (ahL (doN op) (neN op) (blS op l m)) l (chL l.length m) (chL l.length m).length
theorem spE_one (n : Nat) (most : Int) (h : n ≤ 1048576) : spE [(n : Int)] most = (if 1 ≤ most ∧ most ≤ 1048576 then 0 else 2) := by
  have : ckE [(n : Int)] = 0 := by
    rw [(ck_short (by simp)).1]
    exact (sumE_ok (by unfold isNeg; simp) (by simp; omega)).1
  unfold spE; rw [this]; simp
theorem spP_one (n m : Nat) : spP [(n : Int)] m = chL n m := by
  unfold spP; simp [nth]
/-- The scan of the blocks that have come. -/
def blF (f : Int → Int → Int) (B l lens : List Int) (pre : List (Fin lens.length)) : List Int := pre.flatMap fun x => ahL f (nth B x.val) (sgL l lens x.val)
theorem blF_snoc (f : Int → Int → Int) (B l lens : List Int) (pre : List (Fin lens.length)) (x : Fin lens.length) : blF f B l lens (pre ++ [x]) = blF f B l lens pre ++ ahL f (nth B x.val) (sgL l lens x.val) := by
  unfold blF; rw [List.flatMap_append]; simp
theorem blF_fr (f : Int → Int → Int) (y : Int) (B l lens : List Int) (k : Nat) (hk : k ≤ lens.length) : blF f B l lens (fr lens.length k) = blK f y B l lens k := by
  induction k with
  | zero => rfl
  | succ k ih => rw [fr_succ _ k (by omega), blF_snoc, ih (by omega)]; rfl
theorem blF_all (f : Int → Int → Int) (y : Int) (B l lens : List Int) : blF f B l lens (List.finRange lens.length) = blK f y B l lens lens.length := by
  rw [← fr_all, blF_fr f y B l lens _ (Nat.le_refl _)]
theorem blF_len (f : Int → Int → Int) (B l lens : List Int) (pre : List (Fin lens.length)) : (blF f B l lens pre).length ≤ pre.length * l.length := by
  induction pre with
  | nil => simp [blF]
  | cons x pre ih =>
    have h2 := sg_le l lens x.val
    have h1 : (ahL f (nth B x.val) (sgL l lens x.val)).length = (sgL l lens x.val).length := mk_length _ _
    have e : (blF f B l lens (x :: pre)).length = (ahL f (nth B x.val) (sgL l lens x.val)).length + (blF f B l lens pre).length := by simp [blF]
    rw [e, List.length_cons, Nat.succ_mul]
    omega
theorem blF_room (f : Int → Int → Int) (B l lens : List Int) (hl : l.length ≤ 1048576) (hn : lens.length ≤ 1048576) (pre : List (Fin lens.length)) (hp : pre.length < lens.length) (x : Fin lens.length) : (blF f B l lens pre).length + (ahL f (nth B x.val) (sgL l lens x.val)).length ≤ 1099600000000 := by
  have h1 := blF_len f B l lens pre
  have h2 : (ahL f (nth B x.val) (sgL l lens x.val)).length = (sgL l lens x.val).length := mk_length _ _
  have h3 := sg_le l lens x.val
  have h4 : pre.length * l.length ≤ 1048576 * 1048576 := Nat.mul_le_mul (by omega) (by omega)
  omega
theorem retLL_err {w w' : World} {xs ys : List Int} {er : Int} (h : er ≠ 0) (hB : Below w.heap.size w w') : RetLL w (orL er xs) (orL er ys) er (.returned (.tuple #[.slice none 0 0, .slice none 0 0, .int .i64 er])) w' := by
  rw [orL_err _ h, orL_err _ h]
  exact ⟨none, 0, none, 0, rfl, Nat.le_refl _, Nat.le_refl _, Sl.nil _ _, Sl.nil _ _, hB⟩
set_option maxHeartbeats 4000000 in
theorem blocks_err1 (op most : Int) (A : Option Addr) (c : Nat) (l : List Int) (w : World) (hI : Inv w) (h : Sl w A l) (hcl : l.length ≤ c) (k : Ok l) (hc : cE op [l] ≠ 0) :
    Calls Tryz.prog 17 #[.int .i64 op, .slice A l.length c, .int .i64 most] w (RetLL w (orL (blE op l most) (blS op l most.toNat)) (orL (blE op l most) (blL op l most.toNat)) (blE op l most)) := by
  have hBE : blE op l most = cE op [l] := by unfold blE; rw [if_neg hc]
  rw [hBE]
  have bA := (Blk.new w 22 #[.slice none 0 0]).alloc (.cells #[.slice A l.length c] 22)
  have bL := Blk.new (w.alloc (.cells #[.slice none 0 0] 22)) 22 #[.slice A l.length c]
  have hB0 : Below w.heap.size w ((w.alloc (.cells #[.slice none 0 0] 22)).alloc (.cells #[.slice A l.length c] 22)) := ((Below.refl _ _).alloc (Nat.le_refl _) _).alloc (by simp) _
  have C1 := checked_any op (some ⟨w.heap.size + 1, 0, none⟩) 1 [l] _ (hI.below hB0) (by have := sll1 bL (h.step hB0) hcl; simpa using this) (by simp) (allShort_of (by unfold Ok at k; simpa using k))
  have hd : (cE op [l] != 0) = true := by rw [bne_iff_ne]; exact hc
  have HE := Lib.hid hc
  obtain ⟨y, hy⟩ : ∃ y, cE op [l] = y := ⟨_, rfl⟩
  rw [hy] at C1 hd HE
  rw [hy]
  have C1 := Lib.hid C1
  have k0 := bA.cell 0
  have f0 := bA.frozen 0
  simp at k0
  clear hc hy hBE
  go_enter Tryz.func17, Tryz.ntmps17
  go_wp2_with fail
  refine C1.out.mono ?_
  rintro e w1 ⟨n', f, rfl, hB, hg, hz⟩
  obtain ⟨rfl, rfl⟩ := hz HE.out
  clear hg hz
  have dA := bA.below hB bA.lt
  have eA := dA.alloc (.cells #[.int .i64 0, .nilFunc] 58)
  have k1 := eA.cell 0
  have f1 := eA.frozen 0
  simp at k1
  have hB1 := hB0.trans (hB.mono hB0.size)
  have hB2 := hB1.alloc hB1.size (.cells #[.int .i64 0, .nilFunc] 58)
  clear k0 f0
  have eS := (eA.set_ 0 (.slice none 0 0)).cell 0
  simp at eS
  go_wp2
  refine bodyPost_ret (v := .tuple #[.slice none 0 0, .slice none 0 0, .int .i64 y]) ?_ rfl ?_
  · simp [results, Tryz.f17, go_sem, eS]
  exact retLL_err HE.out (hB2.setCell (p := ⟨w.heap.size, 0, none⟩) (Nat.le_refl _) _)
set_option maxHeartbeats 4000000 in
theorem blocks_err2 (op most : Int) (A : Option Addr) (c : Nat) (l : List Int) (w : World) (hI : Inv w) (h : Sl w A l) (hcl : l.length ≤ c) (k : Ok l) (hc : cE op [l] = 0) (hm : ¬ (1 ≤ most ∧ most ≤ 1048576)) :
    Calls Tryz.prog 17 #[.int .i64 op, .slice A l.length c, .int .i64 most] w (RetLL w (orL (blE op l most) (blS op l most.toNat)) (orL (blE op l most) (blL op l most.toNat)) (blE op l most)) := by
  have hBE : blE op l most = 2 := by unfold blE; rw [if_pos hc, if_neg hm]
  rw [hBE]
  have hl := (lsE_ok (cE_ok hc).2).1 l (by simp)
  have bA := (Blk.new w 22 #[.slice none 0 0]).alloc (.cells #[.slice A l.length c] 22)
  have bL := Blk.new (w.alloc (.cells #[.slice none 0 0] 22)) 22 #[.slice A l.length c]
  have hB0 : Below w.heap.size w ((w.alloc (.cells #[.slice none 0 0] 22)).alloc (.cells #[.slice A l.length c] 22)) := ((Below.refl _ _).alloc (Nat.le_refl _) _).alloc (by simp) _
  have C1 := checked_any op (some ⟨w.heap.size + 1, 0, none⟩) 1 [l] _ (hI.below hB0) (by have := sll1 bL (h.step hB0) hcl; simpa using this) (by simp) (allShort_of (by unfold Ok at k; simpa using k))
  rw [hc] at C1
  have C1 := Lib.hid C1
  have C2 := fun (A : Option Addr) (c : Nat) (W : World) (hW : Sl W A [(l.length : Int)]) => split_any A c [(l.length : Int)] most W hW (by simp)
  rw [spE_one _ _ hl, if_neg hm] at C2
  have C2 := Lib.hid C2
  have k0 := bA.cell 0
  have f0 := bA.frozen 0
  simp at k0
  clear hc hBE hm
  go_enter Tryz.func17, Tryz.ntmps17
  go_wp2_with fail
  refine C1.out.mono ?_
  rintro e w1 ⟨n', f, rfl, hB, hg, hz⟩
  obtain ⟨rfl, g, rfl, hgl, hgb⟩ := hg rfl
  clear hz
  have dA := (bA.below hB bA.lt).alloc (.cells #[.int .i64 (neN op), .func (.func 87) #[] #[.pointer (some ⟨g, 0, none⟩)]] 58)
  have hB1 := hB0.trans (hB.mono hB0.size)
  have hB2 := hB1.alloc hB1.size (.cells #[.int .i64 (neN op), .func (.func 87) #[] #[.pointer (some ⟨g, 0, none⟩)]] 58)
  have eA := dA.alloc (.cells #[.int .i64 (l.length : Int)] 3)
  have bN := Blk.new (w1.alloc (.cells #[.int .i64 (neN op), .func (.func 87) #[] #[.pointer (some ⟨g, 0, none⟩)]] 58)) 3 #[.int .i64 (l.length : Int)]
  have hB3 := hB2.alloc hB2.size (.cells #[.int .i64 (l.length : Int)] 3)
  simp only [World.size_alloc] at bN
  have C2' := Lib.hid (C2.out (some ⟨w1.heap.size + 1, 0, none⟩) 1 _ (fun _ => ⟨_, 0, rfl, bN.lt, fun j hj => by
    simp at hj; subst hj
    rw [Nat.zero_add, bN.cell]; rfl⟩))
  clear k0 f0
  go_wp2_with fail
  refine C2'.out.mono ?_
  rintro e w2 ⟨A2, c2, A3, c3, rfl, hc2, hc3, hs2, hs3, hBc⟩
  have xA := eA.below hBc eA.lt
  have k1 := xA.cell 0
  have f1 := xA.frozen 0
  simp at k1
  have hB4 := hB3.trans (hBc.mono hB3.size)
  have eS := (xA.set_ 0 (.slice none 0 0)).cell 0
  simp at eS
  go_wp2
  refine bodyPost_ret (v := .tuple #[.slice none 0 0, .slice none 0 0, .int .i64 2]) ?_ rfl ?_
  · simp [results, Tryz.f17, go_sem, eS]
  exact retLL_err (by decide) (hB4.setCell (p := ⟨w.heap.size, 0, none⟩) (Nat.le_refl _) _)
set_option maxHeartbeats 4000000 in
theorem blocks_ok (op : Int) (m : Nat) (A : Option Addr) (c : Nat) (l : List Int) (w : World) (hI : Inv w) (h : Sl w A l) (hcl : l.length ≤ c) (k : Ok l) (hc : cE op [l] = 0) (hm1 : 1 ≤ m) (hm2 : m ≤ 1048576) :
    Calls Tryz.prog 17 #[.int .i64 op, .slice A l.length c, .int .i64 (m : Int)] w (RetLL w (blS op l m) (blL op l m) 0) := by
  obtain ⟨i0, hi, hz0, hz1, hz2⟩ := info_parts int_info
  have hl := (lsE_ok (cE_ok hc).2).1 l (by simp)
  have hz := blocks_segs l m hm1 hl
  have bA := (Blk.new w 22 #[.slice none 0 0]).alloc (.cells #[.slice A l.length c] 22)
  have bL := Blk.new (w.alloc (.cells #[.slice none 0 0] 22)) 22 #[.slice A l.length c]
  have hB0 : Below w.heap.size w ((w.alloc (.cells #[.slice none 0 0] 22)).alloc (.cells #[.slice A l.length c] 22)) := ((Below.refl _ _).alloc (Nat.le_refl _) _).alloc (by simp) _
  have C1 := checked_any op (some ⟨w.heap.size + 1, 0, none⟩) 1 [l] _ (hI.below hB0) (by have := sll1 bL (h.step hB0) hcl; simpa using this) (by simp) (allShort_of (by unfold Ok at k; simpa using k))
  rw [hc] at C1
  have C1 := Lib.hid C1
  have C2 := fun (A : Option Addr) (c : Nat) (W : World) (hW : Sl W A [(l.length : Int)]) => split_any A c [(l.length : Int)] (m : Int) W hW (by simp)
  rw [spE_one _ _ hl, if_pos ⟨by omega, by omega⟩, orL_ok, orL_ok, Int.toNat_natCast, spP_one] at C2
  have C2 := Lib.hid C2
  have hLn : (chL l.length m).length ≤ 1048576 := hz.few
  obtain ⟨lens, hlens⟩ : ∃ lens, chL l.length m = lens := ⟨_, rfl⟩
  have HS : Hid (blS op l m = kpK (whL (doN op) (neN op)) l lens lens.length) := Lib.hid (by unfold blS; rw [hlens])
  have HL : Hid (blL op l m = blK (doN op) (neN op) (ahL (doN op) (neN op) (blS op l m)) l lens lens.length) := Lib.hid (by unfold blL; rw [hlens])
  rw [hlens] at C2 hz hLn
  have hSl := kp_len_one (f := whL (doN op) (neN op)) (fun _ => rfl) l lens lens.length
  obtain ⟨sums, hsums⟩ : ∃ sums, kpK (whL (doN op) (neN op)) l lens lens.length = sums := ⟨_, rfl⟩
  rw [hsums] at hSl HS
  rw [HS.out] at HL
  have CO := fun (g : Nat) (A' : Option Addr) (c' : Nat) (W : World) hg hA hL' => of_whole op (neN op) g A A' c' c l lens W hg hA hcl hL' hz
  rw [hsums] at CO
  have CO := Lib.hid CO
  have CP := fun (g : Nat) (As A' : Option Addr) (c' cs : Nat) (W : World) hg hA hcs hL' => of_ahead op (neN op) g As A' c' cs sums [(sums.length : Int)] W hg hA hcs hL' (segs_one sums (by omega))
  rw [kp_one] at CP
  have CP := Lib.hid CP

  have k0 := bA.cell 0
  have f0 := bA.frozen 0
  simp at k0
  have HZ := Lib.hid hz
  have HSL := Lib.hid hSl
  rw [HS.out, HL.out]
  clear hc hlens hsums hz hSl
  refine (callsIn_wide (n := 8)).1 ?_
  refine callsIn_of_wp_marks Tryz.func17 rfl trivial ?_ rfl
  simp only [Tryz.ntmps17, List.size_toArray, List.length_cons, List.length_nil, Nat.reduceAdd, Nat.reduceSub, Array.replicate_succ, Array.replicate_zero, List.push_toArray, List.append_toArray, List.nil_append, List.cons_append]
  gi_wp2_with fail
  refine ⟨trivial, ?_⟩
  refine (callsIn_wide.2 C1.out).mono ?_
  rintro e w1 ⟨n', f, rfl, hB, hg, hz⟩
  obtain ⟨rfl, g, rfl, hgl, hgb⟩ := hg rfl
  clear hz
  have dA := (bA.below hB bA.lt).alloc (.cells #[.int .i64 (neN op), .func (.func 87) #[] #[.pointer (some ⟨g, 0, none⟩)]] 58)
  have hg1 : w.heap.size + 2 ≤ g := by simpa using hgl
  have hw1 : w.heap.size + 2 ≤ w1.heap.size := by have := hB.size; simpa using this
  have hB1 := hB0.trans (hB.mono hB0.size)
  have hB2 := hB1.alloc hB1.size (.cells #[.int .i64 (neN op), .func (.func 87) #[] #[.pointer (some ⟨g, 0, none⟩)]] 58)
  have eA := dA.alloc (.cells #[.int .i64 (l.length : Int)] 3)
  have b9 := (Blk.new w1 58 #[.int .i64 (neN op), .func (.func 87) #[] #[.pointer (some ⟨g, 0, none⟩)]]).alloc (.cells #[.int .i64 (l.length : Int)] 3)
  have dg := (hgb.alloc (.cells #[.int .i64 (neN op), .func (.func 87) #[] #[.pointer (some ⟨g, 0, none⟩)]] 58)).alloc (.cells #[.int .i64 (l.length : Int)] 3)
  have bN := Blk.new (w1.alloc (.cells #[.int .i64 (neN op), .func (.func 87) #[] #[.pointer (some ⟨g, 0, none⟩)]] 58)) 3 #[.int .i64 (l.length : Int)]
  have hB3 := hB2.alloc hB2.size (.cells #[.int .i64 (l.length : Int)] 3)
  simp only [World.size_alloc] at bN
  have C2' := Lib.hid (C2.out (some ⟨w1.heap.size + 1, 0, none⟩) 1 _ (fun _ => ⟨_, 0, rfl, bN.lt, fun j hj => by
    simp at hj; subst hj
    rw [Nat.zero_add, bN.cell]; rfl⟩))
  clear k0 f0 bN dA
  gi_wp2_with fail
  refine ⟨trivial, ?_⟩
  refine (callsIn_wide.2 C2'.out).mono ?_
  rintro e w2 ⟨A2, c2, A3, c3, rfl, hc2, hc3, hs2, hs3, hBc⟩
  have xA := eA.below hBc eA.lt
  have x9 := b9.below hBc b9.lt
  have xg := dg.below hBc dg.lt
  have hB4 := hB3.trans (hBc.mono hB3.size)
  have k90 := x9.cell 0
  have k91 := x9.cell 1
  simp at k90 k91
  have C3 := Lib.hid (CO.out g A2 c2 w2 xg (h.step hB4) hs2)
  clear C2 C2' hc3 hs3 eA b9 dg
  gi_wp2_with fail
  refine ⟨trivial, ?_⟩
  refine (callsIn_wide.2 C3.out).mono ?_
  rintro e w3 ⟨A4, c4, rfl, hc4, hs4, hBd⟩
  have yA := xA.below hBd xA.lt
  have y9 := x9.below hBd x9.lt
  have yg := xg.below hBd xg.lt
  have hB5 := hB4.trans (hBd.mono hB4.size)
  clear k90 k91 C3 CO
  have hs2' := hs2.step hBd
  have zA := yA.alloc (.cells #[.int .i64 (sums.length : Int)] 3)
  have z9 := y9.alloc (.cells #[.int .i64 (sums.length : Int)] 3)
  have zg := yg.alloc (.cells #[.int .i64 (sums.length : Int)] 3)
  have hB6 := hB5.alloc hB5.size (.cells #[.int .i64 (sums.length : Int)] 3)
  have hs2'' := hs2'.below ((Below.refl w3.heap.size w3).alloc (Nat.le_refl _) (.cells #[.int .i64 (sums.length : Int)] 3)) (Nat.le_refl _)
  have hs4' := hs4.below ((Below.refl w3.heap.size w3).alloc (Nat.le_refl _) (.cells #[.int .i64 (sums.length : Int)] 3)) (Nat.le_refl _)
  have bN := Blk.new w3 3 #[.int .i64 (sums.length : Int)]
  have k90 := z9.cell 0
  have k91 := z9.cell 1
  have j90 := y9.cell 0
  have j91 := y9.cell 1
  simp at k90 k91 j90 j91
  have C4 := Lib.hid (CP.out g A4 (some ⟨w3.heap.size, 0, none⟩) 1 c4 _ zg hs4' hc4 (fun _ => ⟨_, 0, rfl, bN.lt, fun j hj => by
    simp at hj; subst hj
    rw [Nat.zero_add, bN.cell]; rfl⟩))
  clear bN yA y9 yg
  gi_wp2_with fail
  refine ⟨trivial, ?_⟩
  refine (callsIn_wide.2 C4.out).mono ?_
  rintro e w4 ⟨A5, c5, rfl, hc5, hs5, hBe⟩
  have uA := zA.below hBe zA.lt
  have u9 := z9.below hBe z9.lt
  have ug := zg.below hBe zg.lt
  have hB7 := hB6.trans (hBe.mono hB6.size)
  have hsA5 : Sl (w4.alloc (.cells #[.slice A5 (ahL (doN op) (neN op) sums).length c5] 22)) A5 (ahL (doN op) (neN op) sums) := hs5.below ((Below.refl w4.heap.size w4).alloc (Nat.le_refl _) _) (Nat.le_refl _)
  have hlens4 : Sl w4 A2 lens := hs2''.step hBe
  have hsum4 : Sl w4 A4 sums := hs4'.step hBe
  clear k90 k91 j90 j91 C4 CP hs2 hs2' hs4 hs4' hs2''
  have hbl : (ahL (doN op) (neN op) sums).length = sums.length := mk_length _ _
  have HBL := Lib.hid hbl
  obtain ⟨bg, hbg⟩ : ∃ bg, ahL (doN op) (neN op) sums = bg := ⟨_, rfl⟩
  rw [hbg] at hsA5 hs5 hc5 hbl HBL ⊢
  have HBG := Lib.hid hbg
  clear hbg hbl
  have hmk : ∀ W : World, (Instr.makeSlice 22 (.int .i64 0) (.int .i64 (l.length : Int))).run Tryz.prog W = .ok (.slice (some ⟨W.heap.size, 0, none⟩) 0 l.length) (W.alloc (.cells (madeCells #[.int .i64 0] l.length) 3)) := fun W => by
    have hr := run_make (P := Tryz.prog) W 22 3 i0 (.int .i64 0) Tryz.underlying22 hi hz0 .i64 .i64 0 l.length (Int.le_refl _) (by omega) (by rw [hz2]; omega) (by omega)
    simp only [Int.toNat_natCast, hz1, Nat.mul_one, Int.toNat_zero] at hr
    exact hr
  have vA := (uA.alloc (.cells #[.slice A5 bg.length c5] 22)).alloc (.cells (madeCells #[.int .i64 0] l.length) 3)
  have v9 := (u9.alloc (.cells #[.slice A5 bg.length c5] 22)).alloc (.cells (madeCells #[.int .i64 0] l.length) 3)
  have vg := (ug.alloc (.cells #[.slice A5 bg.length c5] 22)).alloc (.cells (madeCells #[.int .i64 0] l.length) 3)
  have v13 := (Blk.new w4 22 #[.slice A5 bg.length c5]).alloc (.cells (madeCells #[.int .i64 0] l.length) 3)
  have vO : OwnI ((w4.alloc (.cells #[.slice A5 bg.length c5] 22)).alloc (.cells (madeCells #[.int .i64 0] l.length) 3)) (w4.heap.size + 1) (.slice (some ⟨w4.heap.size + 1, 0, none⟩) 0 l.length) [] := by
    have := World.ownsRow_made (base := w4.heap.size + 1) (w4.alloc (.cells #[.slice A5 bg.length c5] 22)) (madeCells #[.int .i64 0] l.length) (e := 3) (size := 1) l.length (by simp) (by unfold maxLen; omega) (by rw [size_madeCells]; simp)
    simp only [World.size_alloc] at this
    exact this
  have hB8 : Below w.heap.size w ((w4.alloc (.cells #[.slice A5 bg.length c5] 22)).alloc (.cells (madeCells #[.int .i64 0] l.length) 3)) := (hB7.alloc hB7.size _).alloc (by simp; have := hB7.size; omega) _
  have k7 := vA.cell 0
  have f7 := vA.frozen 0
  simp only [List.getElem?_toArray, List.getElem?_cons_zero] at k7
  gi_wp2_with (refine ⟨trivial, ?_⟩; gi_at_call 50; refine (callsIn_wide.2 (segments_any _ _ ⟨_, _, _, rfl⟩ ⟨_, _, _, rfl⟩ _)).mono ?_; rintro e w' ⟨rfl, rfl⟩)
  obtain ⟨W0, hW0⟩ : ∃ W0, ((((w4.alloc (.cells #[.slice A5 bg.length c5] 22)).alloc (.cells (madeCells #[.int .i64 0] l.length) 3)).setCell ⟨w.heap.size, 0, none⟩ (.slice (some ⟨w4.heap.size + 1, 0, none⟩) 0 l.length)).alloc (.cells #[.slice A l.length c] 22)).alloc (.cells #[.slice A2 lens.length c2] 22) = W0 := ⟨_, rfl⟩
  have hlt4 : w.heap.size < w4.heap.size := uA.lt
  have n13 := ((v13.far (p := ⟨w.heap.size, 0, none⟩) (by show w4.heap.size ≠ w.heap.size; omega) (.slice (some ⟨w4.heap.size + 1, 0, none⟩) 0 l.length)).alloc (.cells #[.slice A l.length c] 22)).alloc (.cells #[.slice A2 lens.length c2] 22)
  have nL := (Blk.new (((w4.alloc (.cells #[.slice A5 bg.length c5] 22)).alloc (.cells (madeCells #[.int .i64 0] l.length) 3)).setCell ⟨w.heap.size, 0, none⟩ (.slice (some ⟨w4.heap.size + 1, 0, none⟩) 0 l.length)) 22 #[.slice A l.length c]).alloc (.cells #[.slice A2 lens.length c2] 22)
  have nS := Blk.new ((((w4.alloc (.cells #[.slice A5 bg.length c5] 22)).alloc (.cells (madeCells #[.int .i64 0] l.length) 3)).setCell ⟨w.heap.size, 0, none⟩ (.slice (some ⟨w4.heap.size + 1, 0, none⟩) 0 l.length)).alloc (.cells #[.slice A l.length c] 22)) 22 #[.slice A2 lens.length c2]
  have nO := ((vO.kept (grownBy_set _ ⟨w.heap.size, 0, none⟩ (.slice (some ⟨w4.heap.size + 1, 0, none⟩) 0 l.length)) (.inr (by simp [Value.ownBlock]; omega))).alloc (.cells #[.slice A l.length c] 22)).alloc (.cells #[.slice A2 lens.length c2] 22)
  have hb45 : Below w4.heap.size w4 ((w4.alloc (.cells #[.slice A5 bg.length c5] 22)).alloc (.cells (madeCells #[.int .i64 0] l.length) 3)) := ((Below.refl _ _).alloc (Nat.le_refl _) _).alloc (by simp) _
  have nB := ((below_set (.slice (some ⟨w4.heap.size + 1, 0, none⟩) 0 l.length) uA hlt4 hb45).alloc (by simp; omega) (.cells #[.slice A l.length c] 22)).alloc (by simp; omega) (.cells #[.slice A2 lens.length c2] 22)
  have nsz : w4.heap.size + 4 ≤ W0.heap.size := by rw [← hW0]; simp
  simp only [World.size_alloc, World.size_setCell] at nL nS
  rw [hW0] at n13 nL nS nO nB ⊢
  have hl4 : Sl w4 A l := h.step hB7
  obtain ⟨bl, hbl1, hbl2⟩ : ∃ bl, (bl = w4.heap.size + 1 + 1 ∨ (bl < w4.heap.size ∧ bl ≠ w.heap.size)) ∧ (0 < lens.length → ∃ off, A2 = some ⟨bl, off, none⟩ ∧ ∀ j, j < lens.length → W0.cell? ⟨bl, off + j, none⟩ = some (.int .i64 (nth lens j))) := by
    rcases Nat.eq_zero_or_pos lens.length with h0 | h0
    · exact ⟨_, .inl rfl, fun hh => by omega⟩
    · have hSS := (hlens4.farBox uA (.slice (some ⟨w4.heap.size + 1, 0, none⟩) 0 l.length)).below nB (by simp)
      obtain ⟨b, off, e, hb, hcs⟩ := hlens4 h0
      obtain ⟨b', off', e', hb', hcs'⟩ := hSS h0
      rw [e] at e'
      cases e'
      refine ⟨b, .inr ⟨hb, ?_⟩, fun _ => ⟨off, e, hcs'⟩⟩
      rintro rfl
      have h1 := hcs 0 h0
      rw [uA.cell] at h1
      cases off <;> simp at h1
  clear hW0 hmk k7 f7 vA v9 vg v13 vO hb45 hB8 C1 hlens4
  refine wpIn_rangeFunc_ownH rfl (by omega) (gf := 81) (lb := #[.pointer (some ⟨w4.heap.size + 1 + 1 + 1, 0, none⟩), .pointer (some ⟨w4.heap.size + 1 + 1, 0, none⟩)]) rfl trivial (enters_of Tryz.func81 (by kernel_rfl) rfl)
    (segs_stops2 Fence.wide (8 - 1) trivial rfl (by omega) (w4.heap.size + 1 + 1) (w4.heap.size + 1 + 1 + 1) bl c2 c A A2 l lens HZ.out hcl W0 (by omega) (by omega) (nS.cell 0) nL hbl2) kpD_t (kpD_b (by omega) (by omega)) (Below.refl _ _) (fun _ => rfl)
    (fun pre W => ∃ v, OwnI W (w4.heap.size + 1) v (blF (doN op) bg l lens pre) ∧ Below w4.heap.size (w4.setCell ⟨w.heap.size, 0, none⟩ v) W ∧ Blk W w4.heap.size 22 #[.slice A5 bg.length c5] ∧ Blk W (w4.heap.size + 1 + 1) 22 #[.slice A l.length c] ∧ w4.heap.size + 4 ≤ W.heap.size)
    (fun _ _ _ => False)
    (fun _ X Y row hs hg hr => by
      obtain ⟨v, g1, g2, g3, g4, g5⟩ := hs
      exact ⟨v, g1.aside hg hr, below_aside g2 (by simp) (by omega) hg hr, g3.aside hg hr, g4.aside hg hr, Nat.le_trans g5 hg.size⟩)
    (fun _ _ _ _ _ hs _ _ => hs)
    ⟨_, nO, nB, n13, nL, nsz⟩
    (fun x' a' W => a' = ⟨#[.int .i64 op, .slice A l.length c, .int .i64 (m : Int), undef, undef, undef, .slice A4 sums.length c4, .pointer (some ⟨w.heap.size, 0, none⟩), .int .i64 0, .pointer (some ⟨w1.heap.size, 0, none⟩), .int .i64 0, .slice A2 lens.length c2, .slice A3 (spO [(l.length : Int)] m).length c3, .pointer (some ⟨w4.heap.size, 0, none⟩), .int .i64 ((x'.val : Nat) : Int), .slice (sgA A (ofs lens x'.val) (ofs lens (x'.val + 1))) (ofs lens (x'.val + 1) - ofs lens x'.val) (ofs lens (x'.val + 1) - ofs lens x'.val), .tuple #[.agg #[.int .i64 (neN op), .func (.func 87) #[] #[.pointer (some ⟨g, 0, none⟩)]], .int .i64 0], .int .i64 op, .slice A l.length c, .slice (some ⟨w.heap.size + 1, 0, none⟩) 1 1, .tuple #[.agg #[.int .i64 (neN op), .func (.func 87) #[] #[.pointer (some ⟨g, 0, none⟩)]], .int .i64 0], .agg #[.int .i64 (neN op), .func (.func 87) #[] #[.pointer (some ⟨g, 0, none⟩)]], .int .i64 0, .int .i64 0, .bool false, undef, .tuple #[.slice A2 lens.length c2, .slice A3 (spO [(l.length : Int)] m).length c3, .int .i64 0], .slice A l.length c, .int .i64 (l.length : Int), .slice (some ⟨w1.heap.size + 1, 0, none⟩) 1 1, .int .i64 (m : Int), .tuple #[.slice A2 lens.length c2, .slice A3 (spO [(l.length : Int)] m).length c3, .int .i64 0], .slice A2 lens.length c2, .slice A3 (spO [(l.length : Int)] m).length c3, .int .i64 0, .int .i64 0, .bool false, undef, .agg #[.int .i64 (neN op), .func (.func 87) #[] #[.pointer (some ⟨g, 0, none⟩)]], .agg #[.int .i64 (neN op), .func (.func 87) #[] #[.pointer (some ⟨g, 0, none⟩)], .func (.func 30) #[] #[]], .slice A l.length c, .slice A2 lens.length c2, .slice A4 sums.length c4, .agg #[.int .i64 (neN op), .func (.func 87) #[] #[.pointer (some ⟨g, 0, none⟩)]], .agg #[.int .i64 (neN op), .func (.func 87) #[] #[.pointer (some ⟨g, 0, none⟩)], .func (.func 33) #[] #[]], .slice A4 sums.length c4, .slice A4 sums.length c4, .int .i64 (sums.length : Int), .slice (some ⟨w3.heap.size, 0, none⟩) 1 1, .slice A5 bg.length c5, .slice A l.length c, .int .i64 (l.length : Int), .slice (some ⟨w4.heap.size + 1, 0, none⟩) 0 l.length, .slice A l.length c, .slice A2 lens.length c2, .func (.func 81) #[] #[.pointer (some ⟨w4.heap.size + 1 + 1 + 1, 0, none⟩), .pointer (some ⟨w4.heap.size + 1 + 1, 0, none⟩)], .int .i64 ((x'.val : Nat) : Int), .slice (sgA A (ofs lens x'.val) (ofs lens (x'.val + 1))) (ofs lens (x'.val + 1) - ofs lens x'.val) (ofs lens (x'.val + 1) - ofs lens x'.val), undef, undef, undef, undef, undef, undef, undef, undef, undef, undef, undef, undef], []⟩)
    (fun x a' _ X Y row hs hg hr => hs)
    ?assign ?body ?done ?stop
  case assign =>
    rintro i pre x' W K hI hK
    simp only [segV]
    gi_wp2
    exact hK _ _ (KeepsFrom.refl _ _) (kpD_refl _ _ _) hI rfl
  case body =>
    rintro i pre x' a' W hl' ⟨r, hr⟩ ⟨v, g2, gB, g9, gL, g5⟩ rfl hlt
    have hx := x'.isLt
    obtain ⟨e1, e2, e3, e4, e5⟩ := HZ.out.step x'.val hx
    have hsegL := seg_len HZ.out x'.val hx
    have hAW : Sl W A l := (hl4.farBox uA v).below gB (by simp)
    have hS5 : Sl W A5 bg := ((hs5).farBox uA v).below gB (by simp)
    have hUb : Blk W w.heap.size 22 #[v] := by have := (uA.set_ 0 v).below gB hlt4; simpa using this
    have h1b : w1.heap.size ≠ w.heap.size := by omega
    have hgb' : g ≠ w.heap.size := by omega
    have hU9 : Blk W w1.heap.size 58 #[.int .i64 (neN op), .func (.func 87) #[] #[.pointer (some ⟨g, 0, none⟩)]] := (u9.far (p := ⟨w.heap.size, 0, none⟩) (by exact h1b) v).below gB (by have := u9.lt; simpa using this)
    have hUg : Blk W g 3 #[.int .i64 op] := (ug.far (p := ⟨w.heap.size, 0, none⟩) hgb' v).below gB (by have := ug.lt; simpa using this)
    have hbx : x'.val < bg.length := by rw [HBL.out, HSL.out]; exact hx
    obtain ⟨b5, o5, rfl, hb5, hc5'⟩ := hS5.at_ hbx
    have hsl := sl_sg hAW e2 e3
    have hsl : Sl W (sgA A (ofs lens x'.val) (ofs lens (x'.val + 1))) (sgL l lens x'.val) := hsl
    have HSN := Lib.hid (blF_snoc (doN op) bg l lens pre x')
    have HKL := blF_room (doN op) bg l lens hl hLn pre hlt x'
    have hsm := sg_le l lens x'.val
    obtain ⟨sA, hsA⟩ : ∃ sA, sgA A (ofs lens x'.val) (ofs lens (x'.val + 1)) = sA := ⟨_, rfl⟩
    obtain ⟨s, hs⟩ : ∃ s, sgL l lens x'.val = s := ⟨_, rfl⟩
    obtain ⟨z, hz'⟩ : ∃ z, nth bg x'.val = z := ⟨_, rfl⟩
    rw [hs] at hsegL hsl HSN HKL hsm
    rw [hz'] at hc5' HSN HKL
    have hin := inL_length (doN op) z s
    have hlast := inL_ahead (doN op) z s
    rw [← hsegL, hsA]
    rw [hsA] at hsl
    obtain ⟨T, hT⟩ : ∃ T, inL (doN op) z s = T := ⟨_, rfl⟩
    rw [hT] at hin hlast
    obtain ⟨kp, hkp⟩ : ∃ kp, ahL (doN op) z s = kp := ⟨_, rfl⟩
    rw [hkp] at HSN HKL hlast
    have CF := fun W' (hb : Blk W' g 3 #[.int .i64 op]) (hS : Sl W' sA s) => from_any op z (neN op) g sA s.length s W' hb hS (by omega)
    rw [hT] at CF
    have CF := Lib.hid CF
    have HIN := Lib.hid hin
    have HLA := Lib.hid hlast
    have HKL := Lib.hid HKL
    have q1 : (0 : Int) ≤ ((x'.val : Nat) : Int) := by omega
    have q2 : ((x'.val : Nat) : Int) < (bg.length : Int) := by omega
    have n9 : w4.heap.size < W.heap.size := by omega
    have n1 : w1.heap.size < W.heap.size := hU9.lt
    have n0 : w.heap.size < W.heap.size := hUb.lt
    have cU := hUb.cell 0
    have c90 := hU9.cell 0
    have c91 := hU9.cell 1
    have c13 := g9.cell 0
    simp at cU c90 c91 c13
    obtain ⟨xv, hxv⟩ : ∃ xv, x'.val = xv := ⟨_, rfl⟩
    rw [hxv] at q1 q2 hc5' ⊢
    clear e1 e2 e3 e4 e5 hsegL hs hsA hT hkp hin hlast hz'
    gi_wp2
    refine wpIn_region_mix' (fun W' => Below W.heap.size W W') [false, false, false, false, false, false, false, true, true] (fun _ => trivial) rfl (by kernel_rfl) (by kernel_rfl) (Below.refl _ _).drew ?_
    simp only [mixT, mixH, mixD]
    have LT : ∀ W', Below W.heap.size W W' → W'.cell? ⟨w.heap.size, 0, none⟩ = some v ∧ W'.cell? ⟨w1.heap.size, 0, none⟩ = some (.int .i64 (neN op)) ∧ W'.cell? ⟨w1.heap.size, 1, none⟩ = some (.func (.func 87) #[] #[.pointer (some ⟨g, 0, none⟩)]) ∧ W'.cell? ⟨w4.heap.size, 0, none⟩ = some (.slice (some ⟨b5, o5, none⟩) bg.length c5) ∧ W'.cell? ⟨b5, o5 + xv, none⟩ = some (.int .i64 z) := fun W' hW =>
      ⟨(hW.cell (p := ⟨w.heap.size, 0, none⟩) n0).trans cU, (hW.cell (p := ⟨w1.heap.size, 0, none⟩) n1).trans c90, (hW.cell (p := ⟨w1.heap.size, 1, none⟩) n1).trans c91, (hW.cell (p := ⟨w4.heap.size, 0, none⟩) n9).trans c13, (hW.cell (p := ⟨b5, o5 + xv, none⟩) hb5).trans hc5'⟩
    iterate 7 (refine wpLts_light ?_ (fun W' hW => ?_) ?_; rotate_left; (obtain ⟨p0, p1, p2, p3, p4⟩ := LT W' hW; go_simp; try with_reducible rfl); simp only [Act.put, List.setIfInBounds_toArray, List.set_cons_zero, List.set_cons_succ])
    refine wpLts_heavy (wpLts_heavy (wpLts_nil ?_))
    refine wpHvs_call 51 #[.agg #[.int .i64 (neN op), .func (.func 87) #[] #[.pointer (some ⟨g, 0, none⟩)]], .int .i64 z, .slice sA s.length s.length] (by go_simp) ?_
    refine (CallsIn.inRound i (callsIn_wide.2 (CF.out W.drew hUg.drew hsl))).mono ?_
    rintro e W1 ⟨A1, c1, rfl, hc1, hs1, hBc'⟩
    have hBW : Below W.heap.size W W1 := (Below.refl _ W).drew.trans hBc'
    refine ⟨_, rfl, hBW, ?_⟩
    simp only [Act.put, List.setIfInBounds_toArray, List.set_cons_zero, List.set_cons_succ]
    refine wpHvs_call 33 #[.slice A1 T.length c1] (by go_simp) ?_
    have C2 := ahead_any A1 c1 s.length T W1 hs1 HIN.out hc1 (by omega)
    rw [HLA.out] at C2
    refine (CallsIn.inRound i (callsIn_wide.2 C2)).mono ?_
    rintro e W2 ⟨b2', o2, c2', rfl, hc2', hs2', rfl⟩
    refine ⟨_, rfl, hBW, ?_⟩
    simp only [Act.put, List.setIfInBounds_toArray, List.set_cons_zero, List.set_cons_succ]
    refine wpHvs_nil ?_
    have hown := g2.below hBW (Nat.le_refl _)
    have hsz1 := hBW.size
    have kU := hUb.below hBW n0
    have k9 := g9.below hBW n9
    have kL := gL.below hBW (by omega)
    have hpl := HKL.out
    gi_wp2_with (gi_at_builtin; refine wpListIn_append_own _ rfl _ _ 22 rfl (w4.heap.size + 1) 3 i0 (.int .i64 0) 1 8 Tryz.underlying22 hi hz0 hz1 hz2 rfl (by decide) _ _ _ rfl hown ⟨b2', o2, none⟩ kp.length c2' (kp.map (Value.int .i64)) rfl (by simp) (Sl.news hs2') (by intro u hu; obtain ⟨q, _, rfl⟩ := List.mem_map.1 hu; rfl) (by unfold maxLen; omega) (by omega) (by omega) ?_; intro v' w2 hown' hgrow _; have hgr : World.grownBy _ w2 v.ownBlock := hgrow; have ho2 := OwnI.apps hown'; obtain ⟨A3, c3', ev, _, _⟩ := ho2.form; obtain ⟨N, hN⟩ : ∃ N, (blF (doN op) bg l lens pre ++ kp).length = N := ⟨_, rfl⟩; rw [hN] at ev; subst ev; clear hN hown' hgrow; have kkU := kU.grown hgr (kU.not_row (by decide) hown); have ccU := kkU.cell 0; have ffU := kkU.frozen 0; simp at ccU)
    have hB3 : Below w4.heap.size (w4.setCell ⟨w.heap.size, 0, none⟩ v) w2 := (gB.trans (hBW.mono (by omega))).grown hgr (by omega) (fun k e => by have := (hown.lt k e).1; omega)
    have hB4' := below_reset (v' := .slice A3 N c3') uA hlt4 hB3
    have hO3 := ho2.kept (grownBy_set w2 ⟨w.heap.size, 0, none⟩ (.slice A3 N c3')) (.inr (fun e => by have := (ho2.lt _ e).1; simp at this; omega))
    have kk9 := (k9.grown hgr (k9.not_row (by decide) hown)).far (p := ⟨w.heap.size, 0, none⟩) (by show w4.heap.size ≠ w.heap.size; omega) (.slice A3 N c3')
    have kkL := (kL.grown hgr (kL.not_row (by decide) hown)).far (p := ⟨w.heap.size, 0, none⟩) (by show w4.heap.size + 1 + 1 ≠ w.heap.size; omega) (.slice A3 N c3')
    have hoth := ((below_others hBW).trans (KeepsOthers.of_grownBy hgr (fun j o ej hj => by
      rcases hown.2 with ⟨rfl, _⟩ | ⟨q, cap, cur, rfl, _, hgb, _⟩
      · simp [Value.ownBlock] at ej
      · obtain rfl : q = j := by simpa [Value.ownBlock] using ej
        rw [hgb] at hj; cases hj; rfl))).trans (KeepsOthers.setCell w2 ⟨w.heap.size, 0, none⟩ (.slice A3 N c3'))
    have hKp : KpD bl (w4.heap.size + 1 + 1) W (w2.setCell ⟨w.heap.size, 0, none⟩ (.slice A3 N c3')) := by
      have hL2 := kkL.trans (show W.heap[w4.heap.size + 1 + 1]? = _ from gL).symm
      rcases hbl1 with rfl | ⟨hb1, hb2⟩
      · exact ⟨hL2, hL2⟩
      · exact ⟨(hB4'.block bl hb1).trans ((Below.heap_setCell _ _ _ _ hb2).trans ((Below.heap_setCell _ _ _ _ hb2).symm.trans (gB.block bl hb1).symm)), hL2⟩
    exact ⟨hoth.from _, hKp, _, by rw [HSN.out]; exact hO3, hB4', kk9, kkL, by have := hgr.size; simp; omega⟩
  case done =>
    rintro D ys W hD rfl ⟨v, g2, gB, g9, gL, g5⟩ hK
    rw [blF_all (doN op) (neN op)] at g2
    have g2' := g2.aside (grownBy_putObj' W D (.deferred none)) (B := 0) (fun r e => by cases e; exact ⟨Nat.zero_le _, _, hK, rfl⟩)
    have gB' := below_aside (B := w4.heap.size) gB (by simp) (Nat.le_refl _) (grownBy_putObj' W D (.deferred none)) (fun r e => by cases e; exact ⟨by omega, _, hK, rfl⟩)
    have hUb : Blk W w.heap.size 22 #[v] := by have := (uA.set_ 0 v).below gB hlt4; simpa using this
    obtain ⟨A3', c3', rfl, hc3, _, hA3, hs3⟩ := g2'.form3
    have cU := hUb.cell 0
    simp at cU
    have fU := hUb.frozen 0
    have hfo : Tryz.prog.follows .mixedOrders = true := by kernel_rfl
    gi_wp2
    first | (gi_region_o) | fail
    gi_wp2
    obtain ⟨L, hL⟩ : ∃ L, blK (doN op) (neN op) bg l lens lens.length = L := ⟨_, rfl⟩
    rw [hL] at hs3 hc3 hA3 ⊢
    have HL2 := Lib.hid hL
    have gB : Below w4.heap.size (w4.setCell ⟨w.heap.size, 0, none⟩ (.slice A3' L.length c3')) W := by rw [← hL]; exact gB
    have g2 : OwnI W (w4.heap.size + 1) (.slice A3' L.length c3') L := by rw [← hL]; exact g2
    have hDn : D ≠ w.heap.size := by omega
    have hK' : (W.setCell ⟨w.heap.size, 0, none⟩ (.slice A3' L.length c3')).drew.heap[D]? = some (.deferred (some [])) := (Below.heap_setCell W ⟨w.heap.size, 0, none⟩ _ D hDn).trans hK
    have hBF := below_aside (B := w4.heap.size) (below_reset (v' := .slice A3' L.length c3') uA hlt4 gB).drew (by simp) (Nat.le_refl _) (grownBy_putObj' _ D (.deferred none)) (fun r e => by cases e; exact ⟨by omega, _, hK', rfl⟩)
    have gO := ((g2.kept (grownBy_set W ⟨w.heap.size, 0, none⟩ (.slice A3' L.length c3')) (.inr (fun e => by have := (g2.lt _ e).1; simp at this; omega))).drew).aside (grownBy_putObj' _ D (.deferred none)) (B := 0) (fun r e => by cases e; exact ⟨Nat.zero_le _, _, hK', rfl⟩)
    have hUF : Blk ((W.setCell ⟨w.heap.size, 0, none⟩ (.slice A3' L.length c3')).drew.putObj D (.deferred none)) w.heap.size 22 #[.slice A3' L.length c3'] := by have := (uA.set_ 0 (.slice A3' L.length c3')).below hBF hlt4; simpa using this
    have hUc := hUF.cell 0
    simp only [List.getElem?_toArray, List.getElem?_cons_zero] at hUc
    have hsF := (hsum4.farBox uA (.slice A3' L.length c3')).below hBF (by simp)
    have hBz := (hB7.setCell (p := ⟨w.heap.size, 0, none⟩) (Nat.le_refl _) (.slice A3' L.length c3')).trans (hBF.mono (Nat.le_of_lt hlt4))
    obtain ⟨A3x, c3x, ex, hcx, hsx⟩ := gO.form
    cases ex
    refine ⟨by simp, .inl ⟨_, _, rfl, run_takeDeferred hK', ?_⟩⟩
    refine ⟨.tuple #[.slice A4 sums.length c4, .slice A3' L.length c3', .int .i64 0], by simp [results, Tryz.f17, go_sem, hUc], ?_⟩
    rw [HBG.out, HL2.out]
    exact ⟨A4, c4, A3', c3', rfl, hc4, hc3, hsF, hsx, hBz⟩
  case stop =>
    rintro D c pre W _ _ h _
    exact h.elim
end Go.Proofs.YtecpanppnljkhaaGreatDoor
