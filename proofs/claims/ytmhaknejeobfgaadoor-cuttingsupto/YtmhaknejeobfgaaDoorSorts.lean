/- The row that is being sorted: what it holds, what an exchange makes of it, and what the comparing closure answers meanwhile. slices.swapRangeCmpFunc and slices.rotateCmpFunc at runes: blocks change places. slices.rotateCmpFunc at runes: two blocks side by side change places. slices.insertionSortCmpFunc at runes, comparing by class: the stable sort of a part of the row. slices.symMergeCmpFunc at runes, comparing by class: where the first block is one element. slices.symMergeCmpFunc at runes, comparing by class: where the second block is one element. Plain lists: the search of slices.symMergeCmpFunc's general case, and what its end gives. slices.symMergeCmpFunc at runes, comparing by class: two sorted blocks side by side become their stable merge. slices.stableCmpFunc and slices.SortStableFunc at runes, comparing by class: the row's stable sort, whatever its length up to 2^40. slices.stableCmpFunc and slices.SortStableFunc at runes, comparing by class: the row's stable sort, whatever its length up to 2^40. slices.SortStableFunc at a slice without anything in it: nothing turns. -/
import Derived.Test.YtmhaknejeobfgaaDoorTables
import Derived.Test.YtmhaknejeobfgaaDoorBase
import Derived.Deep.QuietTactic
import Derived.BigQuiet
import Derived.BigRegion
import Derived.Lib.Small
import Derived.Deep.DeepCutAuto

/- SortRow. -/
namespace Go.Proofs.YtmhaknejeobfgaaDoor
open Go.RowKit Go.Proofs.YtmhaknejeobfgaaDoor.Stable
attribute [local go_sem ↓] Go.wp_at_zero Go.wp_at_succ

/-- The row at off of the block blk holds l; all else that was there in w0 is as it was. -/
def SO (w0 : World) (blk off : Nat) (l : List Int) (W : World) : Prop :=
  Fr (fun k => k = blk) w0 W ∧ ∃ cur0 cur e, w0.heap[blk]? = some (.cells cur0 e (0, 0)) ∧ W.heap[blk]? = some (.cells cur e (0, 0)) ∧ cur.size = cur0.size ∧ (∀ i, i < off ∨ off + l.length ≤ i → cur[i]? = cur0[i]?) ∧ ∀ j, j < l.length → cur[off + j]? = some (.int .i32 (l[j]?.getD 0))

section
variable {w0 W : World} {blk off bx : Nat} {l : List Int}

theorem SO.start {cur : Array Value} {e : TypeId} (h : w0.heap[blk]? = some (.cells cur e (0, 0))) (hc : ∀ j, j < l.length → cur[off + j]? = some (.int .i32 (l[j]?.getD 0))) : SO w0 blk off l w0 :=
  ⟨Fr.refl _ _, cur, cur, e, h, h, rfl, fun _ _ => rfl, hc⟩

theorem SO.cell (h : SO w0 blk off l W) {j : Nat} (hj : j < l.length) : W.cell? ⟨blk, off + j, none⟩ = some (.int .i32 (l[j]?.getD 0)) := by
  obtain ⟨_, cur0, cur, e, h0, h1, h2, h3, h4⟩ := h
  exact cell_of h1 (h4 j hj)

theorem SO.frozen (h : SO w0 blk off l W) (j : Nat) : W.frozen? ⟨blk, j, none⟩ = false := by
  obtain ⟨_, cur0, cur, e, h0, h1, h2, h3, h4⟩ := h
  exact frozen_of h1 j

theorem SO.drewN (h : SO w0 blk off l W) (q : Nat) : SO w0 blk off l (W.drewN q) := ⟨h.1.drewN q, h.2⟩

theorem SO.set (h : SO w0 blk off l W) {j : Nat} (hj : j < l.length) (x : Int) : SO w0 blk off (l.set j x) (W.setCell ⟨blk, off + j, none⟩ (.int .i32 x)) := by
  obtain ⟨hf, cur0, cur, e, h0, h1, h2, h3, h4⟩ := h
  have hlt : off + j < cur.size := (Array.getElem?_eq_some_iff.1 (h4 j hj)).1
  refine ⟨hf.setCell _ _ (fun _ => rfl), cur0, _, e, h0, set_of h1 _ _, by simpa using h2, ?_, ?_⟩
  · intro i hi
    rw [List.length_set] at hi
    rw [get_set_other _ (by omega)]
    exact h3 i hi
  · intro i hi
    rw [List.length_set] at hi
    by_cases e : i = j
    · subst e
      rw [get_set_same _ hlt]
      simp [hi]
    · rw [get_set_other _ (by omega), h4 i hi, List.getElem?_set_ne (fun h => e h.symm)]

/-- What the closure that compares by class is bound to, in every world of the sort. -/
structure CmpAt (w0 : World) (blk bx : Nat) : Prop where
  reads : ∃ bs os B hi, w0.cell? ⟨bx, 0, none⟩ = some (.pointer (some ⟨bs, os, none⟩)) ∧ w0.cell? ⟨bs, os, none⟩ = some (.map (some B)) ∧ TabIn w0 hi B ∧ hi ≤ blk ∧ bx ≠ blk ∧ bs ≠ blk ∧ bx < w0.heap.size ∧ bs < w0.heap.size

def inRange (x : Int) : Prop := -2147483648 ≤ x ∧ x ≤ 2147483647

end

end Go.Proofs.YtmhaknejeobfgaaDoor

/- SortSwap. -/
namespace Go.Proofs.YtmhaknejeobfgaaDoor
open Go.RowKit Go.Proofs.YtmhaknejeobfgaaDoor.Stable
attribute [local go_sem ↓] Go.wp_at_zero Go.wp_at_succ

theorem set_two (P Q R : List Int) (x y : Int) : ((P ++ x :: (Q ++ y :: R)).set P.length y).set (P.length + 1 + Q.length) x = P ++ y :: (Q ++ x :: R) := by
  rw [List.set_append_right _ _ (by omega), show P.length - P.length = 0 by omega, List.set_cons_zero]
  have h2 : P ++ y :: (Q ++ y :: R) = (P ++ y :: Q) ++ y :: R := by simp
  rw [h2, List.set_append_right _ _ (by simp; omega)]
  rw [show P.length + 1 + Q.length - (P ++ y :: Q).length = 0 by simp; omega, List.set_cons_zero]
  simp

theorem get_first (P Q : List Int) (x : Int) : (P ++ x :: Q)[P.length]?.getD 0 = x := by simp

theorem get_second (P Q R : List Int) (x y : Int) : (P ++ x :: (Q ++ y :: R))[P.length + 1 + Q.length]?.getD 0 = y := by
  have : P ++ x :: (Q ++ y :: R) = (P ++ x :: Q) ++ y :: R := by simp
  rw [this, show P.length + 1 + Q.length = (P ++ x :: Q).length by simp; omega]
  exact get_first _ _ _

variable {w0 W : World} {blk off : Nat}

/-- The two cells of an exchange, and the world behind it. -/
theorem SO.exchange {P Q R : List Int} {x y : Int} {p1 p2 : Nat} (h : SO w0 blk off (P ++ x :: (Q ++ y :: R)) W) (hp1 : p1 = P.length) (hp2 : p2 = P.length + 1 + Q.length) :
    W.cell? ⟨blk, off + p1, none⟩ = some (.int .i32 x) ∧ W.cell? ⟨blk, off + p2, none⟩ = some (.int .i32 y) ∧ (W.setCell ⟨blk, off + p1, none⟩ (.int .i32 y)).cell? ⟨blk, off + p2, none⟩ = some (.int .i32 y) ∧ (W.setCell ⟨blk, off + p2, none⟩ (.int .i32 x)).cell? ⟨blk, off + p1, none⟩ = some (.int .i32 x) ∧ W.frozen? ⟨blk, off + p1, none⟩ = false ∧ W.frozen? ⟨blk, off + p2, none⟩ = false ∧
      SO w0 blk off (P ++ y :: (Q ++ x :: R)) ((W.setCell ⟨blk, off + p1, none⟩ (.int .i32 y)).setCell ⟨blk, off + p2, none⟩ (.int .i32 x)) ∧ SO w0 blk off (P ++ y :: (Q ++ x :: R)) ((W.setCell ⟨blk, off + p2, none⟩ (.int .i32 x)).setCell ⟨blk, off + p1, none⟩ (.int .i32 y)) := by
  subst hp1 hp2
  have k1 : W.cell? ⟨blk, off + P.length, none⟩ = some (.int .i32 x) := by rw [h.cell (by simp), get_first]
  have k2 : W.cell? ⟨blk, off + (P.length + 1 + Q.length), none⟩ = some (.int .i32 y) := by rw [h.cell (by simp; omega), get_second]
  refine ⟨k1, k2, (World.cell?_setCell_other _ _ _ _ (by intro e; injection e; omega)).trans k2, (World.cell?_setCell_other _ _ _ _ (by intro e; injection e; omega)).trans k1, h.frozen _, h.frozen _, ?_, ?_⟩
  · have h2 := (h.set (j := P.length) (by simp) y).set (j := P.length + 1 + Q.length) (by simp; omega) x
    rw [set_two] at h2
    exact h2
  · have h2 := (h.set (j := P.length + 1 + Q.length) (by simp; omega) x).set (j := P.length) (by simp) y
    rw [List.set_comm _ _ (by omega), set_two] at h2
    exact h2

/-- The row while the exchange goes on. -/
def swapped (L A M B R : List Int) (i : Nat) : List Int := L ++ (B.take i ++ (A.drop i ++ (M ++ (A.take i ++ (B.drop i ++ R)))))

theorem swapped_step (L A M B R : List Int) (i : Nat) (hA : i < A.length) (hB : i < B.length) : ∃ P Q R' x y, swapped L A M B R i = P ++ x :: (Q ++ y :: R') ∧ swapped L A M B R (i + 1) = P ++ y :: (Q ++ x :: R') ∧ P.length = L.length + i ∧ P.length + 1 + Q.length = L.length + A.length + M.length + i := by
  refine ⟨L ++ B.take i, A.drop (i + 1) ++ (M ++ A.take i), B.drop (i + 1) ++ R, A[i], B[i], ?_, ?_, ?_, ?_⟩
  · unfold swapped
    rw [List.drop_eq_getElem_cons hA, List.drop_eq_getElem_cons hB]
    simp only [List.append_assoc, List.cons_append]
  · unfold swapped
    rw [List.take_succ_eq_append_getElem hA, List.take_succ_eq_append_getElem hB]
    simp only [List.append_assoc, List.cons_append, List.nil_append]
  · simp; omega
  · simp; omega


end Go.Proofs.YtmhaknejeobfgaaDoor

/- SortRot. -/
namespace Go.Proofs.YtmhaknejeobfgaaDoor
open Go.RowKit Go.Proofs.YtmhaknejeobfgaaDoor.Stable
attribute [local go_sem ↓] Go.wp_at_zero Go.wp_at_succ

variable {w0 W : World} {blk off : Nat}

/-- The row while it is turned: i ahead of the middle and j behind it are still to change places. -/
def RotAt (T : List Int) (N m i j : Nat) (w0 : World) (blk off : Nat) (W : World) : Prop :=
  ∃ L X Y R : List Int, X.length = i ∧ Y.length = j ∧ L.length + i = m ∧ (L ++ (X ++ (Y ++ R))).length = N ∧ L ++ (Y ++ (X ++ R)) = T ∧ SO w0 blk off (L ++ (X ++ (Y ++ R))) W


end Go.Proofs.YtmhaknejeobfgaaDoor

/- SortIns. -/
namespace Go.Proofs.YtmhaknejeobfgaaDoor
open Go.RowKit Go.Proofs.YtmhaknejeobfgaaDoor.Stable
attribute [local go_sem ↓] Go.wp_at_zero Go.wp_at_succ

variable {w0 W : World} {blk off bx : Nat}

theorem compare_lt {x y : Int} : Lib.compareInt x y < 0 ↔ x < y := by
  unfold Lib.compareInt
  split
  · simp_all
  · split <;> simp_all

/-- x goes down among S: what stands ahead of it, and what it has passed. -/
def InsAt (L S : List Int) (x : Int) (R : List Int) (j : Nat) (w0 : World) (blk off : Nat) (W : World) : Prop :=
  ∃ S1 S2, S1 ++ S2 = S ∧ j = L.length + S1.length ∧ (∀ z ∈ S2, clsOf x < clsOf z) ∧ SO w0 blk off (L ++ (S1 ++ x :: (S2 ++ R))) W

/-- The first part is sorted. -/
def OutAt (L X R : List Int) (i : Nat) (w0 : World) (blk off : Nat) (W : World) : Prop :=
  ∃ A Y, A ++ Y = X ∧ i = L.length + A.length ∧ SO w0 blk off (L ++ (sortC clsOf A ++ (Y ++ R))) W

theorem OutAt.next {L X R : List Int} {i : Nat} (h : OutAt L X R i w0 blk off W) (hi : i < L.length + X.length) :
    ∃ A x Y, A ++ x :: Y = X ∧ i = L.length + A.length ∧ InsAt L (sortC clsOf A) x (Y ++ R) i w0 blk off W := by
  obtain ⟨A, Y, h1, h2, h3⟩ := h
  cases Y with
  | nil => rw [← h1] at hi; simp at hi; omega
  | cons x Y => exact ⟨A, x, Y, h1, h2, sortC clsOf A, [], by simp, by rw [sortC_length]; exact h2, by simp, by simpa using h3⟩

/-- x has come to its place. -/
theorem InsAt.done {L A R Y : List Int} {x : Int} {j : Nat} (h : InsAt L (sortC clsOf A) x (Y ++ R) j w0 blk off W) (hs : ∀ S1 y, j = L.length + S1.length + 1 → (∃ S2, S1 ++ [y] ++ S2 = sortC clsOf A) → clsOf y ≤ clsOf x) :
    SO w0 blk off (L ++ (sortC clsOf (A ++ [x]) ++ (Y ++ R))) W := by
  obtain ⟨S1, S2, h1, h2, h3, h4⟩ := h
  have hsort : SortedC clsOf (S1 ++ S2) := by rw [h1]; exact sortC_sorted _ _
  have hle : ∀ z ∈ S1, clsOf z ≤ clsOf x := by
    rcases List.eq_nil_or_concat S1 with rfl | ⟨S1', y, rfl⟩
    · simp
    · have hy := hs S1' y (by rw [h2]; simp; omega) ⟨S2, by rw [← h1]; simp⟩
      intro z hz
      obtain ⟨hs1, _, _⟩ := List.pairwise_append.1 hsort
      simp only [List.concat_eq_append] at hs1 hz
      obtain ⟨_, _, hs3⟩ := List.pairwise_append.1 hs1
      rcases List.mem_append.1 hz with hz | hz
      · have := hs3 z hz y (by simp); omega
      · have : z = y := by simpa using hz
        rw [this]; exact hy
  have hm := merge_one_right hsort hle h3
  have hc : sortC clsOf (S1 ++ S2 ++ [x]) = sortC clsOf (A ++ [x]) := sortC_congr (by
    rw [h1]
    exact (sortC_same clsOf A).symm.append (SameC.refl _ _))
  rw [hc] at hm
  rw [← hm]
  simpa using h4

theorem InsAt.split {L S R : List Int} {x : Int} {j : Nat} (h : InsAt L S x R j w0 blk off W) (hj : L.length < j) :
    ∃ S1 y S2, S1 ++ y :: S2 = S ∧ j = L.length + S1.length + 1 ∧ (∀ z ∈ S2, clsOf x < clsOf z) ∧ SO w0 blk off ((L ++ S1) ++ y :: ([] ++ x :: (S2 ++ R))) W := by
  obtain ⟨S1, S2, h1, h2, h3, h4⟩ := h
  rcases List.eq_nil_or_concat S1 with rfl | ⟨S1', y, rfl⟩
  · simp at h2; omega
  · refine ⟨S1', y, S2, by rw [← h1]; simp, by rw [h2]; simp; omega, h3, by simpa using h4⟩


end Go.Proofs.YtmhaknejeobfgaaDoor

/- SortSymA. -/
namespace Go.Proofs.YtmhaknejeobfgaaDoor
open Go.RowKit Go.Proofs.YtmhaknejeobfgaaDoor.Stable
attribute [local go_sem ↓] Go.wp_at_zero Go.wp_at_succ

variable {w0 W : World} {blk off bx : Nat}

/-- Between i and j of a sorted row the first place is sought whose element is not below x. -/
def FindAt (x : Int) (Y : List Int) (i j : Nat) : Prop := i ≤ j ∧ j ≤ Y.length ∧ (∀ y ∈ Y.take i, clsOf y < clsOf x) ∧ (∀ y ∈ Y.drop j, clsOf x ≤ clsOf y)

theorem FindAt.up {x : Int} {Y : List Int} {i j h : Nat} (H : FindAt x Y i j) (hs : SortedC clsOf Y) (hj : h < j) (_hi : i ≤ h) (hh : clsOf (Y[h]?.getD 0) < clsOf x) : FindAt x Y (h + 1) j := by
  obtain ⟨h1, h2, h3, h4⟩ := H
  refine ⟨by omega, h2, ?_, h4⟩
  intro y hy
  have hhY : h < Y.length := by omega
  rw [List.take_succ_eq_append_getElem hhY] at hy
  have e : Y[h]?.getD 0 = Y[h] := by simp [hhY]
  rw [e] at hh
  rcases List.mem_append.1 hy with hy | hy
  · have hY : Y = Y.take h ++ Y.drop h := (List.take_append_drop h Y).symm
    unfold SortedC at hs
    rw [hY] at hs
    obtain ⟨_, _, hs3⟩ := List.pairwise_append.1 hs
    have := hs3 y hy Y[h] (by rw [List.drop_eq_getElem_cons hhY]; exact List.mem_cons_self)
    omega
  · have : y = Y[h] := by simpa using hy
    rw [this]; exact hh

theorem FindAt.down {x : Int} {Y : List Int} {i j h : Nat} (H : FindAt x Y i j) (hs : SortedC clsOf Y) (hj : h < j) (hi : i ≤ h) (hh : ¬ clsOf (Y[h]?.getD 0) < clsOf x) : FindAt x Y i h := by
  obtain ⟨h1, h2, h3, h4⟩ := H
  refine ⟨hi, by omega, h3, ?_⟩
  intro y hy
  have hhY : h < Y.length := by omega
  have e : Y[h]?.getD 0 = Y[h] := by simp [hhY]
  rw [e] at hh
  rw [List.drop_eq_getElem_cons hhY] at hy
  rcases List.mem_cons.1 hy with rfl | hy
  · omega
  · have hY : Y = Y.take (h + 1) ++ Y.drop (h + 1) := (List.take_append_drop (h + 1) Y).symm
    unfold SortedC at hs
    rw [hY] at hs
    obtain ⟨_, _, hs3⟩ := List.pairwise_append.1 hs
    have := hs3 Y[h] (by rw [List.take_succ_eq_append_getElem hhY]; exact List.mem_append_right _ List.mem_cons_self) y hy
    omega

/-- x passes over Y1, one by one. -/
def PassAt (L : List Int) (x : Int) (Y1 R : List Int) (t : Nat) (w0 : World) (blk off : Nat) (W : World) : Prop := SO w0 blk off (L ++ (Y1.take t ++ x :: (Y1.drop t ++ R))) W

theorem PassAt.drewN {L : List Int} {x : Int} {Y1 R : List Int} {t : Nat} (h : PassAt L x Y1 R t w0 blk off W) (q : Nat) : PassAt L x Y1 R t w0 blk off (W.drewN q) := SO.drewN h q

theorem PassAt.step {L : List Int} {x : Int} {Y1 R : List Int} {t : Nat} (h : PassAt L x Y1 R t w0 blk off W) (ht : t < Y1.length) :
    ∃ y R', SO w0 blk off ((L ++ Y1.take t) ++ x :: ([] ++ y :: R')) W ∧ ∀ W', SO w0 blk off ((L ++ Y1.take t) ++ y :: ([] ++ x :: R')) W' → PassAt L x Y1 R (t + 1) w0 blk off W' := by
  refine ⟨Y1[t], Y1.drop (t + 1) ++ R, ?_, fun W' h' => ?_⟩
  · unfold PassAt at h
    rw [List.drop_eq_getElem_cons ht] at h
    simpa only [List.append_assoc, List.cons_append, List.nil_append] using h
  · unfold PassAt
    rw [List.take_succ_eq_append_getElem ht]
    simpa only [List.append_assoc, List.cons_append, List.nil_append] using h'


end Go.Proofs.YtmhaknejeobfgaaDoor

/- SortSymB. -/
namespace Go.Proofs.YtmhaknejeobfgaaDoor
open Go.RowKit Go.Proofs.YtmhaknejeobfgaaDoor.Stable
attribute [local go_sem ↓] Go.wp_at_zero Go.wp_at_succ

variable {w0 W : World} {blk off bx : Nat}

/-- Between i and j of a sorted row the first place is sought whose element is above y. -/
def FindB (y : Int) (X : List Int) (i j : Nat) : Prop := i ≤ j ∧ j ≤ X.length ∧ (∀ z ∈ X.take i, clsOf z ≤ clsOf y) ∧ (∀ z ∈ X.drop j, clsOf y < clsOf z)

theorem FindB.up {y : Int} {X : List Int} {i j h : Nat} (H : FindB y X i j) (hs : SortedC clsOf X) (hj : h < j) (_hi : i ≤ h) (hh : ¬ clsOf y < clsOf (X[h]?.getD 0)) : FindB y X (h + 1) j := by
  obtain ⟨h1, h2, h3, h4⟩ := H
  refine ⟨by omega, h2, ?_, h4⟩
  intro z hz
  have hhY : h < X.length := by omega
  rw [List.take_succ_eq_append_getElem hhY] at hz
  have e : X[h]?.getD 0 = X[h] := by simp [hhY]
  rw [e] at hh
  rcases List.mem_append.1 hz with hz | hz
  · have hY : X = X.take h ++ X.drop h := (List.take_append_drop h X).symm
    unfold SortedC at hs
    rw [hY] at hs
    obtain ⟨_, _, hs3⟩ := List.pairwise_append.1 hs
    have := hs3 z hz X[h] (by rw [List.drop_eq_getElem_cons hhY]; exact List.mem_cons_self)
    omega
  · have : z = X[h] := by simpa using hz
    rw [this]; omega

theorem FindB.down {y : Int} {X : List Int} {i j h : Nat} (H : FindB y X i j) (hs : SortedC clsOf X) (hj : h < j) (hi : i ≤ h) (hh : clsOf y < clsOf (X[h]?.getD 0)) : FindB y X i h := by
  obtain ⟨h1, h2, h3, h4⟩ := H
  refine ⟨hi, by omega, h3, ?_⟩
  intro z hz
  have hhY : h < X.length := by omega
  have e : X[h]?.getD 0 = X[h] := by simp [hhY]
  rw [e] at hh
  rw [List.drop_eq_getElem_cons hhY] at hz
  rcases List.mem_cons.1 hz with rfl | hz
  · omega
  · have hY : X = X.take (h + 1) ++ X.drop (h + 1) := (List.take_append_drop (h + 1) X).symm
    unfold SortedC at hs
    rw [hY] at hs
    obtain ⟨_, _, hs3⟩ := List.pairwise_append.1 hs
    have := hs3 X[h] (by rw [List.take_succ_eq_append_getElem hhY]; exact List.mem_append_right _ List.mem_cons_self) z hz
    omega

theorem PassAt.back {L : List Int} {y : Int} {X2 R : List Int} {r : Nat} (h : PassAt L y X2 R (r + 1) w0 blk off W) (hr : r < X2.length) :
    ∃ z R', SO w0 blk off ((L ++ X2.take r) ++ z :: ([] ++ y :: R')) W ∧ ∀ W', SO w0 blk off ((L ++ X2.take r) ++ y :: ([] ++ z :: R')) W' → PassAt L y X2 R r w0 blk off W' := by
  refine ⟨X2[r], X2.drop (r + 1) ++ R, ?_, fun W' h' => ?_⟩
  · unfold PassAt at h
    rw [List.take_succ_eq_append_getElem hr] at h
    simpa only [List.append_assoc, List.cons_append, List.nil_append] using h
  · unfold PassAt
    rw [List.drop_eq_getElem_cons hr]
    simpa only [List.append_assoc, List.cons_append, List.nil_append] using h'


end Go.Proofs.YtmhaknejeobfgaaDoor

/- SortSymC. -/
namespace Go.Proofs.YtmhaknejeobfgaaDoor
open Go.RowKit Go.Proofs.YtmhaknejeobfgaaDoor.Stable

/-- Between s and r the place is sought at which the two blocks X and Y cross; H is half of all. -/
structure Cross (X Y : List Int) (H s0 r0 s r : Nat) : Prop where
  h1 : s0 ≤ s
  h2 : s ≤ r
  h3 : r ≤ r0
  low : s0 < s → clsOf (X[s - 1]?.getD 0) ≤ clsOf (Y[H - s]?.getD 0)
  high : r < r0 → clsOf (Y[H - 1 - r]?.getD 0) < clsOf (X[r]?.getD 0)

theorem sorted_take_le {X : List Int} (hs : SortedC clsOf X) {s : Nat} (h0 : 0 < s) (h : s ≤ X.length) : ∀ z ∈ X.take s, clsOf z ≤ clsOf (X[s - 1]?.getD 0) := by
  intro z hz
  obtain ⟨t, rfl⟩ : ∃ t, s = t + 1 := ⟨s - 1, by omega⟩
  have ht : t < X.length := by omega
  have e : X[t + 1 - 1]?.getD 0 = X[t] := by simp [ht]
  rw [e]
  rw [List.take_succ_eq_append_getElem ht] at hz
  rcases List.mem_append.1 hz with hz | hz
  · have hY : X = X.take t ++ X.drop t := (List.take_append_drop t X).symm
    unfold SortedC at hs
    rw [hY] at hs
    obtain ⟨_, _, hs3⟩ := List.pairwise_append.1 hs
    exact hs3 z hz X[t] (by rw [List.drop_eq_getElem_cons ht]; exact List.mem_cons_self)
  · have : z = X[t] := by simpa using hz
    rw [this]; exact Int.le_refl _

theorem sorted_le_drop {X : List Int} (hs : SortedC clsOf X) {s : Nat} (h : s < X.length) : ∀ z ∈ X.drop s, clsOf (X[s]?.getD 0) ≤ clsOf z := by
  intro z hz
  have e : X[s]?.getD 0 = X[s] := by simp [h]
  rw [e]
  rw [List.drop_eq_getElem_cons h] at hz
  rcases List.mem_cons.1 hz with rfl | hz
  · exact Int.le_refl _
  · have hY : X = X.take (s + 1) ++ X.drop (s + 1) := (List.take_append_drop (s + 1) X).symm
    unfold SortedC at hs
    rw [hY] at hs
    obtain ⟨_, _, hs3⟩ := List.pairwise_append.1 hs
    exact hs3 X[s] (by rw [List.take_succ_eq_append_getElem h]; exact List.mem_append_right _ List.mem_cons_self) z hz

/-- The end of the search. -/
theorem Cross.merge {X Y : List Int} {H s0 r0 s : Nat} (h : Cross X Y H s0 r0 s s) (hX : SortedC clsOf X) (hY : SortedC clsOf Y) (hr1 : r0 ≤ H) (hr2 : r0 ≤ X.length) (hr3 : r0 = H ∨ r0 = X.length) (hs1 : H - s0 ≤ Y.length) (hs2 : s0 = 0 ∨ H - s0 = Y.length) :
    sortC clsOf (X.take s ++ Y.take (H - s)) ++ sortC clsOf (X.drop s ++ Y.drop (H - s)) = sortC clsOf (X ++ Y) := by
  have hs := h.h3
  have hs0 := h.h1
  have hxy : ∀ x ∈ X.drop s, ∀ y ∈ Y.take (H - s), clsOf y < clsOf x := by
    intro x hx y hy
    have hsx : s < X.length := by
      rcases Nat.lt_or_ge s X.length with h | h
      · exact h
      · rw [List.drop_of_length_le h] at hx; simp at hx
    have hsH : 0 < H - s := by
      rcases Nat.eq_zero_or_pos (H - s) with h | h
      · rw [h] at hy; simp at hy
      · exact h
    have hh := h.high (by omega)
    have h1 := sorted_take_le hY hsH (by omega) y hy
    have h2 := sorted_le_drop hX hsx x hx
    rw [show H - s - 1 = H - 1 - s by omega] at h1
    omega
  have hab : ∀ a ∈ X.take s, ∀ b ∈ Y.drop (H - s), clsOf a ≤ clsOf b := by
    intro a ha b hb
    have hs' : 0 < s := by
      rcases Nat.eq_zero_or_pos s with h | h
      · rw [h] at ha; simp at ha
      · exact h
    have hHy : H - s < Y.length := by
      rcases Nat.lt_or_ge (H - s) Y.length with h | h
      · exact h
      · rw [List.drop_of_length_le h] at hb; simp at hb
    have hh := h.low (by omega)
    have h1 := sorted_take_le hX hs' (by omega) a ha
    have h2 := sorted_le_drop hY hHy b hb
    omega
  have hm := merge_halves (cls := clsOf) (A := X.take s) (X := X.drop s) (Y := Y.take (H - s)) (B := Y.drop (H - s)) (by rw [List.take_append_drop]; exact hX) (by rw [List.take_append_drop]; exact hY) hxy hab
  rw [List.take_append_drop, List.take_append_drop] at hm
  exact hm

end Go.Proofs.YtmhaknejeobfgaaDoor

/- SortSymD. -/
namespace Go.Proofs.YtmhaknejeobfgaaDoor
open Go.RowKit Go.Proofs.YtmhaknejeobfgaaDoor.Stable
attribute [local go_sem ↓] Go.wp_at_zero Go.wp_at_succ

variable {w0 : World} {blk off bx cap N : Nat}


end Go.Proofs.YtmhaknejeobfgaaDoor

/- SortStb. -/
namespace Go.Proofs.YtmhaknejeobfgaaDoor
open Go.RowKit Go.Proofs.YtmhaknejeobfgaaDoor.Stable
attribute [local go_sem ↓] Go.wp_at_zero Go.wp_at_succ

/-- Sorted blocks of q each. -/
def Full (q : Nat) (P : List Int) : Prop := ∃ Cs : List (List Int), P = Cs.flatten ∧ ∀ C ∈ Cs, C.length = q ∧ SortedC clsOf C
/-- .. and a shorter sorted one behind them. -/
def Chunks (q : Nat) (cur : List Int) : Prop := ∃ (Bs : List (List Int)) (last : List Int), cur = Bs.flatten ++ last ∧ (∀ B ∈ Bs, B.length = q ∧ SortedC clsOf B) ∧ SortedC clsOf last ∧ last.length < q

theorem Full.nil (q : Nat) : Full q [] := ⟨[], rfl, by simp⟩

theorem Full.snoc {q : Nat} {P C : List Int} (h : Full q P) (hl : C.length = q) (hs : SortedC clsOf C) : Full q (P ++ C) := by
  obtain ⟨Cs, rfl, h⟩ := h
  refine ⟨Cs ++ [C], by simp, ?_⟩
  intro D hD
  rcases List.mem_append.1 hD with hD | hD
  · exact h D hD
  · have : D = C := by simpa using hD
    subst this; exact ⟨hl, hs⟩

theorem Full.chunks {q : Nat} {P Q : List Int} (h : Full q P) (hs : SortedC clsOf Q) (hl : Q.length < q) : Chunks q (P ++ Q) := by
  obtain ⟨Cs, rfl, h⟩ := h
  exact ⟨Cs, Q, rfl, h, hs, hl⟩

theorem Chunks.two {q : Nat} {cur : List Int} (h : Chunks q cur) (hl : 2 * q ≤ cur.length) : ∃ B1 B2 Q, cur = B1 ++ (B2 ++ Q) ∧ B1.length = q ∧ B2.length = q ∧ SortedC clsOf B1 ∧ SortedC clsOf B2 ∧ Chunks q Q := by
  obtain ⟨Bs, last, rfl, h1, h2, h3⟩ := h
  match Bs, h1, hl with
  | [], _, hl => simp at hl; omega
  | [B], h1, hl =>
    have := (h1 B (by simp)).1
    simp at hl; omega
  | B1 :: B2 :: Bs, h1, _ =>
    exact ⟨B1, B2, Bs.flatten ++ last, by simp, (h1 B1 (by simp)).1, (h1 B2 (by simp)).1, (h1 B1 (by simp)).2, (h1 B2 (by simp)).2, Bs, last, rfl, fun B hB => h1 B (by simp [hB]), h2, h3⟩

theorem Chunks.one {q : Nat} {cur : List Int} (h : Chunks q cur) (hl : q < cur.length) (hu : cur.length < 2 * q) : ∃ B1 last, cur = B1 ++ last ∧ B1.length = q ∧ 0 < last.length ∧ SortedC clsOf B1 ∧ SortedC clsOf last := by
  obtain ⟨Bs, last, rfl, h1, h2, h3⟩ := h
  match Bs, h1, hl, hu with
  | [], _, hl, _ => simp at hl; omega
  | [B], h1, hl, _ =>
    have := (h1 B (by simp)).1
    exact ⟨B, last, by simp, this, by simp at hl; omega, (h1 B (by simp)).2, h2⟩
  | B1 :: B2 :: Bs, h1, _, hu =>
    have e1 := (h1 B1 (by simp)).1
    have e2 := (h1 B2 (by simp)).1
    simp at hu; omega

theorem Chunks.small {q : Nat} {cur : List Int} (h : Chunks q cur) (hu : cur.length ≤ q) : SortedC clsOf cur := by
  obtain ⟨Bs, last, rfl, h1, h2, h3⟩ := h
  match Bs, h1, hu with
  | [], _, _ => simpa using h2
  | [B], h1, hu =>
    have := (h1 B (by simp)).1
    have hl : last = [] := List.length_eq_zero_iff.1 (by simp at hu; omega)
    subst hl
    simpa using (h1 B (by simp)).2
  | B1 :: B2 :: Bs, h1, hu =>
    have e1 := (h1 B1 (by simp)).1
    have e2 := (h1 B2 (by simp)).1
    simp at hu; omega

variable {w0 W : World} {blk off bx cap N : Nat}

/-- The first pass: the first a elements stand in sorted blocks of twenty. -/
def Pass1 (l : List Int) (a : Nat) (w0 : World) (blk off : Nat) (W : World) : Prop :=
  ∃ P, P.length = a ∧ Full 20 P ∧ SameC clsOf (l.take a) P ∧ SO w0 blk off (P ++ l.drop a) W

/-- Behind it. -/
def Pass2 (l : List Int) (q : Nat) (w0 : World) (blk off : Nat) (W : World) : Prop :=
  ∃ cur, Chunks q cur ∧ SameC clsOf l cur ∧ SO w0 blk off cur W

/-- While blocks of q are merged by two. -/
def Pass3 (l : List Int) (q a : Nat) (w0 : World) (blk off : Nat) (W : World) : Prop :=
  ∃ P Q, P.length = a ∧ Full (2 * q) P ∧ Chunks q Q ∧ SameC clsOf l (P ++ Q) ∧ SO w0 blk off (P ++ Q) W

theorem pass3_skip (l : List Int) (q a : Nat) (hN : l.length = N) (hq : 0 < q) (ha : N ≤ a + q) (h : Pass3 l q a w0 blk off W) : Pass2 l (2 * q) w0 blk off W := by
  obtain ⟨P, Q, h1, h2, h3, h4, h5⟩ := h
  have hlen : P.length + Q.length = N := by rw [← hN, ← h4.length]; simp
  exact ⟨P ++ Q, h2.chunks (h3.small (by omega)) (by omega), h4, h5⟩

theorem pass2_start (l : List Int) (q : Nat) (h : Pass2 l q w0 blk off W) : Pass3 l q 0 w0 blk off W := by
  obtain ⟨cur, h1, h2, h3⟩ := h
  exact ⟨[], cur, rfl, Full.nil _, h1, by simpa using h2, by simpa using h3⟩

theorem pass2_done (l : List Int) (q : Nat) (hN : l.length = N) (hq : N ≤ q) (h : Pass2 l q w0 blk off W) : SO w0 blk off (sortC clsOf l) W := by
  obtain ⟨cur, h1, h2, h3⟩ := h
  have hs := h1.small (by rw [h2.length]; omega)
  rw [← sortC_of hs h2]
  exact h3

end Go.Proofs.YtmhaknejeobfgaaDoor

/- SortStw. -/
namespace Go.Proofs.YtmhaknejeobfgaaDoor
open Go.RowKit Go.Proofs.YtmhaknejeobfgaaDoor.Stable
attribute [local go_sem ↓] Go.wp_at_zero Go.wp_at_succ

variable {w0 W : World} {blk off bx cap N : Nat}


end Go.Proofs.YtmhaknejeobfgaaDoor

/- SortNil. -/
namespace Go.Proofs.YtmhaknejeobfgaaDoor
open Go.RowKit Go.Proofs.YtmhaknejeobfgaaDoor.Stable
attribute [local go_sem ↓] Go.wp_at_zero Go.wp_at_succ


end Go.Proofs.YtmhaknejeobfgaaDoor
