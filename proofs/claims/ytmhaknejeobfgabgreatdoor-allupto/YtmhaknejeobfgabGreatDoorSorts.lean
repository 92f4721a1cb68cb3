/- The row that is being sorted: what it holds, what an exchange makes of it, and what the comparing closure answers meanwhile. slices.swapRangeCmpFunc and slices.rotateCmpFunc at runes: blocks change places. slices.rotateCmpFunc at runes: two blocks side by side change places. slices.insertionSortCmpFunc at runes, comparing by class: the stable sort of a part of the row. slices.symMergeCmpFunc at runes, comparing by class: where the first block is one element. slices.symMergeCmpFunc at runes, comparing by class: where the second block is one element. Plain lists: the search of slices.symMergeCmpFunc's general case, and what its end gives. slices.symMergeCmpFunc at runes, comparing by class: two sorted blocks side by side become their stable merge. slices.stableCmpFunc and slices.SortStableFunc at runes, comparing by class: the row's stable sort, whatever its length up to 2^40. slices.stableCmpFunc and slices.SortStableFunc at runes, comparing by class: the row's stable sort, whatever its length up to 2^40. slices.SortStableFunc at a slice without anything in it: nothing turns. -/
import Derived.Test.YtmhaknejeobfgabGreatDoorTables
import Derived.Test.YtmhaknejeobfgabGreatDoorBase
import Derived.Deep.QuietTactic
import Derived.BigQuiet
import Derived.BigRegion
import Derived.Deep.DeepCutAuto

/- SortRow. -/
namespace Go.Proofs.YtmhaknejeobfgabGreatDoor
open Go.RowKit Go.Proofs.YtmhaknejeobfgabGreatDoor.Stable
attribute [local go_sem ↓] Go.wp_at_zero Go.wp_at_succ

/-- The row at off of the block blk holds l; all else that was there in w0 is as it was. -/
def SO (w0 : World) (blk off : Nat) (l : List Int) (W : World) : Prop :=
  Fr (fun k => k = blk) w0 W ∧ ∃ cur0 cur e, w0.heap[blk]? = some (.cells cur0 e (0, 0)) ∧ W.heap[blk]? = some (.cells cur e (0, 0)) ∧ cur.size = cur0.size ∧ (∀ i, i < off ∨ off + l.length ≤ i → cur[i]? = cur0[i]?) ∧ ∀ j, j < l.length → cur[off + j]? = some (.int .i32 (l[j]?.getD 0))

section
variable {w0 W : World} {blk off bx : Nat} {l : List Int}

theorem SO.start {cur : Array Value} {e : TypeId} (h : w0.heap[blk]? = some (.cells cur e (0, 0))) (hc : ∀ j, j < l.length → cur[off + j]? = some (.int .i32 (l[j]?.getD 0))) : SO w0 blk off l w0 :=
  ⟨Fr.refl _ _, cur, cur, e, h, h, rfl, fun _ _ => rfl, hc⟩

theorem SO.cell (h : SO w0 blk off l W) {j : Nat} (hj : j < l.length) : W.cell? ⟨blk, off + j, none⟩ = some (.int .i32 (l[j]?.getD 0)) := by
  obtain ⟨_, cur0, cur, e, h0, h1, h2, h3, h4⟩ := h
  exact cell_of h1 (h4 j hj)

theorem SO.frozen (h : SO w0 blk off l W) (j : Nat) : W.frozen? ⟨blk, j, none⟩ = false := by
  obtain ⟨_, cur0, cur, e, h0, h1, h2, h3, h4⟩ := h
  exact frozen_of h1 j

theorem SO.drewN (h : SO w0 blk off l W) (q : Nat) : SO w0 blk off l (W.drewN q) := ⟨h.1.drewN q, h.2⟩

theorem SO.set (h : SO w0 blk off l W) {j : Nat} (hj : j < l.length) (x : Int) : SO w0 blk off (l.set j x) (W.setCell ⟨blk, off + j, none⟩ (.int .i32 x)) := by
  obtain ⟨hf, cur0, cur, e, h0, h1, h2, h3, h4⟩ := h
  have hlt : off + j < cur.size := (Array.getElem?_eq_some_iff.1 (h4 j hj)).1
  refine ⟨hf.setCell _ _ (fun _ => rfl), cur0, _, e, h0, set_of h1 _ _, by simpa using h2, ?_, ?_⟩
  · intro i hi
    rw [List.length_set] at hi
    rw [get_set_other _ (by omega)]
    exact h3 i hi
  · intro i hi
    rw [List.length_set] at hi
    by_cases e : i = j
    · subst e
      rw [get_set_same _ hlt]
      simp [hi]
    · rw [get_set_other _ (by omega), h4 i hi, List.getElem?_set_ne (fun h => e h.symm)]

/-- What the closure that compares by class is bound to, in every world of the sort. -/
structure CmpAt (w0 : World) (blk bx : Nat) : Prop where
  reads : ∃ bs os B hi, w0.cell? ⟨bx, 0, none⟩ = some (.pointer (some ⟨bs, os, none⟩)) ∧ w0.cell? ⟨bs, os, none⟩ = some (.map (some B)) ∧ TabIn w0 hi B ∧ hi ≤ blk ∧ bx ≠ blk ∧ bs ≠ blk ∧ bx < w0.heap.size ∧ bs < w0.heap.size

def inRange (x : Int) : Prop := -2147483648 ≤ x ∧ x ≤ 2147483647

set_option maxRecDepth 100000 in
set_option maxHeartbeats 800000 in
theorem cmp_calls (h : CmpAt w0 blk bx) (hf : Fr (fun k => k = blk) w0 W) (x y : Int) (hx : inRange x) (hy : inRange y) :
    Calls Tryz.prog 135 #[.int .i32 x, .int .i32 y, .pointer (some ⟨bx, 0, none⟩)] W fun e w' => e = .returned (.int .i64 (Lib.compareInt (clsOf x) (clsOf y))) ∧ ∃ q, w' = W.drewN q := by
  obtain ⟨bs, os, B, hi, c0, c1, hT, hhi, n1, n2, l1, l2⟩ := h.reads
  have d0 : W.cell? ⟨bx, 0, none⟩ = some (.pointer (some ⟨bs, os, none⟩)) := (World.cell?_of_block (w := w0) (hf.block bx l1 n1)).trans c0
  have d1 : W.cell? ⟨bs, os, none⟩ = some (.map (some B)) := (World.cell?_of_block (w := w0) (hf.block bs l2 n2)).trans c1
  have hT' : TabIn W hi B := hT.kept hf (fun k hk e => by omega)
  clear c0 c1 hT
  go_enter Tryz.func135, Tryz.ntmps135
  go_wp2
  go_quiet ((first | (go_at_call_of 93 (Value.int .i32 x); exact Calls.quiet_of_same (class_calls (hT'.drewN _) x hx.1 hx.2)) | (go_at_call_of 93 (Value.int .i32 y); exact Calls.quiet_of_same (class_calls (hT'.drewN _) y hy.1 hy.2)) | (go_at_call 136; exact Calls.quiet_of_same (Tryz.cmp_Compare_int _ _ _))))
  go_wp2
  go_ret
  exact ⟨rfl, _, rfl⟩
end

end Go.Proofs.YtmhaknejeobfgabGreatDoor

/- SortSwap. -/
namespace Go.Proofs.YtmhaknejeobfgabGreatDoor
open Go.RowKit Go.Proofs.YtmhaknejeobfgabGreatDoor.Stable
attribute [local go_sem ↓] Go.wp_at_zero Go.wp_at_succ

theorem set_two (P Q R : List Int) (x y : Int) : ((P ++ x :: (Q ++ y :: R)).set P.length y).set (P.length + 1 + Q.length) x = P ++ y :: (Q ++ x :: R) := by
  rw [List.set_append_right _ _ (by omega), show P.length - P.length = 0 by omega, List.set_cons_zero]
  have h2 : P ++ y :: (Q ++ y :: R) = (P ++ y :: Q) ++ y :: R := by simp
  rw [h2, List.set_append_right _ _ (by simp; omega)]
  rw [show P.length + 1 + Q.length - (P ++ y :: Q).length = 0 by simp; omega, List.set_cons_zero]
  simp

theorem get_first (P Q : List Int) (x : Int) : (P ++ x :: Q)[P.length]?.getD 0 = x := by simp

theorem get_second (P Q R : List Int) (x y : Int) : (P ++ x :: (Q ++ y :: R))[P.length + 1 + Q.length]?.getD 0 = y := by
  have : P ++ x :: (Q ++ y :: R) = (P ++ x :: Q) ++ y :: R := by simp
  rw [this, show P.length + 1 + Q.length = (P ++ x :: Q).length by simp; omega]
  exact get_first _ _ _

variable {w0 W : World} {blk off : Nat}

/-- The two cells of an exchange, and the world behind it. -/
theorem SO.exchange {P Q R : List Int} {x y : Int} {p1 p2 : Nat} (h : SO w0 blk off (P ++ x :: (Q ++ y :: R)) W) (hp1 : p1 = P.length) (hp2 : p2 = P.length + 1 + Q.length) :
    W.cell? ⟨blk, off + p1, none⟩ = some (.int .i32 x) ∧ W.cell? ⟨blk, off + p2, none⟩ = some (.int .i32 y) ∧ (W.setCell ⟨blk, off + p1, none⟩ (.int .i32 y)).cell? ⟨blk, off + p2, none⟩ = some (.int .i32 y) ∧ (W.setCell ⟨blk, off + p2, none⟩ (.int .i32 x)).cell? ⟨blk, off + p1, none⟩ = some (.int .i32 x) ∧ W.frozen? ⟨blk, off + p1, none⟩ = false ∧ W.frozen? ⟨blk, off + p2, none⟩ = false ∧
      SO w0 blk off (P ++ y :: (Q ++ x :: R)) ((W.setCell ⟨blk, off + p1, none⟩ (.int .i32 y)).setCell ⟨blk, off + p2, none⟩ (.int .i32 x)) ∧ SO w0 blk off (P ++ y :: (Q ++ x :: R)) ((W.setCell ⟨blk, off + p2, none⟩ (.int .i32 x)).setCell ⟨blk, off + p1, none⟩ (.int .i32 y)) := by
  subst hp1 hp2
  have k1 : W.cell? ⟨blk, off + P.length, none⟩ = some (.int .i32 x) := by rw [h.cell (by simp), get_first]
  have k2 : W.cell? ⟨blk, off + (P.length + 1 + Q.length), none⟩ = some (.int .i32 y) := by rw [h.cell (by simp; omega), get_second]
  refine ⟨k1, k2, (World.cell?_setCell_other _ _ _ _ (by intro e; injection e; omega)).trans k2, (World.cell?_setCell_other _ _ _ _ (by intro e; injection e; omega)).trans k1, h.frozen _, h.frozen _, ?_, ?_⟩
  · have h2 := (h.set (j := P.length) (by simp) y).set (j := P.length + 1 + Q.length) (by simp; omega) x
    rw [set_two] at h2
    exact h2
  · have h2 := (h.set (j := P.length + 1 + Q.length) (by simp; omega) x).set (j := P.length) (by simp) y
    rw [List.set_comm _ _ (by omega), set_two] at h2
    exact h2

/-- The row while the exchange goes on. -/
def swapped (L A M B R : List Int) (i : Nat) : List Int := L ++ (B.take i ++ (A.drop i ++ (M ++ (A.take i ++ (B.drop i ++ R)))))

theorem swapped_step (L A M B R : List Int) (i : Nat) (hA : i < A.length) (hB : i < B.length) : ∃ P Q R' x y, swapped L A M B R i = P ++ x :: (Q ++ y :: R') ∧ swapped L A M B R (i + 1) = P ++ y :: (Q ++ x :: R') ∧ P.length = L.length + i ∧ P.length + 1 + Q.length = L.length + A.length + M.length + i := by
  refine ⟨L ++ B.take i, A.drop (i + 1) ++ (M ++ A.take i), B.drop (i + 1) ++ R, A[i], B[i], ?_, ?_, ?_, ?_⟩
  · unfold swapped
    rw [List.drop_eq_getElem_cons hA, List.drop_eq_getElem_cons hB]
    simp only [List.append_assoc, List.cons_append]
  · unfold swapped
    rw [List.take_succ_eq_append_getElem hA, List.take_succ_eq_append_getElem hB]
    simp only [List.append_assoc, List.cons_append, List.nil_append]
  · simp; omega
  · simp; omega

set_option maxRecDepth 100000 in
set_option maxHeartbeats 1600000 in
theorem swapRange_calls (L A M B R : List Int) (n N cap a b : Nat) (fv : Value) (hA : A.length = n) (hB : B.length = n) (hN : (L ++ (A ++ (M ++ (B ++ R)))).length = N) (hNb : N ≤ 1099511627776) (ha : a = L.length) (hb : b = L.length + n + M.length) (S : SO w0 blk off (L ++ (A ++ (M ++ (B ++ R)))) W) :
    Calls Tryz.prog 171 #[.slice (some ⟨blk, off, none⟩) N cap, .int .i64 a, .int .i64 b, .int .i64 n, fv] W fun e w' => e = .returned (.tuple #[]) ∧ SO w0 blk off (L ++ (B ++ (M ++ (A ++ R)))) w' := by
  have hlen : L.length + n + M.length + n + R.length = N := by rw [← hN]; simp; omega
  have S0 : Hid (SO w0 blk off (swapped L A M B R 0) W) := by show SO _ _ _ _ _; unfold swapped; simpa using S
  have HN : Hid (A.length = n ∧ B.length = n ∧ a = L.length ∧ b = L.length + n + M.length) := ⟨hA, hB, ha, hb⟩
  have ha2 : a + n ≤ b := by omega
  have hb2 : b + n ≤ N := by omega
  clear S hA hB hN ha hb hlen
  go_enter Tryz.func171, Tryz.ntmps171
  go_wp2
  go_loopw [10] (fun vi wr => ∃ i : Nat, vi = .int .i64 i ∧ i ≤ n ∧ Hid (SO w0 blk off (swapped L A M B R i) wr)) (fun vi _ => n - (intOf vi).toNat)
  case atStart => exact ⟨0, rfl, Nat.zero_le _, S0⟩
  case round =>
    clear S0
    obtain ⟨i, rfl, hi, HS⟩ := hrel
    by_cases hlt : i < n
    · obtain ⟨P, Q, R', x, y, e1, e2, e3, e4⟩ := swapped_step L A M B R i (by rw [HN.out.1]; exact hlt) (by rw [HN.out.2.1]; exact hlt)
      have hS := HS.out
      rw [e1] at hS
      obtain ⟨p1, hp1⟩ : ∃ q, q = P.length := ⟨_, rfl⟩
      obtain ⟨p2, hp2⟩ : ∃ q, q = P.length + 1 + Q.length := ⟨_, rfl⟩
      obtain ⟨c1, c2, c2', _, f1, f2, c3, _⟩ := hS.exchange hp1 hp2
      rw [← e2] at c3
      have hh := HN.out
      have t1 : ((a : Int) + (i : Int)).toNat = p1 := by omega
      have t2 : ((b : Int) + (i : Int)).toNat = p2 := by omega
      have i1 : (0 : Int) ≤ (a : Int) + (i : Int) := by omega
      have i2 : (a : Int) + (i : Int) < (N : Int) := by omega
      have i3 : (0 : Int) ≤ (b : Int) + (i : Int) := by omega
      have i4 : (b : Int) + (i : Int) < (N : Int) := by omega
      have C3 : Hid (SO w0 blk off (swapped L A M B R (i + 1)) ((wr.setCell ⟨blk, off + p1, none⟩ (.int .i32 y)).setCell ⟨blk, off + p2, none⟩ (.int .i32 x))) := c3
      clear hh hS HS e1 e2 e3 e4 hp1 hp2 c3
      go_wp2
      go_region
      go_wp2
      refine ⟨⟨i + 1, by go_num, by omega, ?_⟩, by simp [intOf]; omega⟩
      exact C3.out.drewN 1
    · obtain rfl : i = n := by omega
      go_wp2
      go_end0
      refine ⟨rfl, ?_⟩
      have := HS.out
      unfold swapped at this
      rw [List.take_of_length_le (by rw [HN.out.2.1]; omega), List.drop_of_length_le (by rw [HN.out.1]; omega), List.take_of_length_le (by rw [HN.out.1]; omega), List.drop_of_length_le (by rw [HN.out.2.1]; omega)] at this
      simpa using this

end Go.Proofs.YtmhaknejeobfgabGreatDoor

/- SortRot. -/
namespace Go.Proofs.YtmhaknejeobfgabGreatDoor
open Go.RowKit Go.Proofs.YtmhaknejeobfgabGreatDoor.Stable
attribute [local go_sem ↓] Go.wp_at_zero Go.wp_at_succ

variable {w0 W : World} {blk off : Nat}

/-- The row while it is turned: i ahead of the middle and j behind it are still to change places. -/
def RotAt (T : List Int) (N m i j : Nat) (w0 : World) (blk off : Nat) (W : World) : Prop :=
  ∃ L X Y R : List Int, X.length = i ∧ Y.length = j ∧ L.length + i = m ∧ (L ++ (X ++ (Y ++ R))).length = N ∧ L ++ (Y ++ (X ++ R)) = T ∧ SO w0 blk off (L ++ (X ++ (Y ++ R))) W

theorem swapRangeI (L A M B R : List Int) (n N cap : Nat) (a b : Int) (fv : Value) (hA : A.length = n) (hB : B.length = n) (hN : (L ++ (A ++ (M ++ (B ++ R)))).length = N) (hNb : N ≤ 1099511627776) (ha : a = L.length) (hb : b = L.length + n + M.length) (S : SO w0 blk off (L ++ (A ++ (M ++ (B ++ R)))) W) :
    Calls Tryz.prog 171 #[.slice (some ⟨blk, off, none⟩) N cap, .int .i64 a, .int .i64 b, .int .i64 n, fv] W fun e w' => e = .returned (.tuple #[]) ∧ SO w0 blk off (L ++ (B ++ (M ++ (A ++ R)))) w' := by
  subst ha hb
  exact swapRange_calls L A M B R n N cap L.length (L.length + n + M.length) fv hA hB hN hNb rfl rfl S

/-- i above j. -/
theorem rot_left {T : List Int} {N m i j : Nat} (h : RotAt T N m i j w0 blk off W) (hij : j < i) (hNb : N ≤ 1099511627776) (cap : Nat) (fv : Value) :
    Calls Tryz.prog 171 #[.slice (some ⟨blk, off, none⟩) N cap, .int .i64 ((m : Int) - (i : Int)), .int .i64 m, .int .i64 j, fv] W fun e w' => e = .returned (.tuple #[]) ∧ RotAt T N m (i - j) j w0 blk off w' := by
  obtain ⟨L, X, Y, R, h1, h2, h3, h4, h5, h6⟩ := h
  have hX : X = X.take j ++ X.drop j := (List.take_append_drop j X).symm
  have e0 : L ++ (X ++ (Y ++ R)) = L ++ (X.take j ++ (X.drop j ++ (Y ++ R))) := by rw [← List.append_assoc (X.take j), List.take_append_drop]
  rw [e0] at h6 h4
  refine (swapRangeI L (X.take j) (X.drop j) Y R j N cap _ _ fv (by simp; omega) h2 h4 hNb (by omega) (by simp; omega) h6).mono ?_
  rintro e w' ⟨rfl, hs⟩
  refine ⟨rfl, L ++ Y, X.drop j, X.take j, R, by simp; omega, by simp; omega, by simp; omega, ?_, ?_, ?_⟩
  · rw [← h4]; simp; omega
  · rw [← h5]
    conv => rhs; rw [hX]
    simp only [List.append_assoc]
  · simpa only [List.append_assoc] using hs

/-- i below j. -/
theorem rot_right {T : List Int} {N m i j : Nat} (h : RotAt T N m i j w0 blk off W) (hij : i < j) (hNb : N ≤ 1099511627776) (cap : Nat) (fv : Value) :
    Calls Tryz.prog 171 #[.slice (some ⟨blk, off, none⟩) N cap, .int .i64 ((m : Int) - (i : Int)), .int .i64 ((m : Int) + (j : Int) - (i : Int)), .int .i64 i, fv] W fun e w' => e = .returned (.tuple #[]) ∧ RotAt T N m i (j - i) w0 blk off w' := by
  obtain ⟨L, X, Y, R, h1, h2, h3, h4, h5, h6⟩ := h
  have hY : Y = Y.take (j - i) ++ Y.drop (j - i) := (List.take_append_drop (j - i) Y).symm
  have e0 : L ++ (X ++ (Y ++ R)) = L ++ (X ++ (Y.take (j - i) ++ (Y.drop (j - i) ++ R))) := by rw [← List.append_assoc (Y.take (j - i)), List.take_append_drop]
  rw [e0] at h6 h4
  refine (swapRangeI L X (Y.take (j - i)) (Y.drop (j - i)) R i N cap _ _ fv h1 (by simp; omega) h4 hNb (by omega) (by simp; omega) h6).mono ?_
  rintro e w' ⟨rfl, hs⟩
  refine ⟨rfl, L, Y.drop (j - i), Y.take (j - i), X ++ R, by simp; omega, by simp; omega, by omega, ?_, ?_, ?_⟩
  · rw [← h4]; simp; omega
  · rw [← h5]
    conv => rhs; rw [hY]
    simp only [List.append_assoc]
  · simpa only [List.append_assoc] using hs

/-- i and j alike: the last exchange. -/
theorem rot_last {T : List Int} {N m i : Nat} (h : RotAt T N m i i w0 blk off W) (hNb : N ≤ 1099511627776) (cap : Nat) (fv : Value) :
    Calls Tryz.prog 171 #[.slice (some ⟨blk, off, none⟩) N cap, .int .i64 ((m : Int) - (i : Int)), .int .i64 m, .int .i64 i, fv] W fun e w' => e = .returned (.tuple #[]) ∧ SO w0 blk off T w' := by
  obtain ⟨L, X, Y, R, h1, h2, h3, h4, h5, h6⟩ := h
  refine (swapRangeI L X [] Y R i N cap _ _ fv h1 h2 (by simpa using h4) hNb (by omega) (by simp; omega) (by simpa using h6)).mono ?_
  rintro e w' ⟨rfl, hs⟩
  refine ⟨rfl, ?_⟩
  rw [← h5]
  simpa using hs

set_option maxRecDepth 100000 in
set_option maxHeartbeats 1600000 in
theorem rotate_calls (L X Y R : List Int) (N cap : Nat) (a m b : Int) (fv : Value) (hX : 0 < X.length) (hY : 0 < Y.length) (hN : (L ++ (X ++ (Y ++ R))).length = N) (hNb : N ≤ 1099511627776) (ha : a = L.length) (hm : m = L.length + X.length) (hb : b = L.length + X.length + Y.length) (S : SO w0 blk off (L ++ (X ++ (Y ++ R))) W) :
    Calls Tryz.prog 167 #[.slice (some ⟨blk, off, none⟩) N cap, .int .i64 a, .int .i64 m, .int .i64 b, fv] W fun e w' => e = .returned (.tuple #[]) ∧ SO w0 blk off (L ++ (Y ++ (X ++ R))) w' := by
  have S0 : Hid (RotAt (L ++ (Y ++ (X ++ R))) N (L.length + X.length) X.length Y.length w0 blk off W) := ⟨L, X, Y, R, rfl, rfl, rfl, hN, rfl, S⟩
  have hlen : L.length + X.length + Y.length ≤ N := by rw [← hN]; simp; omega
  obtain ⟨T, hT⟩ : ∃ T, T = L ++ (Y ++ (X ++ R)) := ⟨_, rfl⟩
  rw [← hT] at S0 ⊢
  obtain ⟨mn, hmn⟩ : ∃ q, q = L.length + X.length := ⟨_, rfl⟩
  obtain ⟨x0, hx0⟩ : ∃ q, q = X.length := ⟨_, rfl⟩
  obtain ⟨y0, hy0⟩ : ∃ q, q = Y.length := ⟨_, rfl⟩
  rw [← hmn, ← hx0, ← hy0] at S0
  have em : m = (mn : Int) := by omega
  have ea : a = (mn : Int) - (x0 : Int) := by omega
  have eb : b = (mn : Int) + (y0 : Int) := by omega
  have q1 : x0 ≤ mn := by omega
  have q2 : mn + y0 ≤ N := by omega
  have q3 : 0 < x0 := by omega
  have q4 : 0 < y0 := by omega
  subst em ea eb
  clear S hT hmn hx0 hy0 hX hY hN ha hm hb hlen
  have w1 : (mn : Int) - ((mn : Int) - (x0 : Int)) = (x0 : Int) := by omega
  have w2 : (mn : Int) + (y0 : Int) - (mn : Int) = (y0 : Int) := by omega
  go_enter Tryz.func167, Tryz.ntmps167
  go_wp2
  go_loopw [10, 11] (fun vi vj wr => ∃ i j : Nat, vi = .int .i64 i ∧ vj = .int .i64 j ∧ 0 < i ∧ 0 < j ∧ i ≤ mn ∧ mn + j ≤ N ∧ Hid (RotAt T N mn i j w0 blk off wr)) (fun vi vj _ => (intOf vi).toNat + (intOf vj).toNat)
  case atStart => exact ⟨x0, y0, by first | rfl | (rw [w1]), by first | rfl | (rw [w2]), q3, q4, q1, q2, S0⟩
  case round =>
    clear S0 w1 w2 q1 q2 q3 q4
    obtain ⟨i, j, rfl, rfl, hi, hj, hi2, hj2, HS⟩ := hrel
    rcases Nat.lt_trichotomy i j with hlt | heq | hgt
    · have t1 : ((i : Int) != (j : Int)) = true := by simp; omega
      have t2 : ¬ ((j : Int) < (i : Int)) := by omega
      go_wp2_with (go_at_call 171; refine (rot_right HS.out hlt hNb cap fv).mono ?_; rintro e w' ⟨rfl, HS2⟩)
      refine ⟨⟨i, j - i, rfl, by first | rfl | (congr 1; omega), hi, by omega, by omega, by omega, HS2⟩, by simp [intOf]; omega⟩
    · subst heq
      have t1 : ((i : Int) != (i : Int)) = false := by simp
      go_wp2_with (go_at_call 171; refine (rot_last HS.out hNb cap fv).mono ?_; rintro e w' ⟨rfl, HS2⟩)
      go_end0
      exact ⟨rfl, HS2⟩
    · have t1 : ((i : Int) != (j : Int)) = true := by simp; omega
      have t2 : (j : Int) < (i : Int) := by omega
      go_wp2_with (go_at_call 171; refine (rot_left HS.out hgt hNb cap fv).mono ?_; rintro e w' ⟨rfl, HS2⟩)
      refine ⟨⟨i - j, j, by first | rfl | (congr 1; omega), rfl, by omega, hj, by omega, by omega, HS2⟩, by simp [intOf]; omega⟩

end Go.Proofs.YtmhaknejeobfgabGreatDoor

/- SortIns. -/
namespace Go.Proofs.YtmhaknejeobfgabGreatDoor
open Go.RowKit Go.Proofs.YtmhaknejeobfgabGreatDoor.Stable
attribute [local go_sem ↓] Go.wp_at_zero Go.wp_at_succ

variable {w0 W : World} {blk off bx : Nat}

theorem compare_lt {x y : Int} : Lib.compareInt x y < 0 ↔ x < y := by
  unfold Lib.compareInt
  split
  · simp_all
  · split <;> simp_all

/-- x goes down among S: what stands ahead of it, and what it has passed. -/
def InsAt (L S : List Int) (x : Int) (R : List Int) (j : Nat) (w0 : World) (blk off : Nat) (W : World) : Prop :=
  ∃ S1 S2, S1 ++ S2 = S ∧ j = L.length + S1.length ∧ (∀ z ∈ S2, clsOf x < clsOf z) ∧ SO w0 blk off (L ++ (S1 ++ x :: (S2 ++ R))) W

/-- The first part is sorted. -/
def OutAt (L X R : List Int) (i : Nat) (w0 : World) (blk off : Nat) (W : World) : Prop :=
  ∃ A Y, A ++ Y = X ∧ i = L.length + A.length ∧ SO w0 blk off (L ++ (sortC clsOf A ++ (Y ++ R))) W

theorem OutAt.next {L X R : List Int} {i : Nat} (h : OutAt L X R i w0 blk off W) (hi : i < L.length + X.length) :
    ∃ A x Y, A ++ x :: Y = X ∧ i = L.length + A.length ∧ InsAt L (sortC clsOf A) x (Y ++ R) i w0 blk off W := by
  obtain ⟨A, Y, h1, h2, h3⟩ := h
  cases Y with
  | nil => rw [← h1] at hi; simp at hi; omega
  | cons x Y => exact ⟨A, x, Y, h1, h2, sortC clsOf A, [], by simp, by rw [sortC_length]; exact h2, by simp, by simpa using h3⟩

/-- x has come to its place. -/
theorem InsAt.done {L A R Y : List Int} {x : Int} {j : Nat} (h : InsAt L (sortC clsOf A) x (Y ++ R) j w0 blk off W) (hs : ∀ S1 y, j = L.length + S1.length + 1 → (∃ S2, S1 ++ [y] ++ S2 = sortC clsOf A) → clsOf y ≤ clsOf x) :
    SO w0 blk off (L ++ (sortC clsOf (A ++ [x]) ++ (Y ++ R))) W := by
  obtain ⟨S1, S2, h1, h2, h3, h4⟩ := h
  have hsort : SortedC clsOf (S1 ++ S2) := by rw [h1]; exact sortC_sorted _ _
  have hle : ∀ z ∈ S1, clsOf z ≤ clsOf x := by
    rcases List.eq_nil_or_concat S1 with rfl | ⟨S1', y, rfl⟩
    · simp
    · have hy := hs S1' y (by rw [h2]; simp; omega) ⟨S2, by rw [← h1]; simp⟩
      intro z hz
      obtain ⟨hs1, _, _⟩ := List.pairwise_append.1 hsort
      simp only [List.concat_eq_append] at hs1 hz
      obtain ⟨_, _, hs3⟩ := List.pairwise_append.1 hs1
      rcases List.mem_append.1 hz with hz | hz
      · have := hs3 z hz y (by simp); omega
      · have : z = y := by simpa using hz
        rw [this]; exact hy
  have hm := merge_one_right hsort hle h3
  have hc : sortC clsOf (S1 ++ S2 ++ [x]) = sortC clsOf (A ++ [x]) := sortC_congr (by
    rw [h1]
    exact (sortC_same clsOf A).symm.append (SameC.refl _ _))
  rw [hc] at hm
  rw [← hm]
  simpa using h4

theorem InsAt.split {L S R : List Int} {x : Int} {j : Nat} (h : InsAt L S x R j w0 blk off W) (hj : L.length < j) :
    ∃ S1 y S2, S1 ++ y :: S2 = S ∧ j = L.length + S1.length + 1 ∧ (∀ z ∈ S2, clsOf x < clsOf z) ∧ SO w0 blk off ((L ++ S1) ++ y :: ([] ++ x :: (S2 ++ R))) W := by
  obtain ⟨S1, S2, h1, h2, h3, h4⟩ := h
  rcases List.eq_nil_or_concat S1 with rfl | ⟨S1', y, rfl⟩
  · simp at h2; omega
  · refine ⟨S1', y, S2, by rw [← h1]; simp, by rw [h2]; simp; omega, h3, by simpa using h4⟩

set_option maxRecDepth 100000 in
set_option maxHeartbeats 3200000 in
theorem insertion_calls (hC : CmpAt w0 blk bx) (L X R : List Int) (N cap : Nat) (a b : Int) (hN : (L ++ (X ++ R)).length = N) (hNb : N ≤ 1099511627776) (ha : a = L.length) (hb : b = L.length + X.length) (hR : ∀ z ∈ X, inRange z) (S : SO w0 blk off (L ++ (X ++ R)) W) :
    Calls Tryz.prog 158 #[.slice (some ⟨blk, off, none⟩) N cap, .int .i64 a, .int .i64 b, .func (.func 135) #[] #[.pointer (some ⟨bx, 0, none⟩)]] W fun e w' => e = .returned (.tuple #[]) ∧ SO w0 blk off (L ++ (sortC clsOf X ++ R)) w' := by
  cases X with
  | nil =>
    have e1 : b = a := by rw [ha, hb]; simp
    subst e1
    have hlen : L.length ≤ N := by rw [← hN]; simp
    have hb0 : 0 ≤ b := by omega
    have hbN : b ≤ (N : Int) := by omega
    have ht : ¬ (b + 1 < b) := by omega
    have HS : Hid (SO w0 blk off (L ++ ([] ++ R)) W) := S
    clear S hN ha hb hR
    go_enter Tryz.func158, Tryz.ntmps158
    go_wp2
    refine wp_loop_rounds 1 ?_
    rw [rounds_succ]
    go_wp2
    go_end0
    exact ⟨rfl, HS.out⟩
  | cons x0 X0 =>
  have S0 : Hid (OutAt L (x0 :: X0) R (L.length + 1) w0 blk off W) := ⟨[x0], X0, rfl, rfl, by simpa [sortC, insC] using S⟩
  have hlen : L.length + (x0 :: X0).length ≤ N := by rw [← hN]; simp
  obtain ⟨aN, haN⟩ : ∃ q, q = L.length := ⟨_, rfl⟩
  obtain ⟨bN, hbN⟩ : ∃ q, q = L.length + (x0 :: X0).length := ⟨_, rfl⟩
  have ea : a = (aN : Int) := by omega
  have eb : b = (bN : Int) := by omega
  have hab : aN < bN := by rw [hbN, haN]; simp
  have hbl : bN ≤ N := by omega
  have HL : Hid (aN = L.length ∧ bN = L.length + (x0 :: X0).length) := ⟨haN, hbN⟩
  rw [← haN] at S0
  have HR : Hid (∀ z ∈ x0 :: X0, inRange z) := hR
  have HC : Hid (CmpAt w0 blk bx) := hC
  subst ea eb
  clear S hN ha hb hR hC haN hbN hlen
  generalize x0 :: X0 = X at S0 HL HR ⊢
  clear x0 X0
  go_enter Tryz.func158, Tryz.ntmps158
  go_wp2
  go_loopw [8] (fun vi wr => ∃ i : Nat, vi = .int .i64 i ∧ aN < i ∧ i ≤ bN ∧ Hid (OutAt L X R i w0 blk off wr)) (fun vi _ => bN - (intOf vi).toNat)
  case atStart => exact ⟨aN + 1, by go_num, by omega, by omega, S0⟩
  case round =>
    clear S0
    obtain ⟨i, rfl, hai, hib, HO⟩ := hrel
    by_cases hlt : i < bN
    · obtain ⟨A, x, Y, hX, hiA, hins⟩ := HO.out.next (by have := HL.out; omega)
      have hltz : (i : Int) < (bN : Int) := by omega
      have HX : Hid (A ++ x :: Y = X ∧ i = L.length + A.length) := ⟨hX, hiA⟩
      have HI : Hid (InsAt L (sortC clsOf A) x (Y ++ R) i w0 blk off wr) := hins
      clear HO hX hiA hins
      go_wp2
      go_loopw [9] (fun vj wr2 => ∃ j : Nat, vj = .int .i64 j ∧ aN ≤ j ∧ j ≤ i ∧ Hid (InsAt L (sortC clsOf A) x (Y ++ R) j w0 blk off wr2)) (fun vj _ => (intOf vj).toNat)
      case atStart => exact ⟨i, rfl, by omega, Nat.le_refl _, HI⟩
      case round =>
        clear HI
        obtain ⟨j, rfl, haj, hji, HJ⟩ := hrel
        by_cases hja : aN < j
        · obtain ⟨S1, y, S2, hS, hjS, hz, hSO⟩ := HJ.out.split (by have := HL.out; omega)
          obtain ⟨p, hp⟩ : ∃ q, q = L.length + S1.length := ⟨_, rfl⟩
          have hjp : j = p + 1 := by omega
          obtain ⟨c1, c2, c3, c3', f1, f2, c4, c4'⟩ := hSO.exchange (p1 := p) (p2 := p + 1) (by rw [hp]; simp) (by rw [hp]; simp)
          have hfr := hSO.1
          have hxr : inRange x := HR.out x (by rw [← HX.out.1]; simp)
          have hyr : inRange y := HR.out y (by
            rw [← HX.out.1]
            have : y ∈ sortC clsOf A := by rw [← hS]; simp
            have := sortC_mem.1 this
            simp [this])
          have hcm := fun q => cmp_calls HC.out (hfr.drewN q) x y hxr hyr
          have HCM : Hid (∀ q, Calls Tryz.prog 135 #[.int .i32 x, .int .i32 y, .pointer (some ⟨bx, 0, none⟩)] (wr.drewN q) fun e w' => e = .returned (.int .i64 (Lib.compareInt (clsOf x) (clsOf y))) ∧ ∃ q', w' = (wr.drewN q).drewN q') := hcm
          have hL := HL.out
          have hSl : S1.length + 1 + S2.length = A.length := by
            have h := congrArg List.length hS
            rw [sortC_length] at h
            simp at h
            omega
          have hXl := congrArg List.length HX.out.1
          have hpN : p + 1 < N := by simp at hXl; omega
          have hdone : ¬ clsOf x < clsOf y → SO w0 blk off (L ++ (sortC clsOf (A ++ [x]) ++ (Y ++ R))) wr := fun hv => HJ.out.done (fun S1' y' h1 h2 => by
            obtain ⟨S2', h2⟩ := h2
            have e1 : S1' ++ y' :: S2' = S1 ++ y :: S2 := by rw [hS, ← h2]; simp
            have hl : S1'.length = S1.length := by omega
            obtain ⟨_, e3⟩ := List.append_inj e1 hl
            have : y' = y := (List.cons.inj e3).1
            rw [this]; omega)
          have HD : Hid (¬ clsOf x < clsOf y → SO w0 blk off (L ++ (sortC clsOf (A ++ [x]) ++ (Y ++ R))) wr) := hdone
          have HS4 : Hid (clsOf x < clsOf y → InsAt L (sortC clsOf A) x (Y ++ R) p w0 blk off ((wr.setCell ⟨blk, off + (p + 1), none⟩ (.int .i32 y)).setCell ⟨blk, off + p, none⟩ (.int .i32 x))) := fun hv => ⟨S1, y :: S2, hS, hp, (by
            intro z hz'
            rcases List.mem_cons.1 hz' with rfl | hz'
            · exact hv
            · exact hz z hz'), by simpa using c4'⟩
          subst hjp
          have g1 : decide ((p : Int) + 1 > (aN : Int)) = true := decide_eq_true (by omega)
          have g2 : (aN : Int) < (p : Int) + 1 := by omega
          have t1 : ((p : Int) + 1).toNat = p + 1 := by omega
          have i1 : (0 : Int) ≤ (p : Int) + 1 := by omega
          have i2 : (p : Int) + 1 < (N : Int) := by omega
          have i3 : (0 : Int) ≤ (p : Int) := by omega
          have i4 : (p : Int) < (N : Int) := by omega
          have hji' : p ≤ i := by omega
          have hap : aN ≤ p := by omega
          clear HJ hS hjS hz hSO c4 c4' hfr hxr hyr hcm hL hSl hXl hdone hp hja haj hji
          by_cases hv : clsOf x < clsOf y
          · have hv1 : Lib.compareInt (clsOf x) (clsOf y) < 0 := compare_lt.2 hv
            have hd1 : decide (Lib.compareInt (clsOf x) (clsOf y) < 0) = true := decide_eq_true hv1
            have HV : Hid (clsOf x < clsOf y) := hv
            clear hv
            go_wp2_with fail
            go_quiet ((go_at_call 135; exact Calls.quiet_of (HCM.out _)))
            go_wp2_with fail
            go_region
            go_wp2
            refine ⟨⟨p, by first | rfl | go_num | (congr 1; omega), hap, hji', ?_⟩, by simp [intOf]⟩
            obtain ⟨S1, S2, k1, k2, k3, k4⟩ := HS4.out HV.out
            exact ⟨S1, S2, k1, k2, k3, k4.drewN _⟩
          · have hv1 : ¬ Lib.compareInt (clsOf x) (clsOf y) < 0 := fun h => hv (compare_lt.1 h)
            have hd1 : decide (Lib.compareInt (clsOf x) (clsOf y) < 0) = false := decide_eq_false hv1
            have HV : Hid (¬ clsOf x < clsOf y) := hv
            clear hv
            go_wp2_with fail
            go_quiet ((go_at_call 135; exact Calls.quiet_of (HCM.out _)))
            go_wp2
            refine ⟨⟨i + 1, by go_num, by omega, by omega, ?_⟩, by simp [intOf]; omega⟩
            exact ⟨A ++ [x], Y, by rw [← HX.out.1]; simp, by have := HX.out.2; simp; omega, (HD.out HV.out).drewN _⟩
        · obtain rfl : j = aN := by omega
          have hL := HL.out
          have hdone : SO w0 blk off (L ++ (sortC clsOf (A ++ [x]) ++ (Y ++ R))) wr := HJ.out.done (fun S1' y' h1 _ => by omega)
          have HD : Hid (SO w0 blk off (L ++ (sortC clsOf (A ++ [x]) ++ (Y ++ R))) wr) := hdone
          have g1 : decide ((j : Int) > (j : Int)) = false := decide_eq_false (by omega)
          clear hdone hL HJ
          go_wp2_with fail
          go_quiet (fail)
          go_wp2
          refine ⟨⟨i + 1, by go_num, by omega, by omega, ?_⟩, by simp [intOf]; omega⟩
          exact ⟨A ++ [x], Y, by rw [← HX.out.1]; simp, by have := HX.out.2; simp; omega, HD.out.drewN _⟩
    · obtain rfl : i = bN := by omega
      obtain ⟨A, Y, h1, h2, h3⟩ := HO.out
      have hL := HL.out
      have hY : Y = [] := by
        have h := congrArg List.length h1
        simp at h
        exact List.length_eq_zero_iff.1 (by omega)
      subst hY
      rw [List.append_nil] at h1
      subst h1
      have H3 : Hid (SO w0 blk off (L ++ (sortC clsOf A ++ ([] ++ R))) wr) := h3
      clear h2 h3 hL HO
      go_wp2
      go_end0
      exact ⟨rfl, H3.out⟩

end Go.Proofs.YtmhaknejeobfgabGreatDoor

/- SortSymA. -/
namespace Go.Proofs.YtmhaknejeobfgabGreatDoor
open Go.RowKit Go.Proofs.YtmhaknejeobfgabGreatDoor.Stable
attribute [local go_sem ↓] Go.wp_at_zero Go.wp_at_succ

variable {w0 W : World} {blk off bx : Nat}

/-- Between i and j of a sorted row the first place is sought whose element is not below x. -/
def FindAt (x : Int) (Y : List Int) (i j : Nat) : Prop := i ≤ j ∧ j ≤ Y.length ∧ (∀ y ∈ Y.take i, clsOf y < clsOf x) ∧ (∀ y ∈ Y.drop j, clsOf x ≤ clsOf y)

theorem FindAt.up {x : Int} {Y : List Int} {i j h : Nat} (H : FindAt x Y i j) (hs : SortedC clsOf Y) (hj : h < j) (_hi : i ≤ h) (hh : clsOf (Y[h]?.getD 0) < clsOf x) : FindAt x Y (h + 1) j := by
  obtain ⟨h1, h2, h3, h4⟩ := H
  refine ⟨by omega, h2, ?_, h4⟩
  intro y hy
  have hhY : h < Y.length := by omega
  rw [List.take_succ_eq_append_getElem hhY] at hy
  have e : Y[h]?.getD 0 = Y[h] := by simp [hhY]
  rw [e] at hh
  rcases List.mem_append.1 hy with hy | hy
  · have hY : Y = Y.take h ++ Y.drop h := (List.take_append_drop h Y).symm
    unfold SortedC at hs
    rw [hY] at hs
    obtain ⟨_, _, hs3⟩ := List.pairwise_append.1 hs
    have := hs3 y hy Y[h] (by rw [List.drop_eq_getElem_cons hhY]; exact List.mem_cons_self)
    omega
  · have : y = Y[h] := by simpa using hy
    rw [this]; exact hh

theorem FindAt.down {x : Int} {Y : List Int} {i j h : Nat} (H : FindAt x Y i j) (hs : SortedC clsOf Y) (hj : h < j) (hi : i ≤ h) (hh : ¬ clsOf (Y[h]?.getD 0) < clsOf x) : FindAt x Y i h := by
  obtain ⟨h1, h2, h3, h4⟩ := H
  refine ⟨hi, by omega, h3, ?_⟩
  intro y hy
  have hhY : h < Y.length := by omega
  have e : Y[h]?.getD 0 = Y[h] := by simp [hhY]
  rw [e] at hh
  rw [List.drop_eq_getElem_cons hhY] at hy
  rcases List.mem_cons.1 hy with rfl | hy
  · omega
  · have hY : Y = Y.take (h + 1) ++ Y.drop (h + 1) := (List.take_append_drop (h + 1) Y).symm
    unfold SortedC at hs
    rw [hY] at hs
    obtain ⟨_, _, hs3⟩ := List.pairwise_append.1 hs
    have := hs3 Y[h] (by rw [List.take_succ_eq_append_getElem hhY]; exact List.mem_append_right _ List.mem_cons_self) y hy
    omega

/-- x passes over Y1, one by one. -/
def PassAt (L : List Int) (x : Int) (Y1 R : List Int) (t : Nat) (w0 : World) (blk off : Nat) (W : World) : Prop := SO w0 blk off (L ++ (Y1.take t ++ x :: (Y1.drop t ++ R))) W

theorem PassAt.drewN {L : List Int} {x : Int} {Y1 R : List Int} {t : Nat} (h : PassAt L x Y1 R t w0 blk off W) (q : Nat) : PassAt L x Y1 R t w0 blk off (W.drewN q) := SO.drewN h q

theorem PassAt.step {L : List Int} {x : Int} {Y1 R : List Int} {t : Nat} (h : PassAt L x Y1 R t w0 blk off W) (ht : t < Y1.length) :
    ∃ y R', SO w0 blk off ((L ++ Y1.take t) ++ x :: ([] ++ y :: R')) W ∧ ∀ W', SO w0 blk off ((L ++ Y1.take t) ++ y :: ([] ++ x :: R')) W' → PassAt L x Y1 R (t + 1) w0 blk off W' := by
  refine ⟨Y1[t], Y1.drop (t + 1) ++ R, ?_, fun W' h' => ?_⟩
  · unfold PassAt at h
    rw [List.drop_eq_getElem_cons ht] at h
    simpa only [List.append_assoc, List.cons_append, List.nil_append] using h
  · unfold PassAt
    rw [List.take_succ_eq_append_getElem ht]
    simpa only [List.append_assoc, List.cons_append, List.nil_append] using h'

set_option maxRecDepth 100000 in
set_option maxHeartbeats 3200000 in
theorem symA_calls (hC : CmpAt w0 blk bx) (L : List Int) (x : Int) (Y R : List Int) (N cap : Nat) (a m b : Int) (hN : (L ++ (x :: (Y ++ R))).length = N) (hNb : N ≤ 1099511627776) (ha : a = L.length) (hm : m = L.length + 1) (hb : b = L.length + 1 + Y.length) (hR : ∀ z ∈ x :: Y, inRange z) (hs : SortedC clsOf Y) (S : SO w0 blk off (L ++ (x :: (Y ++ R))) W) :
    Calls Tryz.prog 159 #[.slice (some ⟨blk, off, none⟩) N cap, .int .i64 a, .int .i64 m, .int .i64 b, .func (.func 135) #[] #[.pointer (some ⟨bx, 0, none⟩)]] W fun e w' => e = .returned (.tuple #[]) ∧ SO w0 blk off (L ++ (sortC clsOf (x :: Y) ++ R)) w' := by
  obtain ⟨aN, haN⟩ : ∃ q, q = L.length := ⟨_, rfl⟩
  obtain ⟨yN, hyN⟩ : ∃ q, q = Y.length := ⟨_, rfl⟩
  have hlen : aN + 1 + yN + R.length = N := by rw [← hN, haN, hyN]; simp; omega
  have ea : a = (aN : Int) := by omega
  have em : m = (aN : Int) + 1 := by omega
  have eb : b = (aN : Int) + 1 + (yN : Int) := by omega
  have HL : Hid (aN = L.length ∧ yN = Y.length) := ⟨haN, hyN⟩
  have HS : Hid (SO w0 blk off (L ++ (x :: (Y ++ R))) W) := S
  have HR : Hid (∀ z ∈ x :: Y, inRange z) := hR
  have HC : Hid (CmpAt w0 blk bx) := hC
  have HT : Hid (SortedC clsOf Y) := hs
  have hle : aN + 1 + yN ≤ N := by omega
  subst ea em eb
  clear S hN ha hm hb hR hC hs haN hyN hlen
  have t0 : ((aN : Int) + 1 - (aN : Int) == 1) = true := by simp; omega
  go_enter Tryz.func159, Tryz.ntmps159
  go_wp2
  go_loopw [10, 11] (fun vi vj wr => ∃ i j : Nat, vi = .int .i64 ((aN : Int) + 1 + (i : Int)) ∧ vj = .int .i64 ((aN : Int) + 1 + (j : Int)) ∧ i ≤ j ∧ j ≤ yN ∧ Hid (FindAt x Y i j ∧ SO w0 blk off (L ++ (x :: (Y ++ R))) wr)) (fun vi vj _ => (intOf vj).toNat - (intOf vi).toNat)
  case atStart => exact ⟨0, yN, by first | rfl | go_num, by first | rfl | go_num, Nat.zero_le _, Nat.le_refl _, ⟨by omega, by rw [HL.out.2]; exact Nat.le_refl _, by simp, by rw [HL.out.2]; simp⟩, HS.out⟩
  case round =>
    clear HS
    obtain ⟨i, j, rfl, rfl, hij, hjy, HF⟩ := hrel
    by_cases hlt : i < j
    · have t1 : (aN : Int) + 1 + (i : Int) < (aN : Int) + 1 + (j : Int) := by omega
      obtain ⟨h, hh⟩ : ∃ h, h = (i + j) / 2 := ⟨_, rfl⟩
      have hih : i ≤ h := by omega
      have hhj : h < j := by omega
      obtain ⟨hq, hhq⟩ : ∃ q, q = aN + 1 + h := ⟨_, rfl⟩
      have eh : ((aN : Int) + 1 + (i : Int) + ((aN : Int) + 1 + (j : Int))) / 2 = (hq : Int) := by omega
      have hSO := HF.out.2
      have hL := HL.out
      have hYh : Y[h]?.getD 0 = Y[h]'(by omega) := by simp [show h < Y.length by omega]
      have c1 : wr.cell? ⟨blk, off + hq, none⟩ = some (.int .i32 (Y[h]?.getD 0)) := by
        have hc := hSO.cell (j := hq) (by simp; omega)
        rw [hc]
        congr 2
        rw [show hq = L.length + (1 + h) by omega, List.getElem?_append_right (by omega), show L.length + (1 + h) - L.length = h + 1 by omega, List.getElem?_cons_succ, List.getElem?_append_left (by omega)]
      have c2 : wr.cell? ⟨blk, off + aN, none⟩ = some (.int .i32 x) := by
        have hc := hSO.cell (j := aN) (by simp; omega)
        rw [hc, hL.1]
        simp
      have hyr : inRange (Y[h]?.getD 0) := HR.out _ (by rw [hYh]; exact List.mem_cons_of_mem _ (List.getElem_mem _))
      have hxr : inRange x := HR.out _ (by simp)
      have hcm := fun q => cmp_calls HC.out (hSO.1.drewN q) (Y[h]?.getD 0) x hyr hxr
      have hup := fun hv => HF.out.1.up HT.out hhj hih hv
      have hdn := fun hv => HF.out.1.down HT.out hhj hih hv
      have HSO : Hid (SO w0 blk off (L ++ (x :: (Y ++ R))) wr) := hSO
      generalize Y[h]?.getD 0 = y at c1 hcm hup hdn
      have HCM : Hid (∀ q, Calls Tryz.prog 135 #[.int .i32 y, .int .i32 x, .pointer (some ⟨bx, 0, none⟩)] (wr.drewN q) fun e w' => e = .returned (.int .i64 (Lib.compareInt (clsOf y) (clsOf x))) ∧ ∃ q', w' = (wr.drewN q).drewN q') := hcm
      have HUP : Hid ((clsOf y < clsOf x → FindAt x Y (h + 1) j) ∧ (¬ clsOf y < clsOf x → FindAt x Y i h)) := ⟨hup, hdn⟩
      have i1 : (0 : Int) ≤ (hq : Int) := by omega
      have i2 : (hq : Int) < (N : Int) := by omega
      have i3 : (0 : Int) ≤ (aN : Int) := by omega
      have i4 : (aN : Int) < (N : Int) := by omega
      clear hSO hL hYh hyr hxr hcm hup hdn HF hh
      have hq2 : (hq : Int) + 1 = (aN : Int) + 1 + ((h + 1 : Nat) : Int) := by omega
      have hq3 : (hq : Int) = (aN : Int) + 1 + (h : Int) := by omega
      have HQ : Hid ((hq : Int) + 1 = (aN : Int) + 1 + ((h + 1 : Nat) : Int) ∧ (hq : Int) = (aN : Int) + 1 + (h : Int)) := ⟨hq2, hq3⟩
      clear hhq hq2 hq3
      by_cases hv : clsOf y < clsOf x
      · have hd1 : decide (Lib.compareInt (clsOf y) (clsOf x) < 0) = true := decide_eq_true (compare_lt.2 hv)
        have hv1 : Lib.compareInt (clsOf y) (clsOf x) < 0 := compare_lt.2 hv
        have HV : Hid (clsOf y < clsOf x) := hv
        clear hv
        go_wp2_with fail
        go_quiet ((go_at_call 135; exact Calls.quiet_of (HCM.out _)))
        go_wp2
        refine ⟨⟨h + 1, j, by rw [HQ.out.1], rfl, by omega, hjy, HUP.out.1 HV.out, HSO.out.drewN _⟩, by simp [intOf]; have := HQ.out; omega⟩
      · have hd1 : decide (Lib.compareInt (clsOf y) (clsOf x) < 0) = false := decide_eq_false (fun h => hv (compare_lt.1 h))
        have hv1 : ¬ Lib.compareInt (clsOf y) (clsOf x) < 0 := fun h => hv (compare_lt.1 h)
        have HV : Hid (¬ clsOf y < clsOf x) := hv
        clear hv
        go_wp2_with fail
        go_quiet ((go_at_call 135; exact Calls.quiet_of (HCM.out _)))
        go_wp2
        refine ⟨⟨i, h, rfl, by rw [HQ.out.2], hih, by omega, HUP.out.2 HV.out, HSO.out.drewN _⟩, by simp [intOf]; have := HQ.out; omega⟩
    · obtain rfl : i = j := by omega
      have hL := HL.out
      have hmerge : Y.take i ++ x :: Y.drop i = sortC clsOf (x :: Y) := by
        obtain ⟨_, _, h3, h4⟩ := HF.out.1
        have h := merge_one_left (cls := clsOf) (x := x) (Y1 := Y.take i) (Y2 := Y.drop i) (by rw [List.take_append_drop]; exact HT.out) h3 h4
        rw [List.take_append_drop] at h
        exact h
      have HM : Hid (Y.take i ++ x :: Y.drop i = sortC clsOf (x :: Y)) := hmerge
      have H0 : Hid (PassAt L x (Y.take i) (Y.drop i ++ R) 0 w0 blk off wr) := by
        show PassAt _ _ _ _ _ _ _ _ _
        unfold PassAt
        rw [List.take_zero, List.drop_zero, List.nil_append, ← List.append_assoc (Y.take i), List.take_append_drop]
        exact HF.out.2
      have hYl : (Y.take i).length = i := by simp; omega
      have HY : Hid ((Y.take i).length = i) := hYl
      clear hmerge HF hYl hL hij
      generalize Y.take i = Y1 at HM H0 HY
      go_wp2
      go_loopw [13] (fun vk wr2 => ∃ t : Nat, vk = .int .i64 ((aN : Int) + (t : Int)) ∧ t ≤ i ∧ Hid (PassAt L x Y1 (Y.drop i ++ R) t w0 blk off wr2)) (fun vk _ => aN + i - (intOf vk).toNat)
      case atStart => exact ⟨0, by first | rfl | go_num, Nat.zero_le _, H0⟩
      case round =>
        clear H0
        obtain ⟨t, rfl, hti, HP⟩ := hrel
        by_cases hlt2 : t < i
        · obtain ⟨y, R', hsplit, hnext⟩ := HP.out.step (by rw [HY.out]; exact hlt2)
          have hL := HL.out
          obtain ⟨p, hp⟩ : ∃ q, q = aN + t := ⟨_, rfl⟩
          have hYl : (Y1.take t).length = t := by have := HY.out; simp; omega
          obtain ⟨c1, c2, c3, c3', f1, f2, c4, c4'⟩ := hsplit.exchange (p1 := p) (p2 := p + 1) (by rw [hp]; simp [hYl]; omega) (by rw [hp]; simp [hYl]; omega)
          have HN : Hid (PassAt L x Y1 (Y.drop i ++ R) (t + 1) w0 blk off ((wr.setCell ⟨blk, off + p, none⟩ (.int .i32 y)).setCell ⟨blk, off + (p + 1), none⟩ (.int .i32 x))) := hnext _ c4
          have e1 : (aN : Int) + (t : Int) = (p : Int) := by omega
          have g1 : (p : Int) < (aN : Int) + 1 + (i : Int) - 1 := by omega
          have u1 : ((p : Int) + 1).toNat = p + 1 := by omega
          have i1 : (0 : Int) ≤ (p : Int) := by omega
          have i2 : (p : Int) < (N : Int) := by omega
          have i3 : (0 : Int) ≤ (p : Int) + 1 := by omega
          have i4 : (p : Int) + 1 < (N : Int) := by omega
          have HE : Hid ((p : Int) + 1 = (aN : Int) + ((t + 1 : Nat) : Int)) := by show _ = _; omega
          clear hsplit hnext c4 c4' hL hYl hp HP
          rw [e1]
          go_wp2_with fail
          go_region
          go_wp2
          refine ⟨⟨t + 1, by rw [HE.out], by omega, ?_⟩, by have := HE.out; simp [intOf]; omega⟩
          exact HN.out.drewN _
        · obtain rfl : t = i := by omega
          have hfin : SO w0 blk off (L ++ (sortC clsOf (x :: Y) ++ R)) wr := by
            have h := HP.out
            unfold PassAt at h
            rw [List.take_of_length_le (by rw [HY.out]; omega), List.drop_of_length_le (by rw [HY.out]; omega)] at h
            rw [← HM.out]
            simpa using h
          have HFI : Hid (SO w0 blk off (L ++ (sortC clsOf (x :: Y) ++ R)) wr) := hfin
          have g1 : ¬ ((aN : Int) + (t : Int) < (aN : Int) + 1 + (t : Int) - 1) := by omega
          clear hfin HP
          go_wp2
          refine bodyPost_ret (results_none rfl _ _ _) rfl ?_
          exact ⟨rfl, HFI.out⟩

end Go.Proofs.YtmhaknejeobfgabGreatDoor

/- SortSymB. -/
namespace Go.Proofs.YtmhaknejeobfgabGreatDoor
open Go.RowKit Go.Proofs.YtmhaknejeobfgabGreatDoor.Stable
attribute [local go_sem ↓] Go.wp_at_zero Go.wp_at_succ

variable {w0 W : World} {blk off bx : Nat}

/-- Between i and j of a sorted row the first place is sought whose element is above y. -/
def FindB (y : Int) (X : List Int) (i j : Nat) : Prop := i ≤ j ∧ j ≤ X.length ∧ (∀ z ∈ X.take i, clsOf z ≤ clsOf y) ∧ (∀ z ∈ X.drop j, clsOf y < clsOf z)

theorem FindB.up {y : Int} {X : List Int} {i j h : Nat} (H : FindB y X i j) (hs : SortedC clsOf X) (hj : h < j) (_hi : i ≤ h) (hh : ¬ clsOf y < clsOf (X[h]?.getD 0)) : FindB y X (h + 1) j := by
  obtain ⟨h1, h2, h3, h4⟩ := H
  refine ⟨by omega, h2, ?_, h4⟩
  intro z hz
  have hhY : h < X.length := by omega
  rw [List.take_succ_eq_append_getElem hhY] at hz
  have e : X[h]?.getD 0 = X[h] := by simp [hhY]
  rw [e] at hh
  rcases List.mem_append.1 hz with hz | hz
  · have hY : X = X.take h ++ X.drop h := (List.take_append_drop h X).symm
    unfold SortedC at hs
    rw [hY] at hs
    obtain ⟨_, _, hs3⟩ := List.pairwise_append.1 hs
    have := hs3 z hz X[h] (by rw [List.drop_eq_getElem_cons hhY]; exact List.mem_cons_self)
    omega
  · have : z = X[h] := by simpa using hz
    rw [this]; omega

theorem FindB.down {y : Int} {X : List Int} {i j h : Nat} (H : FindB y X i j) (hs : SortedC clsOf X) (hj : h < j) (hi : i ≤ h) (hh : clsOf y < clsOf (X[h]?.getD 0)) : FindB y X i h := by
  obtain ⟨h1, h2, h3, h4⟩ := H
  refine ⟨hi, by omega, h3, ?_⟩
  intro z hz
  have hhY : h < X.length := by omega
  have e : X[h]?.getD 0 = X[h] := by simp [hhY]
  rw [e] at hh
  rw [List.drop_eq_getElem_cons hhY] at hz
  rcases List.mem_cons.1 hz with rfl | hz
  · omega
  · have hY : X = X.take (h + 1) ++ X.drop (h + 1) := (List.take_append_drop (h + 1) X).symm
    unfold SortedC at hs
    rw [hY] at hs
    obtain ⟨_, _, hs3⟩ := List.pairwise_append.1 hs
    have := hs3 X[h] (by rw [List.take_succ_eq_append_getElem hhY]; exact List.mem_append_right _ List.mem_cons_self) z hz
    omega

theorem PassAt.back {L : List Int} {y : Int} {X2 R : List Int} {r : Nat} (h : PassAt L y X2 R (r + 1) w0 blk off W) (hr : r < X2.length) :
    ∃ z R', SO w0 blk off ((L ++ X2.take r) ++ z :: ([] ++ y :: R')) W ∧ ∀ W', SO w0 blk off ((L ++ X2.take r) ++ y :: ([] ++ z :: R')) W' → PassAt L y X2 R r w0 blk off W' := by
  refine ⟨X2[r], X2.drop (r + 1) ++ R, ?_, fun W' h' => ?_⟩
  · unfold PassAt at h
    rw [List.take_succ_eq_append_getElem hr] at h
    simpa only [List.append_assoc, List.cons_append, List.nil_append] using h
  · unfold PassAt
    rw [List.drop_eq_getElem_cons hr]
    simpa only [List.append_assoc, List.cons_append, List.nil_append] using h'

set_option maxRecDepth 100000 in
set_option maxHeartbeats 3200000 in
theorem symB_calls (hC : CmpAt w0 blk bx) (L X : List Int) (y : Int) (R : List Int) (N cap : Nat) (a m b : Int) (hX2 : 2 ≤ X.length) (hN : (L ++ (X ++ y :: R)).length = N) (hNb : N ≤ 1099511627776) (ha : a = L.length) (hm : m = L.length + X.length) (hb : b = L.length + X.length + 1) (hR : ∀ z ∈ X ++ [y], inRange z) (hs : SortedC clsOf X) (S : SO w0 blk off (L ++ (X ++ y :: R)) W) :
    Calls Tryz.prog 159 #[.slice (some ⟨blk, off, none⟩) N cap, .int .i64 a, .int .i64 m, .int .i64 b, .func (.func 135) #[] #[.pointer (some ⟨bx, 0, none⟩)]] W fun e w' => e = .returned (.tuple #[]) ∧ SO w0 blk off (L ++ (sortC clsOf (X ++ [y]) ++ R)) w' := by
  obtain ⟨aN, haN⟩ : ∃ q, q = L.length := ⟨_, rfl⟩
  obtain ⟨xN, hxN⟩ : ∃ q, q = X.length := ⟨_, rfl⟩
  have hlen : aN + xN + 1 + R.length = N := by rw [← hN, haN, hxN]; simp; omega
  have ea : a = (aN : Int) := by omega
  have em : m = (aN : Int) + (xN : Int) := by omega
  have eb : b = (aN : Int) + (xN : Int) + 1 := by omega
  have HL : Hid (aN = L.length ∧ xN = X.length) := ⟨haN, hxN⟩
  have HS : Hid (SO w0 blk off (L ++ (X ++ y :: R)) W) := S
  have HR : Hid (∀ z ∈ X ++ [y], inRange z) := hR
  have HC : Hid (CmpAt w0 blk bx) := hC
  have HT : Hid (SortedC clsOf X) := hs
  have hle : aN + xN + 1 ≤ N := by omega
  have hx2 : 2 ≤ xN := by omega
  subst ea em eb
  clear S hN ha hm hb hR hC hs haN hxN hlen hX2
  have t0 : ((aN : Int) + (xN : Int) - (aN : Int) == 1) = false := by simp; omega
  have t00 : ((aN : Int) + (xN : Int) + 1 - ((aN : Int) + (xN : Int)) == 1) = true := by simp; omega
  go_enter Tryz.func159, Tryz.ntmps159
  go_wp2
  go_loopw [14, 15] (fun vi vj wr => ∃ i j : Nat, vi = .int .i64 ((aN : Int) + (i : Int)) ∧ vj = .int .i64 ((aN : Int) + (j : Int)) ∧ i ≤ j ∧ j ≤ xN ∧ Hid (FindB y X i j ∧ SO w0 blk off (L ++ (X ++ y :: R)) wr)) (fun vi vj _ => (intOf vj).toNat - (intOf vi).toNat)
  case atStart => exact ⟨0, xN, by first | rfl | go_num, by first | rfl | go_num, Nat.zero_le _, Nat.le_refl _, ⟨by omega, by rw [HL.out.2]; exact Nat.le_refl _, by simp, by rw [HL.out.2]; simp⟩, HS.out⟩
  case round =>
    clear HS
    obtain ⟨i, j, rfl, rfl, hij, hjy, HF⟩ := hrel
    by_cases hlt : i < j
    · have t1 : (aN : Int) + (i : Int) < (aN : Int) + (j : Int) := by omega
      obtain ⟨h, hh⟩ : ∃ h, h = (i + j) / 2 := ⟨_, rfl⟩
      have hih : i ≤ h := by omega
      have hhj : h < j := by omega
      obtain ⟨hq, hhq⟩ : ∃ q, q = aN + h := ⟨_, rfl⟩
      obtain ⟨mq, hmq⟩ : ∃ q, q = aN + xN := ⟨_, rfl⟩
      have eh : ((aN : Int) + (i : Int) + ((aN : Int) + (j : Int))) / 2 = (hq : Int) := by omega
      have u1 : ((aN : Int) + (xN : Int)).toNat = mq := by omega
      have hSO := HF.out.2
      have hL := HL.out
      have hYh : X[h]?.getD 0 = X[h]'(by omega) := by simp [show h < X.length by omega]
      have c1 : wr.cell? ⟨blk, off + hq, none⟩ = some (.int .i32 (X[h]?.getD 0)) := by
        have hc := hSO.cell (j := hq) (by simp; omega)
        rw [hc]
        congr 2
        rw [show hq = L.length + h by omega, List.getElem?_append_right (by omega), show L.length + h - L.length = h by omega, List.getElem?_append_left (by omega)]
      have c2 : wr.cell? ⟨blk, off + mq, none⟩ = some (.int .i32 y) := by
        have hc := hSO.cell (j := mq) (by simp; omega)
        rw [hc]
        congr 2
        rw [show mq = L.length + X.length by omega, List.getElem?_append_right (by omega), show L.length + X.length - L.length = X.length by omega, List.getElem?_append_right (by omega)]
        simp
      have hyr : inRange (X[h]?.getD 0) := HR.out _ (by rw [hYh]; exact List.mem_append_left _ (List.getElem_mem _))
      have hxr : inRange y := HR.out _ (by simp)
      have hcm := fun q => cmp_calls HC.out (hSO.1.drewN q) y (X[h]?.getD 0) hxr hyr
      have hup := fun hv => HF.out.1.up HT.out hhj hih hv
      have hdn := fun hv => HF.out.1.down HT.out hhj hih hv
      have HSO : Hid (SO w0 blk off (L ++ (X ++ y :: R)) wr) := hSO
      generalize X[h]?.getD 0 = x at c1 hcm hup hdn
      have HCM : Hid (∀ q, Calls Tryz.prog 135 #[.int .i32 y, .int .i32 x, .pointer (some ⟨bx, 0, none⟩)] (wr.drewN q) fun e w' => e = .returned (.int .i64 (Lib.compareInt (clsOf y) (clsOf x))) ∧ ∃ q', w' = (wr.drewN q).drewN q') := hcm
      have HUP : Hid ((¬ clsOf y < clsOf x → FindB y X (h + 1) j) ∧ (clsOf y < clsOf x → FindB y X i h)) := ⟨hup, hdn⟩
      have i1 : (0 : Int) ≤ (hq : Int) := by omega
      have i2 : (hq : Int) < (N : Int) := by omega
      have i3 : (0 : Int) ≤ (aN : Int) + (xN : Int) := by omega
      have i4 : (aN : Int) + (xN : Int) < (N : Int) := by omega
      clear hSO hL hYh hyr hxr hcm hup hdn HF hh hmq
      have HQ : Hid ((hq : Int) + 1 = (aN : Int) + ((h + 1 : Nat) : Int) ∧ (hq : Int) = (aN : Int) + (h : Int)) := ⟨by omega, by omega⟩
      clear hhq
      by_cases hv : clsOf y < clsOf x
      · have hd1 : decide (Lib.compareInt (clsOf y) (clsOf x) < 0) = true := decide_eq_true (compare_lt.2 hv)
        have hv1 : Lib.compareInt (clsOf y) (clsOf x) < 0 := compare_lt.2 hv
        have HV : Hid (clsOf y < clsOf x) := hv
        clear hv
        go_wp2_with fail
        go_quiet ((go_at_call 135; exact Calls.quiet_of (HCM.out _)))
        go_wp2
        refine ⟨⟨i, h, rfl, by rw [HQ.out.2], hih, by omega, HUP.out.2 HV.out, HSO.out.drewN _⟩, by simp [intOf]; have := HQ.out; omega⟩
      · have hd1 : decide (Lib.compareInt (clsOf y) (clsOf x) < 0) = false := decide_eq_false (fun h => hv (compare_lt.1 h))
        have hv1 : ¬ Lib.compareInt (clsOf y) (clsOf x) < 0 := fun h => hv (compare_lt.1 h)
        have HV : Hid (¬ clsOf y < clsOf x) := hv
        clear hv
        go_wp2_with fail
        go_quiet ((go_at_call 135; exact Calls.quiet_of (HCM.out _)))
        go_wp2
        refine ⟨⟨h + 1, j, by rw [HQ.out.1], rfl, by omega, hjy, HUP.out.1 HV.out, HSO.out.drewN _⟩, by simp [intOf]; have := HQ.out; omega⟩
    · obtain rfl : i = j := by omega
      have hL := HL.out
      have hmerge : X.take i ++ y :: X.drop i = sortC clsOf (X ++ [y]) := by
        obtain ⟨_, _, h3, h4⟩ := HF.out.1
        have h := merge_one_right (cls := clsOf) (y := y) (X1 := X.take i) (X2 := X.drop i) (by rw [List.take_append_drop]; exact HT.out) h3 h4
        rw [List.take_append_drop] at h
        exact h
      have HM : Hid (X.take i ++ y :: X.drop i = sortC clsOf (X ++ [y])) := hmerge
      have H0 : Hid (PassAt (L ++ X.take i) y (X.drop i) R (xN - i) w0 blk off wr) := by
        show PassAt _ _ _ _ _ _ _ _ _
        unfold PassAt
        rw [List.take_of_length_le (show (X.drop i).length ≤ xN - i by simp; omega), List.drop_of_length_le (show (X.drop i).length ≤ xN - i by simp; omega), List.nil_append, List.append_assoc L, ← List.append_assoc (X.take i), List.take_append_drop]
        exact HF.out.2
      have HY : Hid ((X.drop i).length = xN - i ∧ (X.take i).length = i) := ⟨by simp; omega, by simp; omega⟩
      clear hmerge HF hL hij
      generalize X.take i = X1 at HM H0 HY
      generalize X.drop i = X2 at HM H0 HY
      obtain ⟨q, hq⟩ : ∃ q, q = xN - i := ⟨_, rfl⟩
      have e0 : (aN : Int) + (xN : Int) = (aN : Int) + (i : Int) + (q : Int) := by omega
      rw [← hq] at H0 HY
      have HQ : Hid (q = xN - i) := hq
      have hqb : aN + i + q + 1 ≤ N := by omega
      clear hq
      go_wp2
      go_loopw [17] (fun vk wr2 => ∃ r : Nat, vk = .int .i64 ((aN : Int) + (i : Int) + (r : Int)) ∧ r ≤ q ∧ Hid (PassAt (L ++ X1) y X2 R r w0 blk off wr2)) (fun vk _ => (intOf vk).toNat)
      case atStart => exact ⟨q, by first | rfl | (rw [e0]), Nat.le_refl _, H0⟩
      case round =>
        clear H0
        obtain ⟨r, rfl, hrq, HP⟩ := hrel
        rcases Nat.eq_zero_or_pos r with rfl | hpos
        · have hfin : SO w0 blk off (L ++ (sortC clsOf (X ++ [y]) ++ R)) wr := by
            have h := HP.out
            unfold PassAt at h
            rw [List.take_zero, List.drop_zero] at h
            rw [← HM.out]
            simpa using h
          have HFI : Hid (SO w0 blk off (L ++ (sortC clsOf (X ++ [y]) ++ R)) wr) := hfin
          have g1 : ¬ ((aN : Int) + (i : Int) < (aN : Int) + (i : Int) + ((0 : Nat) : Int)) := by omega
          clear hfin HP
          go_wp2
          refine bodyPost_ret (results_none rfl _ _ _) rfl ?_
          exact ⟨rfl, HFI.out⟩
        · obtain ⟨r, rfl⟩ : ∃ q, r = q + 1 := ⟨r - 1, by omega⟩
          obtain ⟨z, R', hsplit, hnext⟩ := HP.out.back (by rw [HY.out.1]; omega)
          have hL := HL.out
          obtain ⟨p, hp⟩ : ∃ q, q = aN + i + r := ⟨_, rfl⟩
          have hYl : (X2.take r).length = r := by have := HY.out; simp; omega
          have hY2 := HY.out.2
          obtain ⟨c1, c2, c3, c3', f1, f2, c4, c4'⟩ := hsplit.exchange (p1 := p) (p2 := p + 1) (by rw [hp]; simp [hYl]; omega) (by rw [hp]; simp [hYl]; omega)
          have HN : Hid (PassAt (L ++ X1) y X2 R r w0 blk off ((wr.setCell ⟨blk, off + (p + 1), none⟩ (.int .i32 z)).setCell ⟨blk, off + p, none⟩ (.int .i32 y))) := hnext _ c4'
          have e1 : (aN : Int) + (i : Int) + ((r + 1 : Nat) : Int) = (p : Int) + 1 := by omega
          have g1 : (aN : Int) + (i : Int) < (p : Int) + 1 := by omega
          have u1 : ((p : Int) + 1).toNat = p + 1 := by omega
          have i1 : (0 : Int) ≤ (p : Int) := by omega
          have i2 : (p : Int) < (N : Int) := by omega
          have i3 : (0 : Int) ≤ (p : Int) + 1 := by omega
          have i4 : (p : Int) + 1 < (N : Int) := by omega
          have HE : Hid ((p : Int) = (aN : Int) + (i : Int) + (r : Int)) := by show _ = _; omega
          clear hsplit hnext c4 c4' hL hYl hY2 hp HP hpos
          rw [e1]
          clear e1
          go_wp2_with fail
          go_region
          go_wp2
          refine ⟨⟨r, by first | rw [HE.out] | (congr 1; have := HE.out; omega), by omega, ?_⟩, by simp [intOf]⟩
          exact HN.out.drewN _

end Go.Proofs.YtmhaknejeobfgabGreatDoor

/- SortSymC. -/
namespace Go.Proofs.YtmhaknejeobfgabGreatDoor
open Go.RowKit Go.Proofs.YtmhaknejeobfgabGreatDoor.Stable

/-- Between s and r the place is sought at which the two blocks X and Y cross; H is half of all. -/
structure Cross (X Y : List Int) (H s0 r0 s r : Nat) : Prop where
  h1 : s0 ≤ s
  h2 : s ≤ r
  h3 : r ≤ r0
  low : s0 < s → clsOf (X[s - 1]?.getD 0) ≤ clsOf (Y[H - s]?.getD 0)
  high : r < r0 → clsOf (Y[H - 1 - r]?.getD 0) < clsOf (X[r]?.getD 0)

theorem sorted_take_le {X : List Int} (hs : SortedC clsOf X) {s : Nat} (h0 : 0 < s) (h : s ≤ X.length) : ∀ z ∈ X.take s, clsOf z ≤ clsOf (X[s - 1]?.getD 0) := by
  intro z hz
  obtain ⟨t, rfl⟩ : ∃ t, s = t + 1 := ⟨s - 1, by omega⟩
  have ht : t < X.length := by omega
  have e : X[t + 1 - 1]?.getD 0 = X[t] := by simp [ht]
  rw [e]
  rw [List.take_succ_eq_append_getElem ht] at hz
  rcases List.mem_append.1 hz with hz | hz
  · have hY : X = X.take t ++ X.drop t := (List.take_append_drop t X).symm
    unfold SortedC at hs
    rw [hY] at hs
    obtain ⟨_, _, hs3⟩ := List.pairwise_append.1 hs
    exact hs3 z hz X[t] (by rw [List.drop_eq_getElem_cons ht]; exact List.mem_cons_self)
  · have : z = X[t] := by simpa using hz
    rw [this]; exact Int.le_refl _

theorem sorted_le_drop {X : List Int} (hs : SortedC clsOf X) {s : Nat} (h : s < X.length) : ∀ z ∈ X.drop s, clsOf (X[s]?.getD 0) ≤ clsOf z := by
  intro z hz
  have e : X[s]?.getD 0 = X[s] := by simp [h]
  rw [e]
  rw [List.drop_eq_getElem_cons h] at hz
  rcases List.mem_cons.1 hz with rfl | hz
  · exact Int.le_refl _
  · have hY : X = X.take (s + 1) ++ X.drop (s + 1) := (List.take_append_drop (s + 1) X).symm
    unfold SortedC at hs
    rw [hY] at hs
    obtain ⟨_, _, hs3⟩ := List.pairwise_append.1 hs
    exact hs3 X[s] (by rw [List.take_succ_eq_append_getElem h]; exact List.mem_append_right _ List.mem_cons_self) z hz

/-- The end of the search. -/
theorem Cross.merge {X Y : List Int} {H s0 r0 s : Nat} (h : Cross X Y H s0 r0 s s) (hX : SortedC clsOf X) (hY : SortedC clsOf Y) (hr1 : r0 ≤ H) (hr2 : r0 ≤ X.length) (hr3 : r0 = H ∨ r0 = X.length) (hs1 : H - s0 ≤ Y.length) (hs2 : s0 = 0 ∨ H - s0 = Y.length) :
    sortC clsOf (X.take s ++ Y.take (H - s)) ++ sortC clsOf (X.drop s ++ Y.drop (H - s)) = sortC clsOf (X ++ Y) := by
  have hs := h.h3
  have hs0 := h.h1
  have hxy : ∀ x ∈ X.drop s, ∀ y ∈ Y.take (H - s), clsOf y < clsOf x := by
    intro x hx y hy
    have hsx : s < X.length := by
      rcases Nat.lt_or_ge s X.length with h | h
      · exact h
      · rw [List.drop_of_length_le h] at hx; simp at hx
    have hsH : 0 < H - s := by
      rcases Nat.eq_zero_or_pos (H - s) with h | h
      · rw [h] at hy; simp at hy
      · exact h
    have hh := h.high (by omega)
    have h1 := sorted_take_le hY hsH (by omega) y hy
    have h2 := sorted_le_drop hX hsx x hx
    rw [show H - s - 1 = H - 1 - s by omega] at h1
    omega
  have hab : ∀ a ∈ X.take s, ∀ b ∈ Y.drop (H - s), clsOf a ≤ clsOf b := by
    intro a ha b hb
    have hs' : 0 < s := by
      rcases Nat.eq_zero_or_pos s with h | h
      · rw [h] at ha; simp at ha
      · exact h
    have hHy : H - s < Y.length := by
      rcases Nat.lt_or_ge (H - s) Y.length with h | h
      · exact h
      · rw [List.drop_of_length_le h] at hb; simp at hb
    have hh := h.low (by omega)
    have h1 := sorted_take_le hX hs' (by omega) a ha
    have h2 := sorted_le_drop hY hHy b hb
    omega
  have hm := merge_halves (cls := clsOf) (A := X.take s) (X := X.drop s) (Y := Y.take (H - s)) (B := Y.drop (H - s)) (by rw [List.take_append_drop]; exact hX) (by rw [List.take_append_drop]; exact hY) hxy hab
  rw [List.take_append_drop, List.take_append_drop] at hm
  exact hm

end Go.Proofs.YtmhaknejeobfgabGreatDoor

/- SortSymD. -/
namespace Go.Proofs.YtmhaknejeobfgabGreatDoor
open Go.RowKit Go.Proofs.YtmhaknejeobfgabGreatDoor.Stable
attribute [local go_sem ↓] Go.wp_at_zero Go.wp_at_succ

variable {w0 : World} {blk off bx cap N : Nat}

/-- What symMerge does with blocks of together at most k elements. -/
def SymOK (w0 : World) (blk off bx cap N k : Nat) : Prop :=
  ∀ (L X Y R : List Int) (W : World) (a m b : Int), X.length + Y.length ≤ k → 0 < X.length → 0 < Y.length → (L ++ (X ++ (Y ++ R))).length = N → a = L.length → m = L.length + X.length → b = L.length + X.length + Y.length → (∀ z ∈ X ++ Y, inRange z) → SortedC clsOf X → SortedC clsOf Y → SO w0 blk off (L ++ (X ++ (Y ++ R))) W →
    Calls Tryz.prog 159 #[.slice (some ⟨blk, off, none⟩) N cap, .int .i64 a, .int .i64 m, .int .i64 b, .func (.func 135) #[] #[.pointer (some ⟨bx, 0, none⟩)]] W fun e w' => e = .returned (.tuple #[]) ∧ SO w0 blk off (L ++ (sortC clsOf (X ++ Y) ++ R)) w'

set_option maxRecDepth 100000 in
set_option maxHeartbeats 6400000 in
theorem symD_calls (hC : CmpAt w0 blk bx) (k : Nat) (ih : SymOK w0 blk off bx cap N k) (hNb : N ≤ 1099511627776) (L X Y R : List Int) (W : World) (a m b : Int) (hk : X.length + Y.length ≤ k + 1) (hX2 : 2 ≤ X.length) (hY2 : 2 ≤ Y.length) (hN : (L ++ (X ++ (Y ++ R))).length = N) (ha : a = L.length) (hm : m = L.length + X.length) (hb : b = L.length + X.length + Y.length) (hR : ∀ z ∈ X ++ Y, inRange z) (hsX : SortedC clsOf X) (hsY : SortedC clsOf Y) (S : SO w0 blk off (L ++ (X ++ (Y ++ R))) W) :
    Calls Tryz.prog 159 #[.slice (some ⟨blk, off, none⟩) N cap, .int .i64 a, .int .i64 m, .int .i64 b, .func (.func 135) #[] #[.pointer (some ⟨bx, 0, none⟩)]] W fun e w' => e = .returned (.tuple #[]) ∧ SO w0 blk off (L ++ (sortC clsOf (X ++ Y) ++ R)) w' := by
  obtain ⟨aN, haN⟩ : ∃ q, q = L.length := ⟨_, rfl⟩
  obtain ⟨xN, hxN⟩ : ∃ q, q = X.length := ⟨_, rfl⟩
  obtain ⟨yN, hyN⟩ : ∃ q, q = Y.length := ⟨_, rfl⟩
  obtain ⟨H, hH⟩ : ∃ q, q = (xN + yN) / 2 := ⟨_, rfl⟩
  have hlen : aN + xN + yN + R.length = N := by rw [← hN, haN, hxN, hyN]; simp; omega
  have ea : a = (aN : Int) := by omega
  have em : m = (aN : Int) + (xN : Int) := by omega
  have eb : b = (aN : Int) + (xN : Int) + (yN : Int) := by omega
  have HL : Hid (aN = L.length ∧ xN = X.length ∧ yN = Y.length) := ⟨haN, hxN, hyN⟩
  have HS : Hid (SO w0 blk off (L ++ (X ++ (Y ++ R))) W) := S
  have HR : Hid (∀ z ∈ X ++ Y, inRange z) := hR
  have HC : Hid (CmpAt w0 blk bx) := hC
  have HT : Hid (SortedC clsOf X ∧ SortedC clsOf Y) := ⟨hsX, hsY⟩
  have HIH : Hid (SymOK w0 blk off bx cap N k) := ih
  have hle : aN + xN + yN ≤ N := by omega
  have hx2 : 2 ≤ xN := by omega
  have hy2 : 2 ≤ yN := by omega
  have hk' : xN + yN ≤ k + 1 := by omega
  have HNN : Hid ((L ++ (X ++ (Y ++ R))).length = N) := hN
  subst ea em eb
  clear S hN ha hm hb hR hC hsX hsY haN hxN hyN hlen hX2 hY2 ih hk
  obtain ⟨mid, hmid⟩ : ∃ q, q = aN + H := ⟨_, rfl⟩
  have t0 : ((aN : Int) + (xN : Int) - (aN : Int) == 1) = false := by simp; omega
  have t00 : ((aN : Int) + (xN : Int) + (yN : Int) - ((aN : Int) + (xN : Int)) == 1) = false := by simp; omega
  have emid : ((aN : Int) + ((aN : Int) + (xN : Int) + (yN : Int))) / 2 = (mid : Int) := by omega
  -- where the search begins
  obtain ⟨s0, r0, hs0, hcase⟩ : ∃ s0 r0, (r0 ≤ H ∧ r0 ≤ xN ∧ (r0 = H ∨ r0 = xN) ∧ H - s0 ≤ yN ∧ (s0 = 0 ∨ H - s0 = yN) ∧ s0 ≤ r0 ∧ H < xN + yN ∧ 0 < H) ∧ ((H < xN ∧ s0 = H - yN ∧ yN ≤ H ∧ r0 = H) ∨ (xN ≤ H ∧ s0 = 0 ∧ r0 = xN)) := by
    rcases Nat.lt_or_ge H xN with h | h
    · exact ⟨H - yN, H, by omega, .inl (by omega)⟩
    · exact ⟨0, xN, by omega, .inr (by omega)⟩
  have HS0 : Hid (r0 ≤ H ∧ r0 ≤ xN ∧ (r0 = H ∨ r0 = xN) ∧ H - s0 ≤ yN ∧ (s0 = 0 ∨ H - s0 = yN) ∧ s0 ≤ r0 ∧ H < xN + yN ∧ 0 < H) := hs0
  have HMID : Hid (mid = aN + H) := hmid
  have hmb : mid ≤ aN + xN + yN := by omega
  have hma : aN ≤ mid := by omega
  clear hs0
  have hstart : Hid (Cross X Y H s0 r0 s0 r0) := ⟨Nat.le_refl _, HS0.out.2.2.2.2.2.1, Nat.le_refl _, fun h => absurd h (Nat.lt_irrefl _), fun h => absurd h (Nat.lt_irrefl _)⟩
  have HCASE : Hid ((H < xN ∧ s0 = H - yN ∧ yN ≤ H ∧ r0 = H) ∨ (xN ≤ H ∧ s0 = 0 ∧ r0 = xN)) := hcase
  clear hcase hmid hH
  go_enter Tryz.func159, Tryz.ntmps159
  go_upto_if 140 with fail
  go_cut [20, 21] (fun vs vr wx => vs = .int .i64 ((aN : Int) + (s0 : Int)) ∧ vr = .int .i64 ((aN : Int) + (r0 : Int)) ∧ wx = W)
  case first =>
    rcases HCASE.out with h | h
    · have g1 : (mid : Int) < (aN : Int) + (xN : Int) := by have := HMID.out; omega
      have es : (mid : Int) + ((aN : Int) + (xN : Int)) - ((aN : Int) + (xN : Int) + (yN : Int)) = (aN : Int) + (s0 : Int) := by have := HMID.out; omega
      have HER : Hid ((mid : Int) = (aN : Int) + (r0 : Int)) := by have := HMID.out; show _ = _; omega
      clear h
      go_wp2
      go_meet
      exact ⟨rfl, by rw [HER.out], rfl⟩
    · have g1 : ¬ ((mid : Int) < (aN : Int) + (xN : Int)) := by have := HMID.out; omega
      have HE : Hid (s0 = 0 ∧ r0 = xN) := ⟨h.2.1, h.2.2⟩
      clear h
      go_wp2
      go_meet
      exact ⟨by rw [HE.out.1]; simp, by rw [HE.out.2], rfl⟩
  case rest =>
  obtain ⟨rfl, rfl, rfl⟩ := hcut
  clear HCASE
  have hH := HS0.out
  have HB : Hid (s0 ≤ r0 ∧ r0 ≤ H ∧ r0 ≤ xN ∧ H - s0 ≤ yN) := ⟨hH.2.2.2.2.2.1, hH.1, hH.2.1, hH.2.2.2.1⟩
  clear hH
  go_wp2
  go_loopw [20, 21] (fun vs vr wr => ∃ s r : Nat, vs = .int .i64 ((aN : Int) + (s : Int)) ∧ vr = .int .i64 ((aN : Int) + (r : Int)) ∧ s ≤ r ∧ r ≤ xN ∧ Hid (Cross X Y H s0 r0 s r ∧ SO w0 blk off (L ++ (X ++ (Y ++ R))) wr)) (fun vs vr _ => (intOf vr).toNat - (intOf vs).toNat)
  case atStart => exact ⟨s0, r0, rfl, rfl, HB.out.1, HB.out.2.2.1, hstart.out, HS.out⟩
  case round =>
    clear HS hstart
    obtain ⟨s, r, rfl, rfl, hsr, hrx, HF⟩ := hrel
    by_cases hlt : s < r
    · have t1 : (aN : Int) + (s : Int) < (aN : Int) + (r : Int) := by omega
      obtain ⟨c, hc⟩ : ∃ h, h = (s + r) / 2 := ⟨_, rfl⟩
      have hsc : s ≤ c := by omega
      have hcr : c < r := by omega
      have hcr0 := HF.out.1.h3
      have hcs0 := HF.out.1.h1
      have hB := HB.out
      have hL := HL.out
      have hM := HMID.out
      have hcH : c < H := by omega
      have hcy : H - 1 - c < yN := by omega
      obtain ⟨cq, hcq⟩ : ∃ q, q = aN + c := ⟨_, rfl⟩
      obtain ⟨pq, hpq⟩ : ∃ q, q = aN + xN + (H - 1 - c) := ⟨_, rfl⟩
      have eh : ((aN : Int) + (s : Int) + ((aN : Int) + (r : Int))) / 2 = (cq : Int) := by omega
      have ep : (mid : Int) + ((aN : Int) + (xN : Int)) - 1 - (cq : Int) = (pq : Int) := by omega
      have hSO := HF.out.2
      have hXc : X[c]?.getD 0 = X[c]'(by omega) := by simp [show c < X.length by omega]
      have hYc : Y[H - 1 - c]?.getD 0 = Y[H - 1 - c]'(by omega) := by simp [show H - 1 - c < Y.length by omega]
      have c1 : wr.cell? ⟨blk, off + cq, none⟩ = some (.int .i32 (X[c]?.getD 0)) := by
        have hcl := hSO.cell (j := cq) (by simp; omega)
        rw [hcl]
        congr 2
        rw [show cq = L.length + c by omega, List.getElem?_append_right (by omega), show L.length + c - L.length = c by omega, List.getElem?_append_left (by omega)]
      have c2 : wr.cell? ⟨blk, off + pq, none⟩ = some (.int .i32 (Y[H - 1 - c]?.getD 0)) := by
        have hcl := hSO.cell (j := pq) (by simp; omega)
        rw [hcl]
        congr 2
        rw [show pq = L.length + (X.length + (H - 1 - c)) by omega, List.getElem?_append_right (by omega), show L.length + (X.length + (H - 1 - c)) - L.length = X.length + (H - 1 - c) by omega, List.getElem?_append_right (by omega), show X.length + (H - 1 - c) - X.length = H - 1 - c by omega, List.getElem?_append_left (by omega)]
      have hxr : inRange (X[c]?.getD 0) := HR.out _ (by rw [hXc]; exact List.mem_append_left _ (List.getElem_mem _))
      have hyr : inRange (Y[H - 1 - c]?.getD 0) := HR.out _ (by rw [hYc]; exact List.mem_append_right _ (List.getElem_mem _))
      have hcm := fun q => cmp_calls HC.out (hSO.1.drewN q) (Y[H - 1 - c]?.getD 0) (X[c]?.getD 0) hyr hxr
      have hup : ¬ clsOf (Y[H - 1 - c]?.getD 0) < clsOf (X[c]?.getD 0) → Cross X Y H s0 r0 (c + 1) r := fun hv => ⟨by omega, by omega, hcr0, fun _ => (by rw [show c + 1 - 1 = c by omega, show H - (c + 1) = H - 1 - c by omega]; omega), HF.out.1.high⟩
      have hdn : clsOf (Y[H - 1 - c]?.getD 0) < clsOf (X[c]?.getD 0) → Cross X Y H s0 r0 s c := fun hv => ⟨hcs0, hsc, by omega, HF.out.1.low, fun _ => hv⟩
      have HSO : Hid (SO w0 blk off (L ++ (X ++ (Y ++ R))) wr) := hSO
      generalize X[c]?.getD 0 = x at c1 hcm hup hdn
      generalize Y[H - 1 - c]?.getD 0 = y at c2 hcm hup hdn
      have HCM : Hid (∀ q, Calls Tryz.prog 135 #[.int .i32 y, .int .i32 x, .pointer (some ⟨bx, 0, none⟩)] (wr.drewN q) fun e w' => e = .returned (.int .i64 (Lib.compareInt (clsOf y) (clsOf x))) ∧ ∃ q', w' = (wr.drewN q).drewN q') := hcm
      have HUP : Hid ((¬ clsOf y < clsOf x → Cross X Y H s0 r0 (c + 1) r) ∧ (clsOf y < clsOf x → Cross X Y H s0 r0 s c)) := ⟨hup, hdn⟩
      have i1 : (0 : Int) ≤ (cq : Int) := by omega
      have i2 : (cq : Int) < (N : Int) := by omega
      have i3 : (0 : Int) ≤ (pq : Int) := by omega
      have i4 : (pq : Int) < (N : Int) := by omega
      have HQ : Hid ((cq : Int) + 1 = (aN : Int) + ((c + 1 : Nat) : Int) ∧ (cq : Int) = (aN : Int) + (c : Int)) := ⟨by omega, by omega⟩
      have hcx : c + 1 ≤ xN := by omega
      clear hSO hL hXc hYc hyr hxr hcm hup hdn HF hc hcq hpq hB hM hcr0 hcs0 hcH hcy
      by_cases hv : clsOf y < clsOf x
      · have hd1 : decide (Lib.compareInt (clsOf y) (clsOf x) < 0) = true := decide_eq_true (compare_lt.2 hv)
        have hv1 : Lib.compareInt (clsOf y) (clsOf x) < 0 := compare_lt.2 hv
        have HV : Hid (clsOf y < clsOf x) := hv
        clear hv
        go_wp2_with fail
        go_quiet ((go_at_call 135; exact Calls.quiet_of (HCM.out _)))
        go_wp2
        refine ⟨⟨s, c, rfl, by rw [HQ.out.2], hsc, by omega, HUP.out.2 HV.out, HSO.out.drewN _⟩, by simp [intOf]; have := HQ.out; omega⟩
      · have hd1 : decide (Lib.compareInt (clsOf y) (clsOf x) < 0) = false := decide_eq_false (fun h => hv (compare_lt.1 h))
        have hv1 : ¬ Lib.compareInt (clsOf y) (clsOf x) < 0 := fun h => hv (compare_lt.1 h)
        have HV : Hid (¬ clsOf y < clsOf x) := hv
        clear hv
        go_wp2_with fail
        go_quiet ((go_at_call 135; exact Calls.quiet_of (HCM.out _)))
        go_wp2
        refine ⟨⟨c + 1, r, by rw [HQ.out.1], rfl, by omega, hrx, HUP.out.1 HV.out, HSO.out.drewN _⟩, by simp [intOf]; have := HQ.out; omega⟩
    · obtain rfl : s = r := by omega
      have hL := HL.out
      have hM := HMID.out
      have hS0 := HS0.out
      have hs3 := HF.out.1.h3
      have hs1 := HF.out.1.h1
      have hfin := HF.out.1.merge HT.out.1 HT.out.2 hS0.1 (by omega) (by omega) (by omega) (by omega)
      have hXe : X = X.take s ++ X.drop s := (List.take_append_drop s X).symm
      have hYe : Y = Y.take (H - s) ++ Y.drop (H - s) := (List.take_append_drop (H - s) Y).symm
      have hSO : SO w0 blk off (L ++ (X.take s ++ (X.drop s ++ (Y.take (H - s) ++ (Y.drop (H - s) ++ R))))) wr := by
        rw [← List.append_assoc (Y.take (H - s)), List.take_append_drop, ← List.append_assoc (X.take s), List.take_append_drop]
        exact HF.out.2
      have hlA : (X.take s).length = s := by simp; omega
      have hlX : (X.drop s).length = xN - s := by simp; omega
      have hlY : (Y.take (H - s)).length = H - s := by simp; omega
      have hlB : (Y.drop (H - s)).length = yN - (H - s) := by simp; omega
      have hsA : SortedC clsOf (X.take s) ∧ SortedC clsOf (X.drop s) := by
        have h := HT.out.1
        unfold SortedC at h
        rw [hXe] at h
        obtain ⟨a, b, _⟩ := List.pairwise_append.1 h
        exact ⟨a, b⟩
      have hsB : SortedC clsOf (Y.take (H - s)) ∧ SortedC clsOf (Y.drop (H - s)) := by
        have h := HT.out.2
        unfold SortedC at h
        rw [hYe] at h
        obtain ⟨a, b, _⟩ := List.pairwise_append.1 h
        exact ⟨a, b⟩
      have hrA : (∀ z ∈ X.take s, inRange z) ∧ (∀ z ∈ X.drop s, inRange z) ∧ (∀ z ∈ Y.take (H - s), inRange z) ∧ (∀ z ∈ Y.drop (H - s), inRange z) :=
        ⟨fun z hz => HR.out z (List.mem_append_left _ (List.mem_of_mem_take hz)), fun z hz => HR.out z (List.mem_append_left _ (List.mem_of_mem_drop hz)), fun z hz => HR.out z (List.mem_append_right _ (List.mem_of_mem_take hz)), fun z hz => HR.out z (List.mem_append_right _ (List.mem_of_mem_drop hz))⟩
      have hNN : (L ++ (X.take s ++ (X.drop s ++ (Y.take (H - s) ++ (Y.drop (H - s) ++ R))))).length = N := by
        rw [← List.append_assoc (Y.take (H - s)), List.take_append_drop, ← List.append_assoc (X.take s), List.take_append_drop]
        exact HNN.out
      generalize X.take s = A at hfin hSO hlA hsA hrA hNN
      generalize X.drop s = X' at hfin hSO hlX hsA hrA hNN
      generalize Y.take (H - s) = Y' at hfin hSO hlY hsB hrA hNN
      generalize Y.drop (H - s) = B at hfin hSO hlB hsB hrA hNN
      have HFIN : Hid (sortC clsOf (A ++ Y') ++ sortC clsOf (X' ++ B) = sortC clsOf (X ++ Y)) := hfin
      have HSO : Hid (SO w0 blk off (L ++ (A ++ (X' ++ (Y' ++ (B ++ R))))) wr) := hSO
      have HLN : Hid (A.length = s ∧ X'.length = xN - s ∧ Y'.length = H - s ∧ B.length = yN - (H - s) ∧ L.length = aN) := ⟨hlA, hlX, hlY, hlB, hL.1.symm⟩
      have HSR : Hid (SortedC clsOf A ∧ SortedC clsOf X' ∧ SortedC clsOf Y' ∧ SortedC clsOf B) := ⟨hsA.1, hsA.2, hsB.1, hsB.2⟩
      have HRA : Hid ((∀ z ∈ A, inRange z) ∧ (∀ z ∈ X', inRange z) ∧ (∀ z ∈ Y', inRange z) ∧ (∀ z ∈ B, inRange z)) := hrA
      have HN2 : Hid ((L ++ (A ++ (X' ++ (Y' ++ (B ++ R))))).length = N) := hNN
      have HSH : Hid (s ≤ H ∧ s ≤ xN ∧ H - s ≤ yN ∧ 0 < H ∧ H < xN + yN ∧ mid = aN + H ∧ xN + yN ≤ k + 1) := ⟨by omega, by omega, by omega, by omega, by omega, hM, hk'⟩
      obtain ⟨eN, heN⟩ : ∃ q, q = aN + xN + (H - s) := ⟨_, rfl⟩
      have ee : (mid : Int) + ((aN : Int) + (xN : Int)) - ((aN : Int) + (s : Int)) = (eN : Int) := by omega
      have HEN : Hid (eN = aN + xN + (H - s)) := heN
      have heb : eN ≤ aN + xN + yN := by omega
      have N1 : Hid ((¬ s < xN ∨ ¬ s < H) → ∀ w, SO w0 blk off (L ++ (A ++ (X' ++ (Y' ++ (B ++ R))))) w → SO w0 blk off (L ++ (A ++ (Y' ++ (X' ++ (B ++ R))))) w) := by
        intro h w hw
        have hl := HLN.out
        rcases h with h | h
        · have : X' = [] := List.length_eq_zero_iff.1 (by omega)
          subst this
          simpa using hw
        · have : Y' = [] := List.length_eq_zero_iff.1 (by omega)
          subst this
          simpa using hw
      have N2 : Hid ((¬ 0 < s ∨ ¬ s < H) → ∀ w, SO w0 blk off (L ++ (A ++ (Y' ++ (X' ++ (B ++ R))))) w → SO w0 blk off (L ++ (sortC clsOf (A ++ Y') ++ (X' ++ (B ++ R)))) w) := by
        intro h w hw
        have hl := HLN.out
        rcases h with h | h
        · have : A = [] := List.length_eq_zero_iff.1 (by omega)
          subst this
          rw [List.nil_append, sortC_fix HSR.out.2.2.1]
          simpa using hw
        · have : Y' = [] := List.length_eq_zero_iff.1 (by omega)
          subst this
          rw [List.append_nil, sortC_fix HSR.out.1]
          simpa using hw
      have N3 : Hid ((¬ s < xN ∨ ¬ H - s < yN) → ∀ w, SO w0 blk off (L ++ (sortC clsOf (A ++ Y') ++ (X' ++ (B ++ R)))) w → SO w0 blk off (L ++ (sortC clsOf (X ++ Y) ++ R)) w) := by
        intro h w hw
        have hl := HLN.out
        have hsh := HSH.out
        rw [← HFIN.out]
        rcases h with h | h
        · have : X' = [] := List.length_eq_zero_iff.1 (by omega)
          subst this
          rw [List.nil_append B, sortC_fix HSR.out.2.2.2]
          simpa using hw
        · have : B = [] := List.length_eq_zero_iff.1 (by omega)
          subst this
          rw [List.append_nil X', sortC_fix HSR.out.2.1]
          simpa using hw
      have R1 : Hid (s < xN ∧ s < H → ∀ w, SO w0 blk off (L ++ (A ++ (X' ++ (Y' ++ (B ++ R))))) w → Calls Tryz.prog 167 #[.slice (some ⟨blk, off, none⟩) N cap, .int .i64 ((aN : Int) + (s : Int)), .int .i64 ((aN : Int) + (xN : Int)), .int .i64 (eN : Int), .func (.func 135) #[] #[.pointer (some ⟨bx, 0, none⟩)]] w fun e w' => e = .returned (.tuple #[]) ∧ SO w0 blk off (L ++ (A ++ (Y' ++ (X' ++ (B ++ R))))) w') := by
        intro h w hw
        have hl := HLN.out
        have hsh := HSH.out
        have hen := HEN.out
        have hn := HN2.out
        refine (rotate_calls (L ++ A) X' Y' (B ++ R) N cap _ _ _ _ (by omega) (by omega) (by simpa using hn) hNb (by simp; omega) (by simp; omega) (by simp; omega) (by simpa using hw)).mono ?_
        rintro e w' ⟨rfl, h2⟩
        exact ⟨rfl, by simpa using h2⟩
      have R2 : Hid (0 < s ∧ s < H → ∀ w, SO w0 blk off (L ++ (A ++ (Y' ++ (X' ++ (B ++ R))))) w → Calls Tryz.prog 159 #[.slice (some ⟨blk, off, none⟩) N cap, .int .i64 (aN : Int), .int .i64 ((aN : Int) + (s : Int)), .int .i64 (mid : Int), .func (.func 135) #[] #[.pointer (some ⟨bx, 0, none⟩)]] w fun e w' => e = .returned (.tuple #[]) ∧ SO w0 blk off (L ++ (sortC clsOf (A ++ Y') ++ (X' ++ (B ++ R)))) w') := by
        intro h w hw
        have hl := HLN.out
        have hsh := HSH.out
        have hn := HN2.out
        refine HIH.out L A Y' (X' ++ (B ++ R)) w _ _ _ (by omega) (by omega) (by omega) (by rw [← hn]; simp; omega) (by omega) (by omega) (by omega) ?_ HSR.out.1 HSR.out.2.2.1 hw
        intro z hz
        rcases List.mem_append.1 hz with hz | hz
        · exact HRA.out.1 z hz
        · exact HRA.out.2.2.1 z hz
      have R3 : Hid (s < xN ∧ H - s < yN → ∀ w, SO w0 blk off (L ++ (sortC clsOf (A ++ Y') ++ (X' ++ (B ++ R)))) w → Calls Tryz.prog 159 #[.slice (some ⟨blk, off, none⟩) N cap, .int .i64 (mid : Int), .int .i64 (eN : Int), .int .i64 ((aN : Int) + (xN : Int) + (yN : Int)), .func (.func 135) #[] #[.pointer (some ⟨bx, 0, none⟩)]] w fun e w' => e = .returned (.tuple #[]) ∧ SO w0 blk off (L ++ (sortC clsOf (X ++ Y) ++ R)) w') := by
        intro h w hw
        have hl := HLN.out
        have hsh := HSH.out
        have hen := HEN.out
        have hn := HN2.out
        have hlen : (sortC clsOf (A ++ Y')).length = H := by rw [sortC_length]; simp; omega
        refine (HIH.out (L ++ sortC clsOf (A ++ Y')) X' B R w _ _ _ (by omega) (by omega) (by omega) (by rw [← hn]; simp [hlen]; omega) (by simp [hlen]; omega) (by simp [hlen]; omega) (by simp [hlen]; omega) ?_ HSR.out.2.1 HSR.out.2.2.2 (by simpa using hw)).mono ?_
        · intro z hz
          rcases List.mem_append.1 hz with hz | hz
          · exact HRA.out.2.1 z hz
          · exact HRA.out.2.2.2 z hz
        · rintro e w' ⟨rfl, h2⟩
          refine ⟨rfl, ?_⟩
          rw [← HFIN.out]
          simpa using h2
      have hsh := HSH.out
      have hen := HEN.out
      clear heN hL hM hS0 hs3 hs1 hfin hXe hYe hSO hlA hlX hlY hlB hsA hsB hrA hNN HF HB HC HS0 HT HR HNN HL hlt hsr hk' HFIN HSR HRA HN2
      by_cases q1 : s < xN
      · by_cases q2 : s < H
        · by_cases q3 : 0 < s
          · by_cases q4 : H - s < yN
            · have g1 : (aN : Int) + (s : Int) < (aN : Int) + (xN : Int) := by omega
              have g2 : (aN : Int) + (xN : Int) < (eN : Int) := by omega
              have g3 : (aN : Int) < (aN : Int) + (s : Int) := by omega
              have g4 : (aN : Int) + (s : Int) < (mid : Int) := by omega
              have g5 : (mid : Int) < (eN : Int) := by omega
              have g6 : (eN : Int) < (aN : Int) + (xN : Int) + (yN : Int) := by omega
              have RR1 : Hid (∀ w, SO w0 blk off (L ++ (A ++ (X' ++ (Y' ++ (B ++ R))))) w → Calls Tryz.prog 167 #[.slice (some ⟨blk, off, none⟩) N cap, .int .i64 ((aN : Int) + (s : Int)), .int .i64 ((aN : Int) + (xN : Int)), .int .i64 (eN : Int), .func (.func 135) #[] #[.pointer (some ⟨bx, 0, none⟩)]] w fun e w' => e = .returned (.tuple #[]) ∧ SO w0 blk off (L ++ (A ++ (Y' ++ (X' ++ (B ++ R))))) w') := R1.out ⟨q1, q2⟩
              have RR2 : Hid (∀ w, SO w0 blk off (L ++ (A ++ (Y' ++ (X' ++ (B ++ R))))) w → Calls Tryz.prog 159 #[.slice (some ⟨blk, off, none⟩) N cap, .int .i64 (aN : Int), .int .i64 ((aN : Int) + (s : Int)), .int .i64 (mid : Int), .func (.func 135) #[] #[.pointer (some ⟨bx, 0, none⟩)]] w fun e w' => e = .returned (.tuple #[]) ∧ SO w0 blk off (L ++ (sortC clsOf (A ++ Y') ++ (X' ++ (B ++ R)))) w') := R2.out ⟨q3, q2⟩
              have RR3 : Hid (∀ w, SO w0 blk off (L ++ (sortC clsOf (A ++ Y') ++ (X' ++ (B ++ R)))) w → Calls Tryz.prog 159 #[.slice (some ⟨blk, off, none⟩) N cap, .int .i64 (mid : Int), .int .i64 (eN : Int), .int .i64 ((aN : Int) + (xN : Int) + (yN : Int)), .func (.func 135) #[] #[.pointer (some ⟨bx, 0, none⟩)]] w fun e w' => e = .returned (.tuple #[]) ∧ SO w0 blk off (L ++ (sortC clsOf (X ++ Y) ++ R)) w') := R3.out ⟨q1, q4⟩
              clear N1 N2 N3 R1 R2 R3 q1 q2 q3 q4 hsh hen HSH HEN HLN
              go_wp2_with fail
              refine (RR1.out _ HSO.out).mono ?_
              rintro e w1 ⟨rfl, k1⟩
              have K1 : Hid (SO w0 blk off (L ++ (A ++ (Y' ++ (X' ++ (B ++ R))))) w1) := k1
              clear k1
              go_wp2_with fail
              refine (RR2.out _ K1.out).mono ?_
              rintro e w2 ⟨rfl, k2⟩
              have K2 : Hid (SO w0 blk off (L ++ (sortC clsOf (A ++ Y') ++ (X' ++ (B ++ R)))) w2) := k2
              clear k2
              go_wp2_with fail
              refine (RR3.out _ K2.out).mono ?_
              rintro e w3 ⟨rfl, k3⟩
              have K3 : Hid (SO w0 blk off (L ++ (sortC clsOf (X ++ Y) ++ R)) w3) := k3
              clear k3
              go_wp2
              all_goals go_end0
              all_goals exact ⟨rfl, K3.out⟩
            · have g1 : (aN : Int) + (s : Int) < (aN : Int) + (xN : Int) := by omega
              have g2 : (aN : Int) + (xN : Int) < (eN : Int) := by omega
              have g3 : (aN : Int) < (aN : Int) + (s : Int) := by omega
              have g4 : (aN : Int) + (s : Int) < (mid : Int) := by omega
              have g5 : (mid : Int) < (eN : Int) := by omega
              have g6 : ¬ ((eN : Int) < (aN : Int) + (xN : Int) + (yN : Int)) := by omega
              have RR1 : Hid (∀ w, SO w0 blk off (L ++ (A ++ (X' ++ (Y' ++ (B ++ R))))) w → Calls Tryz.prog 167 #[.slice (some ⟨blk, off, none⟩) N cap, .int .i64 ((aN : Int) + (s : Int)), .int .i64 ((aN : Int) + (xN : Int)), .int .i64 (eN : Int), .func (.func 135) #[] #[.pointer (some ⟨bx, 0, none⟩)]] w fun e w' => e = .returned (.tuple #[]) ∧ SO w0 blk off (L ++ (A ++ (Y' ++ (X' ++ (B ++ R))))) w') := R1.out ⟨q1, q2⟩
              have RR2 : Hid (∀ w, SO w0 blk off (L ++ (A ++ (Y' ++ (X' ++ (B ++ R))))) w → Calls Tryz.prog 159 #[.slice (some ⟨blk, off, none⟩) N cap, .int .i64 (aN : Int), .int .i64 ((aN : Int) + (s : Int)), .int .i64 (mid : Int), .func (.func 135) #[] #[.pointer (some ⟨bx, 0, none⟩)]] w fun e w' => e = .returned (.tuple #[]) ∧ SO w0 blk off (L ++ (sortC clsOf (A ++ Y') ++ (X' ++ (B ++ R)))) w') := R2.out ⟨q3, q2⟩
              have NN3 : Hid (∀ w, SO w0 blk off (L ++ (sortC clsOf (A ++ Y') ++ (X' ++ (B ++ R)))) w → SO w0 blk off (L ++ (sortC clsOf (X ++ Y) ++ R)) w) := N3.out (.inr q4)
              clear N1 N2 N3 R1 R2 R3 q1 q2 q3 q4 hsh hen HSH HEN HLN
              go_wp2_with fail
              refine (RR1.out _ HSO.out).mono ?_
              rintro e w1 ⟨rfl, k1⟩
              have K1 : Hid (SO w0 blk off (L ++ (A ++ (Y' ++ (X' ++ (B ++ R))))) w1) := k1
              clear k1
              go_wp2_with fail
              refine (RR2.out _ K1.out).mono ?_
              rintro e w2 ⟨rfl, k2⟩
              have K2 : Hid (SO w0 blk off (L ++ (sortC clsOf (A ++ Y') ++ (X' ++ (B ++ R)))) w2) := k2
              clear k2
              go_wp2
              all_goals go_end0
              all_goals exact ⟨rfl, (NN3.out _ K2.out)⟩
          · by_cases q4 : H - s < yN
            · have g1 : (aN : Int) + (s : Int) < (aN : Int) + (xN : Int) := by omega
              have g2 : (aN : Int) + (xN : Int) < (eN : Int) := by omega
              have g3 : ¬ ((aN : Int) < (aN : Int) + (s : Int)) := by omega
              have g4 : (aN : Int) + (s : Int) < (mid : Int) := by omega
              have g5 : (mid : Int) < (eN : Int) := by omega
              have g6 : (eN : Int) < (aN : Int) + (xN : Int) + (yN : Int) := by omega
              have RR1 : Hid (∀ w, SO w0 blk off (L ++ (A ++ (X' ++ (Y' ++ (B ++ R))))) w → Calls Tryz.prog 167 #[.slice (some ⟨blk, off, none⟩) N cap, .int .i64 ((aN : Int) + (s : Int)), .int .i64 ((aN : Int) + (xN : Int)), .int .i64 (eN : Int), .func (.func 135) #[] #[.pointer (some ⟨bx, 0, none⟩)]] w fun e w' => e = .returned (.tuple #[]) ∧ SO w0 blk off (L ++ (A ++ (Y' ++ (X' ++ (B ++ R))))) w') := R1.out ⟨q1, q2⟩
              have NN2 : Hid (∀ w, SO w0 blk off (L ++ (A ++ (Y' ++ (X' ++ (B ++ R))))) w → SO w0 blk off (L ++ (sortC clsOf (A ++ Y') ++ (X' ++ (B ++ R)))) w) := N2.out (.inl q3)
              have RR3 : Hid (∀ w, SO w0 blk off (L ++ (sortC clsOf (A ++ Y') ++ (X' ++ (B ++ R)))) w → Calls Tryz.prog 159 #[.slice (some ⟨blk, off, none⟩) N cap, .int .i64 (mid : Int), .int .i64 (eN : Int), .int .i64 ((aN : Int) + (xN : Int) + (yN : Int)), .func (.func 135) #[] #[.pointer (some ⟨bx, 0, none⟩)]] w fun e w' => e = .returned (.tuple #[]) ∧ SO w0 blk off (L ++ (sortC clsOf (X ++ Y) ++ R)) w') := R3.out ⟨q1, q4⟩
              clear N1 N2 N3 R1 R2 R3 q1 q2 q3 q4 hsh hen HSH HEN HLN
              go_wp2_with fail
              refine (RR1.out _ HSO.out).mono ?_
              rintro e w1 ⟨rfl, k1⟩
              have K1 : Hid (SO w0 blk off (L ++ (A ++ (Y' ++ (X' ++ (B ++ R))))) w1) := k1
              clear k1
              go_wp2_with fail
              refine (RR3.out _ (NN2.out _ K1.out)).mono ?_
              rintro e w3 ⟨rfl, k3⟩
              have K3 : Hid (SO w0 blk off (L ++ (sortC clsOf (X ++ Y) ++ R)) w3) := k3
              clear k3
              go_wp2
              all_goals go_end0
              all_goals exact ⟨rfl, K3.out⟩
            · have g1 : (aN : Int) + (s : Int) < (aN : Int) + (xN : Int) := by omega
              have g2 : (aN : Int) + (xN : Int) < (eN : Int) := by omega
              have g3 : ¬ ((aN : Int) < (aN : Int) + (s : Int)) := by omega
              have g4 : (aN : Int) + (s : Int) < (mid : Int) := by omega
              have g5 : (mid : Int) < (eN : Int) := by omega
              have g6 : ¬ ((eN : Int) < (aN : Int) + (xN : Int) + (yN : Int)) := by omega
              have RR1 : Hid (∀ w, SO w0 blk off (L ++ (A ++ (X' ++ (Y' ++ (B ++ R))))) w → Calls Tryz.prog 167 #[.slice (some ⟨blk, off, none⟩) N cap, .int .i64 ((aN : Int) + (s : Int)), .int .i64 ((aN : Int) + (xN : Int)), .int .i64 (eN : Int), .func (.func 135) #[] #[.pointer (some ⟨bx, 0, none⟩)]] w fun e w' => e = .returned (.tuple #[]) ∧ SO w0 blk off (L ++ (A ++ (Y' ++ (X' ++ (B ++ R))))) w') := R1.out ⟨q1, q2⟩
              have NN2 : Hid (∀ w, SO w0 blk off (L ++ (A ++ (Y' ++ (X' ++ (B ++ R))))) w → SO w0 blk off (L ++ (sortC clsOf (A ++ Y') ++ (X' ++ (B ++ R)))) w) := N2.out (.inl q3)
              have NN3 : Hid (∀ w, SO w0 blk off (L ++ (sortC clsOf (A ++ Y') ++ (X' ++ (B ++ R)))) w → SO w0 blk off (L ++ (sortC clsOf (X ++ Y) ++ R)) w) := N3.out (.inr q4)
              clear N1 N2 N3 R1 R2 R3 q1 q2 q3 q4 hsh hen HSH HEN HLN
              go_wp2_with fail
              refine (RR1.out _ HSO.out).mono ?_
              rintro e w1 ⟨rfl, k1⟩
              have K1 : Hid (SO w0 blk off (L ++ (A ++ (Y' ++ (X' ++ (B ++ R))))) w1) := k1
              clear k1
              go_wp2
              all_goals go_end0
              all_goals exact ⟨rfl, (NN3.out _ (NN2.out _ K1.out))⟩
        · by_cases q3 : 0 < s
          · by_cases q4 : H - s < yN
            · have g1 : (aN : Int) + (s : Int) < (aN : Int) + (xN : Int) := by omega
              have g2 : ¬ ((aN : Int) + (xN : Int) < (eN : Int)) := by omega
              have g3 : (aN : Int) < (aN : Int) + (s : Int) := by omega
              have g4 : ¬ ((aN : Int) + (s : Int) < (mid : Int)) := by omega
              have g5 : (mid : Int) < (eN : Int) := by omega
              have g6 : (eN : Int) < (aN : Int) + (xN : Int) + (yN : Int) := by omega
              have NN1 : Hid (∀ w, SO w0 blk off (L ++ (A ++ (X' ++ (Y' ++ (B ++ R))))) w → SO w0 blk off (L ++ (A ++ (Y' ++ (X' ++ (B ++ R))))) w) := N1.out (.inr q2)
              have NN2 : Hid (∀ w, SO w0 blk off (L ++ (A ++ (Y' ++ (X' ++ (B ++ R))))) w → SO w0 blk off (L ++ (sortC clsOf (A ++ Y') ++ (X' ++ (B ++ R)))) w) := N2.out (.inr q2)
              have RR3 : Hid (∀ w, SO w0 blk off (L ++ (sortC clsOf (A ++ Y') ++ (X' ++ (B ++ R)))) w → Calls Tryz.prog 159 #[.slice (some ⟨blk, off, none⟩) N cap, .int .i64 (mid : Int), .int .i64 (eN : Int), .int .i64 ((aN : Int) + (xN : Int) + (yN : Int)), .func (.func 135) #[] #[.pointer (some ⟨bx, 0, none⟩)]] w fun e w' => e = .returned (.tuple #[]) ∧ SO w0 blk off (L ++ (sortC clsOf (X ++ Y) ++ R)) w') := R3.out ⟨q1, q4⟩
              clear N1 N2 N3 R1 R2 R3 q1 q2 q3 q4 hsh hen HSH HEN HLN
              go_wp2_with fail
              refine (RR3.out _ (NN2.out _ (NN1.out _ HSO.out))).mono ?_
              rintro e w3 ⟨rfl, k3⟩
              have K3 : Hid (SO w0 blk off (L ++ (sortC clsOf (X ++ Y) ++ R)) w3) := k3
              clear k3
              go_wp2
              all_goals go_end0
              all_goals exact ⟨rfl, K3.out⟩
            · have g1 : (aN : Int) + (s : Int) < (aN : Int) + (xN : Int) := by omega
              have g2 : ¬ ((aN : Int) + (xN : Int) < (eN : Int)) := by omega
              have g3 : (aN : Int) < (aN : Int) + (s : Int) := by omega
              have g4 : ¬ ((aN : Int) + (s : Int) < (mid : Int)) := by omega
              have g5 : (mid : Int) < (eN : Int) := by omega
              have g6 : ¬ ((eN : Int) < (aN : Int) + (xN : Int) + (yN : Int)) := by omega
              have NN1 : Hid (∀ w, SO w0 blk off (L ++ (A ++ (X' ++ (Y' ++ (B ++ R))))) w → SO w0 blk off (L ++ (A ++ (Y' ++ (X' ++ (B ++ R))))) w) := N1.out (.inr q2)
              have NN2 : Hid (∀ w, SO w0 blk off (L ++ (A ++ (Y' ++ (X' ++ (B ++ R))))) w → SO w0 blk off (L ++ (sortC clsOf (A ++ Y') ++ (X' ++ (B ++ R)))) w) := N2.out (.inr q2)
              have NN3 : Hid (∀ w, SO w0 blk off (L ++ (sortC clsOf (A ++ Y') ++ (X' ++ (B ++ R)))) w → SO w0 blk off (L ++ (sortC clsOf (X ++ Y) ++ R)) w) := N3.out (.inr q4)
              clear N1 N2 N3 R1 R2 R3 q1 q2 q3 q4 hsh hen HSH HEN HLN
              go_wp2
              all_goals go_end0
              all_goals exact ⟨rfl, (NN3.out _ (NN2.out _ (NN1.out _ HSO.out)))⟩
          · by_cases q4 : H - s < yN
            · have g1 : (aN : Int) + (s : Int) < (aN : Int) + (xN : Int) := by omega
              have g2 : ¬ ((aN : Int) + (xN : Int) < (eN : Int)) := by omega
              have g3 : ¬ ((aN : Int) < (aN : Int) + (s : Int)) := by omega
              have g4 : ¬ ((aN : Int) + (s : Int) < (mid : Int)) := by omega
              have g5 : (mid : Int) < (eN : Int) := by omega
              have g6 : (eN : Int) < (aN : Int) + (xN : Int) + (yN : Int) := by omega
              have NN1 : Hid (∀ w, SO w0 blk off (L ++ (A ++ (X' ++ (Y' ++ (B ++ R))))) w → SO w0 blk off (L ++ (A ++ (Y' ++ (X' ++ (B ++ R))))) w) := N1.out (.inr q2)
              have NN2 : Hid (∀ w, SO w0 blk off (L ++ (A ++ (Y' ++ (X' ++ (B ++ R))))) w → SO w0 blk off (L ++ (sortC clsOf (A ++ Y') ++ (X' ++ (B ++ R)))) w) := N2.out (.inl q3)
              have RR3 : Hid (∀ w, SO w0 blk off (L ++ (sortC clsOf (A ++ Y') ++ (X' ++ (B ++ R)))) w → Calls Tryz.prog 159 #[.slice (some ⟨blk, off, none⟩) N cap, .int .i64 (mid : Int), .int .i64 (eN : Int), .int .i64 ((aN : Int) + (xN : Int) + (yN : Int)), .func (.func 135) #[] #[.pointer (some ⟨bx, 0, none⟩)]] w fun e w' => e = .returned (.tuple #[]) ∧ SO w0 blk off (L ++ (sortC clsOf (X ++ Y) ++ R)) w') := R3.out ⟨q1, q4⟩
              clear N1 N2 N3 R1 R2 R3 q1 q2 q3 q4 hsh hen HSH HEN HLN
              go_wp2_with fail
              refine (RR3.out _ (NN2.out _ (NN1.out _ HSO.out))).mono ?_
              rintro e w3 ⟨rfl, k3⟩
              have K3 : Hid (SO w0 blk off (L ++ (sortC clsOf (X ++ Y) ++ R)) w3) := k3
              clear k3
              go_wp2
              all_goals go_end0
              all_goals exact ⟨rfl, K3.out⟩
            · have g1 : (aN : Int) + (s : Int) < (aN : Int) + (xN : Int) := by omega
              have g2 : ¬ ((aN : Int) + (xN : Int) < (eN : Int)) := by omega
              have g3 : ¬ ((aN : Int) < (aN : Int) + (s : Int)) := by omega
              have g4 : ¬ ((aN : Int) + (s : Int) < (mid : Int)) := by omega
              have g5 : (mid : Int) < (eN : Int) := by omega
              have g6 : ¬ ((eN : Int) < (aN : Int) + (xN : Int) + (yN : Int)) := by omega
              have NN1 : Hid (∀ w, SO w0 blk off (L ++ (A ++ (X' ++ (Y' ++ (B ++ R))))) w → SO w0 blk off (L ++ (A ++ (Y' ++ (X' ++ (B ++ R))))) w) := N1.out (.inr q2)
              have NN2 : Hid (∀ w, SO w0 blk off (L ++ (A ++ (Y' ++ (X' ++ (B ++ R))))) w → SO w0 blk off (L ++ (sortC clsOf (A ++ Y') ++ (X' ++ (B ++ R)))) w) := N2.out (.inl q3)
              have NN3 : Hid (∀ w, SO w0 blk off (L ++ (sortC clsOf (A ++ Y') ++ (X' ++ (B ++ R)))) w → SO w0 blk off (L ++ (sortC clsOf (X ++ Y) ++ R)) w) := N3.out (.inr q4)
              clear N1 N2 N3 R1 R2 R3 q1 q2 q3 q4 hsh hen HSH HEN HLN
              go_wp2
              all_goals go_end0
              all_goals exact ⟨rfl, (NN3.out _ (NN2.out _ (NN1.out _ HSO.out)))⟩
      · by_cases q2 : s < H
        · by_cases q3 : 0 < s
          · by_cases q4 : H - s < yN
            · have g1 : ¬ ((aN : Int) + (s : Int) < (aN : Int) + (xN : Int)) := by omega
              have g2 : (aN : Int) + (xN : Int) < (eN : Int) := by omega
              have g3 : (aN : Int) < (aN : Int) + (s : Int) := by omega
              have g4 : (aN : Int) + (s : Int) < (mid : Int) := by omega
              have g5 : ¬ ((mid : Int) < (eN : Int)) := by omega
              have g6 : (eN : Int) < (aN : Int) + (xN : Int) + (yN : Int) := by omega
              have NN1 : Hid (∀ w, SO w0 blk off (L ++ (A ++ (X' ++ (Y' ++ (B ++ R))))) w → SO w0 blk off (L ++ (A ++ (Y' ++ (X' ++ (B ++ R))))) w) := N1.out (.inl q1)
              have RR2 : Hid (∀ w, SO w0 blk off (L ++ (A ++ (Y' ++ (X' ++ (B ++ R))))) w → Calls Tryz.prog 159 #[.slice (some ⟨blk, off, none⟩) N cap, .int .i64 (aN : Int), .int .i64 ((aN : Int) + (s : Int)), .int .i64 (mid : Int), .func (.func 135) #[] #[.pointer (some ⟨bx, 0, none⟩)]] w fun e w' => e = .returned (.tuple #[]) ∧ SO w0 blk off (L ++ (sortC clsOf (A ++ Y') ++ (X' ++ (B ++ R)))) w') := R2.out ⟨q3, q2⟩
              have NN3 : Hid (∀ w, SO w0 blk off (L ++ (sortC clsOf (A ++ Y') ++ (X' ++ (B ++ R)))) w → SO w0 blk off (L ++ (sortC clsOf (X ++ Y) ++ R)) w) := N3.out (.inl q1)
              clear N1 N2 N3 R1 R2 R3 q1 q2 q3 q4 hsh hen HSH HEN HLN
              go_wp2_with fail
              refine (RR2.out _ (NN1.out _ HSO.out)).mono ?_
              rintro e w2 ⟨rfl, k2⟩
              have K2 : Hid (SO w0 blk off (L ++ (sortC clsOf (A ++ Y') ++ (X' ++ (B ++ R)))) w2) := k2
              clear k2
              go_wp2
              all_goals go_end0
              all_goals exact ⟨rfl, (NN3.out _ K2.out)⟩
            · have g1 : ¬ ((aN : Int) + (s : Int) < (aN : Int) + (xN : Int)) := by omega
              have g2 : (aN : Int) + (xN : Int) < (eN : Int) := by omega
              have g3 : (aN : Int) < (aN : Int) + (s : Int) := by omega
              have g4 : (aN : Int) + (s : Int) < (mid : Int) := by omega
              have g5 : ¬ ((mid : Int) < (eN : Int)) := by omega
              have g6 : ¬ ((eN : Int) < (aN : Int) + (xN : Int) + (yN : Int)) := by omega
              have NN1 : Hid (∀ w, SO w0 blk off (L ++ (A ++ (X' ++ (Y' ++ (B ++ R))))) w → SO w0 blk off (L ++ (A ++ (Y' ++ (X' ++ (B ++ R))))) w) := N1.out (.inl q1)
              have RR2 : Hid (∀ w, SO w0 blk off (L ++ (A ++ (Y' ++ (X' ++ (B ++ R))))) w → Calls Tryz.prog 159 #[.slice (some ⟨blk, off, none⟩) N cap, .int .i64 (aN : Int), .int .i64 ((aN : Int) + (s : Int)), .int .i64 (mid : Int), .func (.func 135) #[] #[.pointer (some ⟨bx, 0, none⟩)]] w fun e w' => e = .returned (.tuple #[]) ∧ SO w0 blk off (L ++ (sortC clsOf (A ++ Y') ++ (X' ++ (B ++ R)))) w') := R2.out ⟨q3, q2⟩
              have NN3 : Hid (∀ w, SO w0 blk off (L ++ (sortC clsOf (A ++ Y') ++ (X' ++ (B ++ R)))) w → SO w0 blk off (L ++ (sortC clsOf (X ++ Y) ++ R)) w) := N3.out (.inl q1)
              clear N1 N2 N3 R1 R2 R3 q1 q2 q3 q4 hsh hen HSH HEN HLN
              go_wp2_with fail
              refine (RR2.out _ (NN1.out _ HSO.out)).mono ?_
              rintro e w2 ⟨rfl, k2⟩
              have K2 : Hid (SO w0 blk off (L ++ (sortC clsOf (A ++ Y') ++ (X' ++ (B ++ R)))) w2) := k2
              clear k2
              go_wp2
              all_goals go_end0
              all_goals exact ⟨rfl, (NN3.out _ K2.out)⟩
          · by_cases q4 : H - s < yN
            · have g1 : ¬ ((aN : Int) + (s : Int) < (aN : Int) + (xN : Int)) := by omega
              have g2 : (aN : Int) + (xN : Int) < (eN : Int) := by omega
              have g3 : ¬ ((aN : Int) < (aN : Int) + (s : Int)) := by omega
              have g4 : (aN : Int) + (s : Int) < (mid : Int) := by omega
              have g5 : ¬ ((mid : Int) < (eN : Int)) := by omega
              have g6 : (eN : Int) < (aN : Int) + (xN : Int) + (yN : Int) := by omega
              have NN1 : Hid (∀ w, SO w0 blk off (L ++ (A ++ (X' ++ (Y' ++ (B ++ R))))) w → SO w0 blk off (L ++ (A ++ (Y' ++ (X' ++ (B ++ R))))) w) := N1.out (.inl q1)
              have NN2 : Hid (∀ w, SO w0 blk off (L ++ (A ++ (Y' ++ (X' ++ (B ++ R))))) w → SO w0 blk off (L ++ (sortC clsOf (A ++ Y') ++ (X' ++ (B ++ R)))) w) := N2.out (.inl q3)
              have NN3 : Hid (∀ w, SO w0 blk off (L ++ (sortC clsOf (A ++ Y') ++ (X' ++ (B ++ R)))) w → SO w0 blk off (L ++ (sortC clsOf (X ++ Y) ++ R)) w) := N3.out (.inl q1)
              clear N1 N2 N3 R1 R2 R3 q1 q2 q3 q4 hsh hen HSH HEN HLN
              go_wp2
              all_goals go_end0
              all_goals exact ⟨rfl, (NN3.out _ (NN2.out _ (NN1.out _ HSO.out)))⟩
            · have g1 : ¬ ((aN : Int) + (s : Int) < (aN : Int) + (xN : Int)) := by omega
              have g2 : (aN : Int) + (xN : Int) < (eN : Int) := by omega
              have g3 : ¬ ((aN : Int) < (aN : Int) + (s : Int)) := by omega
              have g4 : (aN : Int) + (s : Int) < (mid : Int) := by omega
              have g5 : ¬ ((mid : Int) < (eN : Int)) := by omega
              have g6 : ¬ ((eN : Int) < (aN : Int) + (xN : Int) + (yN : Int)) := by omega
              have NN1 : Hid (∀ w, SO w0 blk off (L ++ (A ++ (X' ++ (Y' ++ (B ++ R))))) w → SO w0 blk off (L ++ (A ++ (Y' ++ (X' ++ (B ++ R))))) w) := N1.out (.inl q1)
              have NN2 : Hid (∀ w, SO w0 blk off (L ++ (A ++ (Y' ++ (X' ++ (B ++ R))))) w → SO w0 blk off (L ++ (sortC clsOf (A ++ Y') ++ (X' ++ (B ++ R)))) w) := N2.out (.inl q3)
              have NN3 : Hid (∀ w, SO w0 blk off (L ++ (sortC clsOf (A ++ Y') ++ (X' ++ (B ++ R)))) w → SO w0 blk off (L ++ (sortC clsOf (X ++ Y) ++ R)) w) := N3.out (.inl q1)
              clear N1 N2 N3 R1 R2 R3 q1 q2 q3 q4 hsh hen HSH HEN HLN
              go_wp2
              all_goals go_end0
              all_goals exact ⟨rfl, (NN3.out _ (NN2.out _ (NN1.out _ HSO.out)))⟩
        · by_cases q3 : 0 < s
          · by_cases q4 : H - s < yN
            · have g1 : ¬ ((aN : Int) + (s : Int) < (aN : Int) + (xN : Int)) := by omega
              have g2 : ¬ ((aN : Int) + (xN : Int) < (eN : Int)) := by omega
              have g3 : (aN : Int) < (aN : Int) + (s : Int) := by omega
              have g4 : ¬ ((aN : Int) + (s : Int) < (mid : Int)) := by omega
              have g5 : ¬ ((mid : Int) < (eN : Int)) := by omega
              have g6 : (eN : Int) < (aN : Int) + (xN : Int) + (yN : Int) := by omega
              have NN1 : Hid (∀ w, SO w0 blk off (L ++ (A ++ (X' ++ (Y' ++ (B ++ R))))) w → SO w0 blk off (L ++ (A ++ (Y' ++ (X' ++ (B ++ R))))) w) := N1.out (.inl q1)
              have NN2 : Hid (∀ w, SO w0 blk off (L ++ (A ++ (Y' ++ (X' ++ (B ++ R))))) w → SO w0 blk off (L ++ (sortC clsOf (A ++ Y') ++ (X' ++ (B ++ R)))) w) := N2.out (.inr q2)
              have NN3 : Hid (∀ w, SO w0 blk off (L ++ (sortC clsOf (A ++ Y') ++ (X' ++ (B ++ R)))) w → SO w0 blk off (L ++ (sortC clsOf (X ++ Y) ++ R)) w) := N3.out (.inl q1)
              clear N1 N2 N3 R1 R2 R3 q1 q2 q3 q4 hsh hen HSH HEN HLN
              go_wp2
              all_goals go_end0
              all_goals exact ⟨rfl, (NN3.out _ (NN2.out _ (NN1.out _ HSO.out)))⟩
            · have g1 : ¬ ((aN : Int) + (s : Int) < (aN : Int) + (xN : Int)) := by omega
              have g2 : ¬ ((aN : Int) + (xN : Int) < (eN : Int)) := by omega
              have g3 : (aN : Int) < (aN : Int) + (s : Int) := by omega
              have g4 : ¬ ((aN : Int) + (s : Int) < (mid : Int)) := by omega
              have g5 : ¬ ((mid : Int) < (eN : Int)) := by omega
              have g6 : ¬ ((eN : Int) < (aN : Int) + (xN : Int) + (yN : Int)) := by omega
              have NN1 : Hid (∀ w, SO w0 blk off (L ++ (A ++ (X' ++ (Y' ++ (B ++ R))))) w → SO w0 blk off (L ++ (A ++ (Y' ++ (X' ++ (B ++ R))))) w) := N1.out (.inl q1)
              have NN2 : Hid (∀ w, SO w0 blk off (L ++ (A ++ (Y' ++ (X' ++ (B ++ R))))) w → SO w0 blk off (L ++ (sortC clsOf (A ++ Y') ++ (X' ++ (B ++ R)))) w) := N2.out (.inr q2)
              have NN3 : Hid (∀ w, SO w0 blk off (L ++ (sortC clsOf (A ++ Y') ++ (X' ++ (B ++ R)))) w → SO w0 blk off (L ++ (sortC clsOf (X ++ Y) ++ R)) w) := N3.out (.inl q1)
              clear N1 N2 N3 R1 R2 R3 q1 q2 q3 q4 hsh hen HSH HEN HLN
              go_wp2
              all_goals go_end0
              all_goals exact ⟨rfl, (NN3.out _ (NN2.out _ (NN1.out _ HSO.out)))⟩
          · by_cases q4 : H - s < yN
            · have g1 : ¬ ((aN : Int) + (s : Int) < (aN : Int) + (xN : Int)) := by omega
              have g2 : ¬ ((aN : Int) + (xN : Int) < (eN : Int)) := by omega
              have g3 : ¬ ((aN : Int) < (aN : Int) + (s : Int)) := by omega
              have g4 : ¬ ((aN : Int) + (s : Int) < (mid : Int)) := by omega
              have g5 : ¬ ((mid : Int) < (eN : Int)) := by omega
              have g6 : (eN : Int) < (aN : Int) + (xN : Int) + (yN : Int) := by omega
              have NN1 : Hid (∀ w, SO w0 blk off (L ++ (A ++ (X' ++ (Y' ++ (B ++ R))))) w → SO w0 blk off (L ++ (A ++ (Y' ++ (X' ++ (B ++ R))))) w) := N1.out (.inl q1)
              have NN2 : Hid (∀ w, SO w0 blk off (L ++ (A ++ (Y' ++ (X' ++ (B ++ R))))) w → SO w0 blk off (L ++ (sortC clsOf (A ++ Y') ++ (X' ++ (B ++ R)))) w) := N2.out (.inl q3)
              have NN3 : Hid (∀ w, SO w0 blk off (L ++ (sortC clsOf (A ++ Y') ++ (X' ++ (B ++ R)))) w → SO w0 blk off (L ++ (sortC clsOf (X ++ Y) ++ R)) w) := N3.out (.inl q1)
              clear N1 N2 N3 R1 R2 R3 q1 q2 q3 q4 hsh hen HSH HEN HLN
              go_wp2
              all_goals go_end0
              all_goals exact ⟨rfl, (NN3.out _ (NN2.out _ (NN1.out _ HSO.out)))⟩
            · have g1 : ¬ ((aN : Int) + (s : Int) < (aN : Int) + (xN : Int)) := by omega
              have g2 : ¬ ((aN : Int) + (xN : Int) < (eN : Int)) := by omega
              have g3 : ¬ ((aN : Int) < (aN : Int) + (s : Int)) := by omega
              have g4 : ¬ ((aN : Int) + (s : Int) < (mid : Int)) := by omega
              have g5 : ¬ ((mid : Int) < (eN : Int)) := by omega
              have g6 : ¬ ((eN : Int) < (aN : Int) + (xN : Int) + (yN : Int)) := by omega
              have NN1 : Hid (∀ w, SO w0 blk off (L ++ (A ++ (X' ++ (Y' ++ (B ++ R))))) w → SO w0 blk off (L ++ (A ++ (Y' ++ (X' ++ (B ++ R))))) w) := N1.out (.inl q1)
              have NN2 : Hid (∀ w, SO w0 blk off (L ++ (A ++ (Y' ++ (X' ++ (B ++ R))))) w → SO w0 blk off (L ++ (sortC clsOf (A ++ Y') ++ (X' ++ (B ++ R)))) w) := N2.out (.inl q3)
              have NN3 : Hid (∀ w, SO w0 blk off (L ++ (sortC clsOf (A ++ Y') ++ (X' ++ (B ++ R)))) w → SO w0 blk off (L ++ (sortC clsOf (X ++ Y) ++ R)) w) := N3.out (.inl q1)
              clear N1 N2 N3 R1 R2 R3 q1 q2 q3 q4 hsh hen HSH HEN HLN
              go_wp2
              all_goals go_end0
              all_goals exact ⟨rfl, (NN3.out _ (NN2.out _ (NN1.out _ HSO.out)))⟩

end Go.Proofs.YtmhaknejeobfgabGreatDoor

/- SortStb. -/
namespace Go.Proofs.YtmhaknejeobfgabGreatDoor
open Go.RowKit Go.Proofs.YtmhaknejeobfgabGreatDoor.Stable
attribute [local go_sem ↓] Go.wp_at_zero Go.wp_at_succ

/-- Sorted blocks of q each. -/
def Full (q : Nat) (P : List Int) : Prop := ∃ Cs : List (List Int), P = Cs.flatten ∧ ∀ C ∈ Cs, C.length = q ∧ SortedC clsOf C
/-- .. and a shorter sorted one behind them. -/
def Chunks (q : Nat) (cur : List Int) : Prop := ∃ (Bs : List (List Int)) (last : List Int), cur = Bs.flatten ++ last ∧ (∀ B ∈ Bs, B.length = q ∧ SortedC clsOf B) ∧ SortedC clsOf last ∧ last.length < q

theorem Full.nil (q : Nat) : Full q [] := ⟨[], rfl, by simp⟩

theorem Full.snoc {q : Nat} {P C : List Int} (h : Full q P) (hl : C.length = q) (hs : SortedC clsOf C) : Full q (P ++ C) := by
  obtain ⟨Cs, rfl, h⟩ := h
  refine ⟨Cs ++ [C], by simp, ?_⟩
  intro D hD
  rcases List.mem_append.1 hD with hD | hD
  · exact h D hD
  · have : D = C := by simpa using hD
    subst this; exact ⟨hl, hs⟩

theorem Full.chunks {q : Nat} {P Q : List Int} (h : Full q P) (hs : SortedC clsOf Q) (hl : Q.length < q) : Chunks q (P ++ Q) := by
  obtain ⟨Cs, rfl, h⟩ := h
  exact ⟨Cs, Q, rfl, h, hs, hl⟩

theorem Chunks.two {q : Nat} {cur : List Int} (h : Chunks q cur) (hl : 2 * q ≤ cur.length) : ∃ B1 B2 Q, cur = B1 ++ (B2 ++ Q) ∧ B1.length = q ∧ B2.length = q ∧ SortedC clsOf B1 ∧ SortedC clsOf B2 ∧ Chunks q Q := by
  obtain ⟨Bs, last, rfl, h1, h2, h3⟩ := h
  match Bs, h1, hl with
  | [], _, hl => simp at hl; omega
  | [B], h1, hl =>
    have := (h1 B (by simp)).1
    simp at hl; omega
  | B1 :: B2 :: Bs, h1, _ =>
    exact ⟨B1, B2, Bs.flatten ++ last, by simp, (h1 B1 (by simp)).1, (h1 B2 (by simp)).1, (h1 B1 (by simp)).2, (h1 B2 (by simp)).2, Bs, last, rfl, fun B hB => h1 B (by simp [hB]), h2, h3⟩

theorem Chunks.one {q : Nat} {cur : List Int} (h : Chunks q cur) (hl : q < cur.length) (hu : cur.length < 2 * q) : ∃ B1 last, cur = B1 ++ last ∧ B1.length = q ∧ 0 < last.length ∧ SortedC clsOf B1 ∧ SortedC clsOf last := by
  obtain ⟨Bs, last, rfl, h1, h2, h3⟩ := h
  match Bs, h1, hl, hu with
  | [], _, hl, _ => simp at hl; omega
  | [B], h1, hl, _ =>
    have := (h1 B (by simp)).1
    exact ⟨B, last, by simp, this, by simp at hl; omega, (h1 B (by simp)).2, h2⟩
  | B1 :: B2 :: Bs, h1, _, hu =>
    have e1 := (h1 B1 (by simp)).1
    have e2 := (h1 B2 (by simp)).1
    simp at hu; omega

theorem Chunks.small {q : Nat} {cur : List Int} (h : Chunks q cur) (hu : cur.length ≤ q) : SortedC clsOf cur := by
  obtain ⟨Bs, last, rfl, h1, h2, h3⟩ := h
  match Bs, h1, hu with
  | [], _, _ => simpa using h2
  | [B], h1, hu =>
    have := (h1 B (by simp)).1
    have hl : last = [] := List.length_eq_zero_iff.1 (by simp at hu; omega)
    subst hl
    simpa using (h1 B (by simp)).2
  | B1 :: B2 :: Bs, h1, hu =>
    have e1 := (h1 B1 (by simp)).1
    have e2 := (h1 B2 (by simp)).1
    simp at hu; omega

variable {w0 W : World} {blk off bx cap N : Nat}

/-- symMerge, whatever the blocks' lengths. -/
theorem symOK (hC : CmpAt w0 blk bx) (hNb : N ≤ 1099511627776) : ∀ k, SymOK w0 blk off bx cap N k := by
  intro k
  induction k with
  | zero => intro L X Y R W a m b hk hX; omega
  | succ k ih =>
    intro L X Y R W a m b hk hX hY hN ha hm hb hR hsX hsY S
    by_cases h1 : X.length = 1
    · obtain ⟨x, rfl⟩ : ∃ x, X = [x] := List.length_eq_one_iff.1 h1
      exact symA_calls hC L x Y R N cap a m b (by simpa using hN) hNb ha (by simpa using hm) (by simpa using hb) (by simpa using hR) hsY (by simpa using S)
    · by_cases h2 : Y.length = 1
      · obtain ⟨y, rfl⟩ : ∃ y, Y = [y] := List.length_eq_one_iff.1 h2
        exact symB_calls hC L X y R N cap a m b (by omega) (by simpa using hN) hNb ha hm (by simpa using hb) hR hsX (by simpa using S)
      · exact symD_calls hC k ih hNb L X Y R W a m b hk (by omega) (by omega) hN ha hm hb hR hsX hsY S

/-- The first pass: the first a elements stand in sorted blocks of twenty. -/
def Pass1 (l : List Int) (a : Nat) (w0 : World) (blk off : Nat) (W : World) : Prop :=
  ∃ P, P.length = a ∧ Full 20 P ∧ SameC clsOf (l.take a) P ∧ SO w0 blk off (P ++ l.drop a) W

/-- Behind it. -/
def Pass2 (l : List Int) (q : Nat) (w0 : World) (blk off : Nat) (W : World) : Prop :=
  ∃ cur, Chunks q cur ∧ SameC clsOf l cur ∧ SO w0 blk off cur W

/-- While blocks of q are merged by two. -/
def Pass3 (l : List Int) (q a : Nat) (w0 : World) (blk off : Nat) (W : World) : Prop :=
  ∃ P Q, P.length = a ∧ Full (2 * q) P ∧ Chunks q Q ∧ SameC clsOf l (P ++ Q) ∧ SO w0 blk off (P ++ Q) W

def CL (bx : Nat) : Value := .func (.func 135) #[] #[.pointer (some ⟨bx, 0, none⟩)]

theorem pass1_step (hC : CmpAt w0 blk bx) (l : List Int) (a : Nat) (hN : l.length = N) (hNb : N ≤ 1099511627776) (hR : ∀ z ∈ l, inRange z) (ha : a + 20 ≤ N) (h : Pass1 l a w0 blk off W) (x y : Int) (hx : x = a) (hy : y = a + 20) :
    Calls Tryz.prog 158 #[.slice (some ⟨blk, off, none⟩) N cap, .int .i64 x, .int .i64 y, CL bx] W fun e w' => e = .returned (.tuple #[]) ∧ Pass1 l (a + 20) w0 blk off w' := by
  obtain ⟨P, h1, h2, h3, h4⟩ := h
  have e1 : l.drop a = (l.drop a).take 20 ++ l.drop (a + 20) := by
    rw [← List.drop_drop]
    exact (List.take_append_drop 20 (l.drop a)).symm
  have hl : ((l.drop a).take 20).length = 20 := by simp; omega
  rw [e1] at h4
  refine (insertion_calls hC P ((l.drop a).take 20) (l.drop (a + 20)) N cap x y (by simp; omega) hNb (by omega) (by omega) (fun z hz => hR z (List.mem_of_mem_drop (List.mem_of_mem_take hz))) h4).mono ?_
  rintro e w' ⟨rfl, hs⟩
  refine ⟨rfl, P ++ sortC clsOf ((l.drop a).take 20), by simp [sortC_length]; omega, h2.snoc (by rw [sortC_length, hl]) (sortC_sorted _ _), ?_, by simpa using hs⟩
  have e2 : l.take (a + 20) = l.take a ++ (l.drop a).take 20 := List.take_add
  rw [e2]
  exact h3.append (sortC_same _ _)

theorem pass1_last (hC : CmpAt w0 blk bx) (l : List Int) (a : Nat) (hN : l.length = N) (hNb : N ≤ 1099511627776) (hR : ∀ z ∈ l, inRange z) (ha : a ≤ N) (ha2 : N < a + 20) (h : Pass1 l a w0 blk off W) (x y : Int) (hx : x = a) (hy : y = N) :
    Calls Tryz.prog 158 #[.slice (some ⟨blk, off, none⟩) N cap, .int .i64 x, .int .i64 y, CL bx] W fun e w' => e = .returned (.tuple #[]) ∧ Pass2 l 20 w0 blk off w' := by
  obtain ⟨P, h1, h2, h3, h4⟩ := h
  refine (insertion_calls hC P (l.drop a) [] N cap x y (by simp; omega) hNb (by omega) (by simp; omega) (fun z hz => hR z (List.mem_of_mem_drop hz)) (by simpa using h4)).mono ?_
  rintro e w' ⟨rfl, hs⟩
  refine ⟨rfl, P ++ sortC clsOf (l.drop a), h2.chunks (sortC_sorted _ _) (by rw [sortC_length]; simp; omega), ?_, by simpa using hs⟩
  have := h3.append (sortC_same clsOf (l.drop a))
  rw [List.take_append_drop] at this
  exact this

theorem pass3_step (hC : CmpAt w0 blk bx) (l : List Int) (q a : Nat) (hN : l.length = N) (hNb : N ≤ 1099511627776) (hR : ∀ z ∈ l, inRange z) (hq : 0 < q) (ha : a + 2 * q ≤ N) (h : Pass3 l q a w0 blk off W) (x y z : Int) (hx : x = a) (hy : y = a + q) (hz : z = a + 2 * q) :
    Calls Tryz.prog 159 #[.slice (some ⟨blk, off, none⟩) N cap, .int .i64 x, .int .i64 y, .int .i64 z, CL bx] W fun e w' => e = .returned (.tuple #[]) ∧ Pass3 l q (a + 2 * q) w0 blk off w' := by
  obtain ⟨P, Q, h1, h2, h3, h4, h5⟩ := h
  have hlen : P.length + Q.length = N := by rw [← hN, ← h4.length]; simp
  obtain ⟨B1, B2, Q', rfl, k1, k2, k3, k4, k5⟩ := h3.two (by omega)
  have hr : ∀ z ∈ B1 ++ B2, inRange z := fun z hz => hR z (h4.mem.1 (by
    rcases List.mem_append.1 hz with hz | hz
    · simp [hz]
    · simp [hz]))
  refine (symOK (off := off) (cap := cap) hC hNb (B1.length + B2.length) P B1 B2 Q' W x y z (Nat.le_refl _) (by omega) (by omega) (by simp at hlen; simp; omega) (by omega) (by omega) (by omega) hr k3 k4 h5).mono ?_
  rintro e w' ⟨rfl, hs⟩
  refine ⟨rfl, P ++ sortC clsOf (B1 ++ B2), Q', by simp [sortC_length]; omega, h2.snoc (by rw [sortC_length]; simp; omega) (sortC_sorted _ _), k5, ?_, by simpa using hs⟩
  have e1 : P ++ (B1 ++ (B2 ++ Q')) = P ++ (B1 ++ B2) ++ Q' := by simp
  rw [e1] at h4
  exact h4.trans (((SameC.refl _ _).append (sortC_same _ _)).append (SameC.refl _ _))

theorem pass3_last (hC : CmpAt w0 blk bx) (l : List Int) (q a : Nat) (hN : l.length = N) (hNb : N ≤ 1099511627776) (hR : ∀ z ∈ l, inRange z) (ha : a + q < N) (ha2 : N < a + 2 * q) (h : Pass3 l q a w0 blk off W) (x y z : Int) (hx : x = a) (hy : y = a + q) (hz : z = N) :
    Calls Tryz.prog 159 #[.slice (some ⟨blk, off, none⟩) N cap, .int .i64 x, .int .i64 y, .int .i64 z, CL bx] W fun e w' => e = .returned (.tuple #[]) ∧ Pass2 l (2 * q) w0 blk off w' := by
  obtain ⟨P, Q, h1, h2, h3, h4, h5⟩ := h
  have hlen : P.length + Q.length = N := by rw [← hN, ← h4.length]; simp
  obtain ⟨B1, B2, rfl, k1, k2, k3, k4⟩ := h3.one (by omega) (by omega)
  have hr : ∀ z ∈ B1 ++ B2, inRange z := fun z hz => hR z (h4.mem.1 (List.mem_append_right _ hz))
  refine (symOK (off := off) (cap := cap) hC hNb (B1.length + B2.length) P B1 B2 [] W x y z (Nat.le_refl _) (by omega) (by omega) (by simp at hlen; simp; omega) (by omega) (by omega) (by simp at hlen; omega) hr k3 k4 (by simpa using h5)).mono ?_
  rintro e w' ⟨rfl, hs⟩
  refine ⟨rfl, P ++ sortC clsOf (B1 ++ B2), h2.chunks (sortC_sorted _ _) (by rw [sortC_length]; simp at hlen; simp; omega), ?_, by simpa using hs⟩
  exact h4.trans ((SameC.refl _ _).append (sortC_same _ _))

theorem pass3_skip (l : List Int) (q a : Nat) (hN : l.length = N) (hq : 0 < q) (ha : N ≤ a + q) (h : Pass3 l q a w0 blk off W) : Pass2 l (2 * q) w0 blk off W := by
  obtain ⟨P, Q, h1, h2, h3, h4, h5⟩ := h
  have hlen : P.length + Q.length = N := by rw [← hN, ← h4.length]; simp
  exact ⟨P ++ Q, h2.chunks (h3.small (by omega)) (by omega), h4, h5⟩

theorem pass2_start (l : List Int) (q : Nat) (h : Pass2 l q w0 blk off W) : Pass3 l q 0 w0 blk off W := by
  obtain ⟨cur, h1, h2, h3⟩ := h
  exact ⟨[], cur, rfl, Full.nil _, h1, by simpa using h2, by simpa using h3⟩

theorem pass2_done (l : List Int) (q : Nat) (hN : l.length = N) (hq : N ≤ q) (h : Pass2 l q w0 blk off W) : SO w0 blk off (sortC clsOf l) W := by
  obtain ⟨cur, h1, h2, h3⟩ := h
  have hs := h1.small (by rw [h2.length]; omega)
  rw [← sortC_of hs h2]
  exact h3

end Go.Proofs.YtmhaknejeobfgabGreatDoor

/- SortStw. -/
namespace Go.Proofs.YtmhaknejeobfgabGreatDoor
open Go.RowKit Go.Proofs.YtmhaknejeobfgabGreatDoor.Stable
attribute [local go_sem ↓] Go.wp_at_zero Go.wp_at_succ

variable {w0 W : World} {blk off bx cap N : Nat}

set_option maxRecDepth 100000 in
set_option maxHeartbeats 6400000 in
theorem stable_calls (hC : CmpAt w0 blk bx) (l : List Int) (hN : l.length = N) (hNb : N ≤ 1099511627776) (hR : ∀ z ∈ l, inRange z) (S : SO w0 blk off l W) :
    Calls Tryz.prog 147 #[.slice (some ⟨blk, off, none⟩) N cap, .int .i64 N, .func (.func 135) #[] #[.pointer (some ⟨bx, 0, none⟩)]] W fun e w' => e = .returned (.tuple #[]) ∧ SO w0 blk off (sortC clsOf l) w' := by
  have H0 : Hid (Pass1 l 0 w0 blk off W) := ⟨[], rfl, Full.nil _, by simpa using SameC.refl _ _, by simpa using S⟩
  have HN : Hid (l.length = N) := hN
  have HR : Hid (∀ z ∈ l, inRange z) := hR
  have HC : Hid (CmpAt w0 blk bx) := hC
  clear S hN hR hC
  go_enter Tryz.func147, Tryz.ntmps147
  go_wp2
  go_loopw [7, 8] (fun va vb wr => ∃ a : Nat, va = .int .i64 a ∧ vb = .int .i64 ((a : Int) + 20) ∧ a ≤ N ∧ Hid (Pass1 l a w0 blk off wr)) (fun va _ _ => N - (intOf va).toNat)
  case atStart => exact ⟨0, rfl, by first | rfl | go_num, Nat.zero_le _, H0⟩
  case round =>
    clear H0
    obtain ⟨a, rfl, rfl, haN, HP⟩ := hrel
    by_cases hlt : a + 20 ≤ N
    · have t1 : (a : Int) + 20 ≤ (N : Int) := by omega
      go_wp2_with (go_at_call 158; refine (pass1_step HC.out l a HN.out hNb HR.out hlt HP.out _ _ rfl rfl).mono ?_; rintro e w' ⟨rfl, HP2⟩)
      refine ⟨⟨a + 20, by go_num, by first | go_num | (congr 1; omega), hlt, HP2⟩, by simp [intOf]; omega⟩
    · have t1 : ¬ ((a : Int) + 20 ≤ (N : Int)) := by omega
      go_wp2_with (go_at_call 158; refine (pass1_last HC.out l a HN.out hNb HR.out haN (by omega) HP.out _ _ rfl rfl).mono ?_; rintro e w' ⟨rfl, HP2⟩)
      have H2 : Hid (Pass2 l 20 w0 blk off w') := HP2
      clear HP2 HP hlt t1
      go_loopw [6] (fun vq wr2 => ∃ q : Nat, vq = .int .i64 q ∧ 20 ≤ q ∧ q ≤ 2199023255552 ∧ Hid (Pass2 l q w0 blk off wr2)) (fun vq _ => N - (intOf vq).toNat)
      case atStart => exact ⟨20, rfl, Nat.le_refl _, by omega, H2⟩
      case round =>
        clear H2
        obtain ⟨q, rfl, hq0, hq1, HP⟩ := hrel
        by_cases hqN : q < N
        · have t1 : (q : Int) < (N : Int) := by omega
          have H3 : Hid (Pass3 l q 0 w0 blk off wr) := pass2_start l q HP.out
          clear HP
          go_wp2
          go_loopw [7, 8] (fun va vb wr3 => ∃ a : Nat, va = .int .i64 a ∧ vb = .int .i64 ((a : Int) + 2 * (q : Int)) ∧ a ≤ N ∧ Hid (Pass3 l q a w0 blk off wr3)) (fun va _ _ => N - (intOf va).toNat)
          case atStart => exact ⟨0, rfl, by first | rfl | go_num | (congr 1; omega), Nat.zero_le _, H3⟩
          case round =>
            clear H3
            obtain ⟨a3, rfl, rfl, haN3, HP⟩ := hrel
            by_cases hlt3 : a3 + 2 * q ≤ N
            · have t3 : (a3 : Int) + 2 * (q : Int) ≤ (N : Int) := by omega
              go_wp2_with (go_at_call 159; refine (pass3_step HC.out l q a3 HN.out hNb HR.out (by omega) hlt3 HP.out _ _ _ rfl rfl rfl).mono ?_; rintro e w' ⟨rfl, HP2⟩)
              refine ⟨⟨a3 + 2 * q, by first | go_num | (congr 1; omega), by first | go_num | (congr 1; omega), hlt3, HP2⟩, by simp [intOf]; omega⟩
            · have t3 : ¬ ((a3 : Int) + 2 * (q : Int) ≤ (N : Int)) := by omega
              by_cases hm : a3 + q < N
              · have t4 : (a3 : Int) + (q : Int) < (N : Int) := by omega
                go_wp2_with (go_at_call 159; refine (pass3_last HC.out l q a3 HN.out hNb HR.out hm (by omega) HP.out _ _ _ rfl rfl rfl).mono ?_; rintro e w' ⟨rfl, HP2⟩)
                refine ⟨⟨2 * q, by first | go_num | (congr 1; omega), by omega, by omega, HP2⟩, by simp [intOf]; omega⟩
              · have t4 : ¬ ((a3 : Int) + (q : Int) < (N : Int)) := by omega
                have H4 : Hid (Pass2 l (2 * q) w0 blk off wr) := pass3_skip l q a3 HN.out (by omega) (by omega) HP.out
                clear HP
                go_wp2
                refine ⟨⟨2 * q, by first | go_num | (congr 1; omega), by omega, by omega, H4⟩, by simp [intOf]; omega⟩
        · have t1 : ¬ ((q : Int) < (N : Int)) := by omega
          have H4 : Hid (SO w0 blk off (sortC clsOf l) wr) := pass2_done l q HN.out (by omega) HP.out
          clear HP
          go_wp2
          go_end0
          exact ⟨rfl, H4.out⟩

set_option maxRecDepth 100000 in
theorem sort_calls (hC : CmpAt w0 blk bx) (l : List Int) (hN : l.length = N) (hNb : N ≤ 1099511627776) (hR : ∀ z ∈ l, inRange z) (S : SO w0 blk off l W) :
    Calls Tryz.prog 134 #[.slice (some ⟨blk, off, none⟩) N cap, .func (.func 135) #[] #[.pointer (some ⟨bx, 0, none⟩)]] W fun e w' => e = .returned (.tuple #[]) ∧ SO w0 blk off (sortC clsOf l) w' := by
  have HS : Hid (SO w0 blk off l W) := S
  have HN : Hid (l.length = N) := hN
  have HR : Hid (∀ z ∈ l, inRange z) := hR
  have HC : Hid (CmpAt w0 blk bx) := hC
  clear S hN hR hC
  go_enter Tryz.func134, Tryz.ntmps134
  go_wp2_with (go_at_call 147; refine (stable_calls HC.out l HN.out hNb HR.out HS.out).mono ?_; rintro e w' ⟨rfl, HP2⟩)
  go_end0
  exact ⟨rfl, HP2⟩

end Go.Proofs.YtmhaknejeobfgabGreatDoor

/- SortNil. -/
namespace Go.Proofs.YtmhaknejeobfgabGreatDoor
open Go.RowKit Go.Proofs.YtmhaknejeobfgabGreatDoor.Stable
attribute [local go_sem ↓] Go.wp_at_zero Go.wp_at_succ

set_option maxRecDepth 100000 in
theorem insertion_empty (a : Option Addr) (c : Nat) (fv : Value) (W : World) :
    Calls Tryz.prog 158 #[.slice a 0 c, .int .i64 0, .int .i64 0, fv] W fun e w' => e = .returned (.tuple #[]) ∧ w' = W := by
  go_enter Tryz.func158, Tryz.ntmps158
  go_wp2
  refine wp_loop_rounds 1 ?_
  rw [rounds_succ]
  go_wp2
  go_end0
  exact ⟨rfl, rfl⟩

set_option maxRecDepth 100000 in
theorem stable_empty (a : Option Addr) (c : Nat) (fv : Value) (W : World) :
    Calls Tryz.prog 147 #[.slice a 0 c, .int .i64 0, fv] W fun e w' => e = .returned (.tuple #[]) ∧ w' = W := by
  go_enter Tryz.func147, Tryz.ntmps147
  go_wp2
  refine wp_loop_rounds 1 ?_
  rw [rounds_succ]
  go_wp2_with (go_at_call 158; refine (insertion_empty a c fv _).mono ?_; rintro e w' ⟨rfl, rfl⟩)
  refine wp_loop_rounds 1 ?_
  rw [rounds_succ]
  go_wp2
  go_end0
  exact ⟨rfl, rfl⟩

set_option maxRecDepth 100000 in
theorem sort_empty (a : Option Addr) (c : Nat) (fv : Value) (W : World) :
    Calls Tryz.prog 134 #[.slice a 0 c, fv] W fun e w' => e = .returned (.tuple #[]) ∧ w' = W := by
  go_enter Tryz.func134, Tryz.ntmps134
  go_wp2_with (go_at_call 147; refine (stable_empty a c fv _).mono ?_; rintro e w' ⟨rfl, rfl⟩)
  go_end0
  exact ⟨rfl, rfl⟩

end Go.Proofs.YtmhaknejeobfgabGreatDoor
