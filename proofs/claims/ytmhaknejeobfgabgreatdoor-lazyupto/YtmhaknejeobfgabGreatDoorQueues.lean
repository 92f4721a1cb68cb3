/- The queue's methods Len, Waiting and Drop at one of their instances, walked over cells. The queue's methods Len, Waiting and Drop at one of their instances, over what waits: for every queue into which at most 2^40 things went. The queue's method Take at one of its instances: the first that waits, and the rest goes on waiting; false where none waits. The queue's method Put at one of its instances, walked: without and with the moving down of what waits. The queue's method Put at one of its instances, walked: with the moving down of what waits. The queue's method Put at one of its instances, over what waits: what is put waits behind what waited: for every queue into which at most 2^40 things went. The queue's methods Len, Waiting and Drop at one of their instances, walked over cells. The queue's methods Len, Waiting and Drop at one of their instances, over what waits: for every queue into which at most 2^40 things went. The queue's method Put at one of its instances, walked: without and with the moving down of what waits. The queue's method Put at one of its instances, walked: with the moving down of what waits. The queue's method Put at one of its instances, over what waits: what is put waits behind what waited: for every queue into which at most 2^40 things went. A byte of a text, as a number. Rows of numbers in new memory: kept, grown, read. -/
import Derived.Test.YtmhaknejeobfgabGreatDoorBase
import Derived.Test.YtmhaknejeobfgabGreatDoorChecked
import Derived.Deep.QuietTactic
import Derived.BigQuiet
import Derived.BigRegion
import Derived.Deep.RegionWith
import Derived.Deep.DrawnRows
import Derived.Maps.AppendAt
import Derived.Laws.AppendOwnNone
import Derived.Laws.CopyRow
import Derived.Laws.CopyOwn
import Derived.WalkSpells

/- QueueR. -/
namespace Go.Proofs.YtmhaknejeobfgabGreatDoor
open Go.RowKit
attribute [local go_sem ↓] Go.wp_at_zero Go.wp_at_succ

set_option maxHeartbeats 400000 in
theorem len_R (b o n c : Nat) (a : Option Addr) (h : Int) (w : World) (h0 : w.cell? ⟨b, o, none⟩ = some (.slice a n c)) (h1 : w.cell? ⟨b, o + 1, none⟩ = some (.int .i64 h)) (hh : 0 ≤ h) (hn : h ≤ n) (hm : n ≤ maxLen) :
    Calls Tryz.prog 131 #[.pointer (some ⟨b, o, none⟩)] w fun e w' => e = .returned (.int .i64 (n - h)) ∧ ∃ q, w' = w.drewN q := by
  unfold maxLen at hm
  go_enter Tryz.func131, Tryz.ntmps131
  go_wp2
  go_quiet (fail)
  go_wp2
  go_ret
  exact ⟨rfl, _, rfl⟩

set_option maxHeartbeats 400000 in
theorem wait_R (b o n c g : Nat) (h : Nat) (w : World) (h0 : w.cell? ⟨b, o, none⟩ = some (.slice (some ⟨g, 0, none⟩) n c)) (h1 : w.cell? ⟨b, o + 1, none⟩ = some (.int .i64 h)) (hn : h ≤ n) (hnc : n ≤ c) (hm : c ≤ maxLen) :
    Calls Tryz.prog 133 #[.pointer (some ⟨b, o, none⟩)] w fun e w' => ∃ h', (h < n → h' = h) ∧ e = .returned (.slice (some ⟨g, h', none⟩) (n - h) (c - h)) ∧ ∃ q, w' = w.drewN q := by
  unfold maxLen at hm
  rcases Nat.lt_or_ge h c with hlt | hge
  case inr =>
    obtain rfl : h = c := by omega
    obtain rfl : n = h := by omega
    go_enter Tryz.func133, Tryz.ntmps133
    go_wp2
    go_quiet (fail)
    go_wp2
    go_ret
    exact ⟨0, by omega, by simp, _, rfl⟩
  go_enter Tryz.func133, Tryz.ntmps133
  go_wp2
  go_quiet (fail)
  go_wp2
  go_ret
  exact ⟨h, fun _ => rfl, rfl, _, rfl⟩

set_option maxHeartbeats 400000 in
theorem wait_nil_R (b o : Nat) (w : World) (h0 : w.cell? ⟨b, o, none⟩ = some (.slice none 0 0)) (h1 : w.cell? ⟨b, o + 1, none⟩ = some (.int .i64 0)) :
    Calls Tryz.prog 133 #[.pointer (some ⟨b, o, none⟩)] w fun e w' => e = .returned (.slice none 0 0) ∧ ∃ q, w' = w.drewN q := by
  go_enter Tryz.func133, Tryz.ntmps133
  go_wp2
  go_quiet (fail)
  go_wp2
  go_ret
  exact ⟨rfl, _, rfl⟩

/-- The first store of Drop, then Len once more. -/
theorem after_R {w : World} {b o n c : Nat} {a : Option Addr} {h : Int} (h0 : w.cell? ⟨b, o, none⟩ = some (.slice a n c)) (h1 : w.cell? ⟨b, o + 1, none⟩ = some (.int .i64 h)) (x : Int) :
    (w.setCell ⟨b, o + 1, none⟩ (.int .i64 x)).cell? ⟨b, o, none⟩ = some (.slice a n c) ∧ (w.setCell ⟨b, o + 1, none⟩ (.int .i64 x)).cell? ⟨b, o + 1, none⟩ = some (.int .i64 x) :=
  ⟨(World.cell?_setCell_other _ _ _ _ (by intro e; simp at e)).trans h0, World.cell?_setCell_same _ _ _ h1⟩

set_option maxHeartbeats 800000 in
theorem drop_some_R (b o n c : Nat) (a : Option Addr) (h k : Nat) (w : World) (h0 : w.cell? ⟨b, o, none⟩ = some (.slice a n c)) (h1 : w.cell? ⟨b, o + 1, none⟩ = some (.int .i64 h)) (f1 : w.frozen? ⟨b, o + 1, none⟩ = false) (hn : h + k < n) (hm : n ≤ maxLen) :
    Calls Tryz.prog 132 #[.pointer (some ⟨b, o, none⟩), .int .i64 k] w fun e w' => e = .returned (.tuple #[]) ∧ ∃ q, w' = (w.setCell ⟨b, o + 1, none⟩ (.int .i64 ((h : Int) + (k : Int)))).drewN q := by
  unfold maxLen at hm
  obtain ⟨a0, a1⟩ := after_R h0 h1 ((h : Int) + (k : Int))
  have hk1 : ¬ ((n : Int) - (h : Int) < (k : Int)) := by omega
  have hz : ((n : Int) - ((h : Int) + (k : Int)) == 0) = false := by simp; omega
  have hmx : (if (0 : Int) < (k : Int) then (k : Int) else 0) = (k : Int) := by split <;> omega
  go_enter Tryz.func132, Tryz.ntmps132
  go_wp2
  go_region_with (go_at_call 131; refine (len_R b o n c a h _ ?_ ?_ ?_ ?_ ?_).mono ?_; (simp [*]); (simp [*]); (omega); (omega); (unfold maxLen; omega); rintro e w' ⟨rfl, q, rfl⟩)
  all_goals
    have hk2 : ¬ ((n : Int) - (h : Int) < (k : Int)) := by omega
    simp only [if_neg hk2, hmx]
    go_wp2_with (go_at_call 131; refine (len_R b o n c a ((h : Int) + (k : Int)) _ (by exact a0) (by exact a1) (by omega) (by omega) (by unfold maxLen; omega)).mono ?_; rintro e w' ⟨rfl, q', rfl⟩)
    go_end0
    exact ⟨rfl, 1 + q + q', by simp only [drewN_set, World.drewN_drewN]⟩

set_option maxHeartbeats 800000 in
theorem drop_all_R (b o n c : Nat) (a : Option Addr) (h k : Nat) (w : World) (h0 : w.cell? ⟨b, o, none⟩ = some (.slice a n c)) (h1 : w.cell? ⟨b, o + 1, none⟩ = some (.int .i64 h)) (f0 : w.frozen? ⟨b, o, none⟩ = false) (f1 : w.frozen? ⟨b, o + 1, none⟩ = false) (hn : h + k = n) (hnc : n ≤ c) (hm : c ≤ maxLen) :
    Calls Tryz.prog 132 #[.pointer (some ⟨b, o, none⟩), .int .i64 k] w fun e w' => e = .returned (.tuple #[]) ∧ ∃ q x, w' = (((w.setCell ⟨b, o + 1, none⟩ x).setCell ⟨b, o, none⟩ (.slice a 0 c)).setCell ⟨b, o + 1, none⟩ (.int .i64 0)).drewN q := by
  unfold maxLen at hm
  obtain ⟨a0, a1⟩ := after_R h0 h1 ((h : Int) + (k : Int))
  have hz : ((n : Int) - ((h : Int) + (k : Int)) == 0) = true := by simp; omega
  have hmx : (if (0 : Int) < (k : Int) then (k : Int) else 0) = (k : Int) := by split <;> omega
  have HN : Hid (h + k = n) := hn
  have hle : h + k ≤ n := by omega
  have hge : n ≤ h + k := by omega
  clear hn
  go_enter Tryz.func132, Tryz.ntmps132
  go_wp2
  go_region_with (go_at_call 131; refine (len_R b o n c a h _ ?_ ?_ ?_ ?_ ?_).mono ?_; (simp [*]); (simp [*]); (omega); (omega); (unfold maxLen; omega); rintro e w' ⟨rfl, q, rfl⟩)
  all_goals
    have hk2 : ¬ ((n : Int) - (h : Int) < (k : Int)) := by omega
    simp only [if_neg hk2, hmx]
    go_wp2_with (go_at_call 131; refine (len_R b o n c a ((h : Int) + (k : Int)) _ (by exact a0) (by exact a1) (by omega) (by omega) (by unfold maxLen; omega)).mono ?_; rintro e w' ⟨rfl, q', rfl⟩)
    go_end0
    exact ⟨rfl, 1 + q + q', .int .i64 ((h : Int) + (k : Int)), by simp only [drewN_set, World.drewN_drewN]⟩

end Go.Proofs.YtmhaknejeobfgabGreatDoor

/- QueueS. -/
namespace Go.Proofs.YtmhaknejeobfgabGreatDoor
open Go.RowKit

/-- How many wait. -/
theorem Q_len_R {w : World} {b o : Nat} {cs : Array Value} {t : TypeId} {g : Option Nat} {xs : List Int} {N : Nat} (hb : w.heap[b]? = some (.cells cs t (0, 0))) (hq : QIs w .i32 21 cs o g xs N) (hN : N ≤ 1099511627776) :
    Calls Tryz.prog 131 #[.pointer (some ⟨b, o, none⟩)] w fun e w' => e = .returned (.int .i64 xs.length) ∧ ∃ q, w' = w.drewN q := by
  obtain ⟨v, pre, c0, c1, hr, _, hn, _⟩ := hq
  rcases row_cases hr with ⟨rfl, h0, _⟩ | ⟨g, cap, cur, rfl, _⟩
  · refine (len_R b o 0 0 none (pre.length : Int) w (cell_of hb c0) (cell_of hb c1) (by omega) (by omega) (by unfold maxLen; omega)).mono ?_
    rintro e w' ⟨rfl, hw⟩
    exact ⟨by congr 2; omega, hw⟩
  · refine (len_R b o _ _ _ (pre.length : Int) w (cell_of hb c0) (cell_of hb c1) (by omega) (by omega) (by unfold maxLen; omega)).mono ?_
    rintro e w' ⟨rfl, hw⟩
    exact ⟨by congr 2; omega, hw⟩

/-- What waits. -/
theorem Q_wait_R {w : World} {b o : Nat} {cs : Array Value} {t : TypeId} {g : Option Nat} {xs : List Int} {N : Nat} (hb : w.heap[b]? = some (.cells cs t (0, 0))) (hq : QIs w .i32 21 cs o g xs N) :
    Calls Tryz.prog 133 #[.pointer (some ⟨b, o, none⟩)] w fun e w' => ∃ v, e = .returned v ∧ Shows w .i32 v g xs ∧ ∃ q, w' = w.drewN q := by
  obtain ⟨v, pre, c0, c1, hr, hg, hn, _⟩ := hq
  rcases row_cases hr with ⟨rfl, h0, hx⟩ | ⟨g, cap, cur, rfl, hgg, h1, h2, h3, h4, h5⟩
  · have hp : pre = [] := List.length_eq_zero_iff.1 (by omega)
    have hx0 : xs = [] := List.length_eq_zero_iff.1 (by omega)
    subst hp hx0
    refine (wait_nil_R b o w (cell_of hb c0) (by simpa using cell_of hb c1)).mono ?_
    rintro e w' ⟨rfl, hw⟩
    exact ⟨_, rfl, .inl ⟨rfl, .inl rfl⟩, hw⟩
  · refine (wait_R b o _ cap g pre.length w (cell_of hb c0) (cell_of hb c1) (by omega) h1 h2).mono ?_
    rintro e w' ⟨h', hh, rfl, hw⟩
    refine ⟨_, rfl, ?_, hw⟩
    rw [show pre.length + xs.length - pre.length = xs.length by omega]
    by_cases hx0 : xs = []
    · subst hx0
      exact .inl ⟨rfl, .inr ⟨_, _, rfl⟩⟩
    · have hpos : 0 < xs.length := List.length_pos_iff.2 hx0
      obtain rfl := hh (by omega)
      refine .inr ⟨g, pre.length, _, cur, _, by rw [← hg]; rfl, rfl, hgg, fun j hj => ?_⟩
      rw [h5 (pre.length + j) (by omega), List.getElem?_append_right (by omega), show pre.length + j - pre.length = j by omega]

/-- Some are dropped. -/
theorem Q_drop_R {w : World} {b o : Nat} {cs : Array Value} {t : TypeId} {g : Option Nat} {xs : List Int} {N : Nat} (k : Nat) (hb : w.heap[b]? = some (.cells cs t (0, 0))) (hq : QIs w .i32 21 cs o g xs N) (hk : k ≤ xs.length) (hg : g ≠ some b) :
    Calls Tryz.prog 132 #[.pointer (some ⟨b, o, none⟩), .int .i64 k] w fun e w' => e = .returned (.tuple #[]) ∧
      ∃ cs', w'.heap[b]? = some (.cells cs' t (0, 0)) ∧ cs'.size = cs.size ∧ (∀ i, i ≠ o → i ≠ o + 1 → cs'[i]? = cs[i]?) ∧ QIs w' .i32 21 cs' o g (xs.drop k) N ∧ Fr (fun x => x = b) w w' := by
  obtain ⟨v, pre, c0, c1, hr, hgv, hn, _⟩ := hq
  have hlt0 : o < cs.size := (Array.getElem?_eq_some_iff.1 c0).1
  have hlt1 : o + 1 < cs.size := (Array.getElem?_eq_some_iff.1 c1).1
  have hform : ∃ a n c, v = .slice a n c ∧ n = pre.length + xs.length ∧ n ≤ c ∧ c ≤ maxLen := by
    rcases row_cases hr with ⟨rfl, h0, hx⟩ | ⟨g, cap, cur, rfl, hgg, h1, h2, h3, h4, h5⟩
    · exact ⟨none, 0, 0, rfl, by omega, Nat.le_refl _, by unfold maxLen; omega⟩
    · exact ⟨_, _, cap, rfl, rfl, h1, h2⟩
  obtain ⟨a, n, c, rfl, hnn, hnc, hcm⟩ := hform
  by_cases hall : pre.length + k = n
  · refine (drop_all_R b o n c a pre.length k w (cell_of hb c0) (cell_of hb c1) (frozen_of hb _) (frozen_of hb _) hall hnc hcm).mono ?_
    rintro e w' ⟨rfl, q, x, rfl⟩
    have hkx : k = xs.length := by omega
    subst hkx
    refine ⟨rfl, ((cs.setIfInBounds (o + 1) x).setIfInBounds o (.slice a 0 c)).setIfInBounds (o + 1) (.int .i64 0), ?_, by simp, ?_, ?_, ?_⟩
    · exact set_of (set_of (set_of hb _ _) _ _) _ _
    · intro i h0 h1
      rw [get_set_other _ h1, get_set_other _ h0, get_set_other _ h1]
    · refine ⟨.slice a 0 c, [], ?_, ?_, ?_, by rw [← hgv]; cases a <;> rfl, by simp, fun _ => rfl⟩
      · rw [get_set_other _ (by omega), get_set_same _ (by simpa using hlt0)]
      · rw [get_set_same _ (by simpa using hlt1)]
        rfl
      · rw [List.drop_length]
        rcases row_cases hr with ⟨h, h0, hx⟩ | ⟨g', cap, cur, h, hgg, h1, h2, h3, h4, h5⟩
        · cases h
          exact World.ownsRow_nil _ _ _ _
        · cases h
          have hne : g' ≠ b := fun e => hg (by rw [← hgv, ← e]; rfl)
          refine row_mk (xs := []) (cur := cur) ?_ (Nat.zero_le _) h2 h3 rfl (fun j hj => by simp at hj)
          show ((((w.setCell ⟨b, o + 1, none⟩ x).setCell ⟨b, o, none⟩ (.slice (some ⟨g', 0, none⟩) 0 c)).setCell ⟨b, o + 1, none⟩ (.int .i64 0))).heap[g']? = _
          rw [set_other hne, set_other hne, set_other hne]
          exact hgg
    · refine Fr.drewN ?_ q
      refine Fr.setCell ?_ _ _ (fun _ => rfl)
      refine Fr.setCell ?_ _ _ (fun _ => rfl)
      refine Fr.setCell ?_ _ _ (fun _ => rfl)
      exact Fr.refl _ _
  · refine (drop_some_R b o n c a pre.length k w (cell_of hb c0) (cell_of hb c1) (frozen_of hb _) (by omega) (by omega)).mono ?_
    rintro e w' ⟨rfl, q, rfl⟩
    refine ⟨rfl, cs.setIfInBounds (o + 1) (.int .i64 ((pre.length : Int) + (k : Int))), ?_, by simp, ?_, ?_, ?_⟩
    · exact set_of hb _ _
    · intro i h0 h1
      rw [get_set_other _ h1]
    · refine ⟨.slice a n c, pre ++ xs.take k, ?_, ?_, ?_, hgv, ?_, ?_⟩
      · rw [get_set_other _ (by omega)]
        exact c0
      · rw [get_set_same _ hlt1]
        simp [Nat.min_eq_left hk]
      · have e1 : (pre ++ xs.take k).length + (xs.drop k).length = pre.length + xs.length := by simp; omega
        have e2 : pre ++ xs.take k ++ xs.drop k = pre ++ xs := by simp
        rw [e1, e2]
        rcases row_cases hr with ⟨h, h0, hx⟩ | ⟨g', cap, cur, h, hgg, h1, h2, h3, h4, h5⟩
        · cases h; omega
        · cases h
          have hne : g' ≠ b := fun e => hg (by rw [← hgv, ← e]; rfl)
          refine row_mk (cur := cur) ?_ h1 h2 h3 h4 h5
          show (w.setCell ⟨b, o + 1, none⟩ _).heap[g']? = _
          rw [set_other hne]
          exact hgg
      · simp; omega
      · intro hnil
        have := congrArg List.length hnil
        simp at this
        omega
    · refine Fr.drewN ?_ q
      refine Fr.setCell ?_ _ _ (fun _ => rfl)
      exact Fr.refl _ _

end Go.Proofs.YtmhaknejeobfgabGreatDoor

/- QueueT. -/
namespace Go.Proofs.YtmhaknejeobfgabGreatDoor
open Go.RowKit
attribute [local go_sem ↓] Go.wp_at_zero Go.wp_at_succ

set_option maxHeartbeats 800000 in
theorem Q_take_nil_R {w : World} {b o : Nat} {cs : Array Value} {t : TypeId} {g : Option Nat} {N : Nat} (hb : w.heap[b]? = some (.cells cs t (0, 0))) (hq : QIs w .i32 21 cs o g [] N) (hN : N ≤ 1099511627776) :
    Calls Tryz.prog 118 #[.pointer (some ⟨b, o, none⟩)] w fun e w' => e = .returned (.tuple #[.int .i32 0, .bool false]) ∧ ∃ q, w' = w.drewN q := by
  have hz : ((([] : List Int).length : Int) == 0) = true := rfl
  have HB : Hid (w.heap[b]? = some (.cells cs t (0, 0))) := hb
  clear hb
  go_enter Tryz.func118, Tryz.ntmps118
  go_wp2_with (go_at_call 131; refine (Q_len_R (by exact HB.out) hq hN).mono ?_; rintro e w' ⟨rfl, q, rfl⟩)
  go_ret2
  exact ⟨rfl, _, rfl⟩

set_option maxHeartbeats 800000 in
theorem Q_take_R {w : World} {b o : Nat} {cs : Array Value} {t : TypeId} {g : Option Nat} {x : Int} {r : List Int} {N : Nat} (hb : w.heap[b]? = some (.cells cs t (0, 0))) (hq : QIs w .i32 21 cs o g (x :: r) N) (hN : N ≤ 1099511627776) (hg : g ≠ some b) :
    Calls Tryz.prog 118 #[.pointer (some ⟨b, o, none⟩)] w fun e w' => e = .returned (.tuple #[.int .i32 x, .bool true]) ∧
      ∃ cs', w'.heap[b]? = some (.cells cs' t (0, 0)) ∧ cs'.size = cs.size ∧ (∀ i, i ≠ o → i ≠ o + 1 → cs'[i]? = cs[i]?) ∧ QIs w' .i32 21 cs' o g r N ∧ Fr (fun x => x = b) w w' := by
  obtain ⟨gx, n, c, hp, c0, c1, cx, hpn, hnc, hcm⟩ : ∃ gx n c hp, w.cell? ⟨b, o, none⟩ = some (.slice (some ⟨gx, 0, none⟩) n c) ∧ w.cell? ⟨b, o + 1, none⟩ = some (.int .i64 (hp : Nat)) ∧ w.cell? ⟨gx, hp, none⟩ = some (.int .i32 x) ∧ hp < n ∧ n ≤ c ∧ c ≤ maxLen := by
    obtain ⟨v, pre, c0, c1, hr, hgv, hn, _⟩ := hq
    rcases row_cases hr with ⟨rfl, h0, hx⟩ | ⟨g', cap, cur, rfl, hgg, h1, h2, h3, h4, h5⟩
    · simp at hx
    · refine ⟨g', _, cap, pre.length, cell_of hb c0, cell_of hb c1, cell_of hgg ?_, by simp, h1, h2⟩
      rw [h5 _ (by simp), List.getElem?_append_right (by omega)]
      simp
  have hz : ((r.length : Int) + 1 == 0) = false := by simp; omega
  have i0 : (0 : Int) ≤ (hp : Int) := by omega
  have i1 : (hp : Int) < (n : Int) := by omega
  unfold maxLen at hcm
  have HB : Hid (w.heap[b]? = some (.cells cs t (0, 0))) := hb
  clear hb
  go_enter Tryz.func118, Tryz.ntmps118
  go_wp2_with (go_at_call 131; refine (Q_len_R (by exact HB.out) hq hN).mono ?_; rintro e w' ⟨rfl, q, rfl⟩)
  go_quiet (fail)
  go_wp2_with (go_at_call 132; refine (Q_drop_R 1 (by exact HB.out) (hq.drewN _) (by simp) hg).mono ?_; rintro e w' ⟨rfl, cs', r1, r2, r3, r4, r5⟩)
  go_ret2
  exact ⟨rfl, cs', r1, r2, r3, r4, ⟨r5.os, r5.tape, r5.output, r5.size, r5.block⟩⟩

end Go.Proofs.YtmhaknejeobfgabGreatDoor

/- QueueP. -/
namespace Go.Proofs.YtmhaknejeobfgabGreatDoor
open Go.RowKit
attribute [local go_sem ↓] Go.wp_at_zero Go.wp_at_succ

theorem Tryz.info_R : (Tryz.prog.info? 21).map (fun i => (i.zero, i.size, i.bytes)) = some (some (.int .i32 0), 1, 4) := by kernel_rfl

set_option maxHeartbeats 800000 in
theorem put_plain_R (b o n c h m c2 : Nat) (a : Option Addr) (ad : Addr) (cs : Array Value) (t : TypeId) (xs news : List Value) (w : World) (hb : w.heap[b]? = some (.cells cs t (0, 0))) (c0 : cs[o]? = some (.slice a n c)) (c1 : cs[o + 1]? = some (.int .i64 h)) (hown : w.ownsRow 0 21 1 (.slice a n c) n xs) (hgb : (Value.slice a n c).ownBlock ≠ some b)
    (hl : news.length = m) (hnews : ∀ j u, news[j]? = some u → w.cell? (ad.add j) = some u) (h1 : ∀ u ∈ news, u.oneCell' = true) (hnm : n + m ≤ 4398046511104) (hno : 2 * h ≤ n) :
    Calls Tryz.prog 137 #[.pointer (some ⟨b, o, none⟩), .slice (some ad) m c2] w fun e w' => e = .returned (.tuple #[]) ∧ PutLeft w w' 21 b o cs t (Value.slice a n c).ownBlock (n + m) (xs ++ news) (.int .i64 h) := by
  obtain ⟨i0, hi, hz0, hz1, hz2⟩ := info_parts Tryz.info_R
  have k0 := cell_of hb c0
  have k1 := cell_of hb c1
  have f0 := frozen_of hb o
  have f1 := frozen_of hb (o + 1)
  have hlt0 : o < cs.size := (Array.getElem?_eq_some_iff.1 c0).1
  have hlt1 : o + 1 < cs.size := (Array.getElem?_eq_some_iff.1 c1).1
  have hnot : ¬ ((n : Int) / 2 < (h : Int)) := by omega
  have HB : Hid (w.heap[b]? = some (.cells cs t (0, 0))) := hb
  have HC : Hid (cs[o + 1]? = some (.int .i64 h)) := c1
  have HL : Hid (news.length = m) := hl
  have HI : Hid (Tryz.prog.info? 21 = some i0 ∧ i0.zero = some (.int .i32 0) ∧ i0.size = 1 ∧ i0.bytes = 4) := ⟨hi, hz0, hz1, hz2⟩
  clear hb c0 c1 hl hi hz0 hz1 hz2
  go_enter Tryz.func137, Tryz.ntmps137
  go_wp2
  go_quiet (fail)
  go_wp2_with (at_builtin; refine wpList_append_own_at _ rfl _ _ 104 rfl 0 21 i0 (.int .i32 0) 1 4 Tryz.underlying104 HI.out.1 HI.out.2.1 HI.out.2.2.1 HI.out.2.2.2 rfl (by decide) _ n xs rfl hown ad m c2 news rfl (by rw [HL.out]; omega) hnews h1 (by unfold maxLen; omega) (by omega) (Nat.zero_le _) ?grow)
  intro v' w1 hown1 hgrow hnil hloc
  have hbb : w1.heap[b]? = some (.cells cs t (0, 0)) := (hgrow.block b (lt_of HB.out) (Ne.symm hgb)).trans HB.out
  have c0' : cs[o]? = some (.slice a n c) := by have := k0; rw [World.cell?, HB.out] at this; simpa using this
  have q0 := cell_of hbb c0'
  have q1 := frozen_of hbb o
  have HBB : Hid (w1.heap[b]? = some (.cells cs t (0, 0))) := hbb
  clear hbb c0'
  obtain ⟨a', c', rfl⟩ : ∃ a' c', v' = .slice a' (n + m) c' := by
    rcases hown1.2 with ⟨h, h0⟩ | ⟨g, cap', _, h, _⟩
    · exact ⟨none, 0, by rw [h, h0]⟩
    · exact ⟨_, cap', h⟩
  go_wp2
  go_end0
  refine ⟨rfl, .slice a' (n + m) c', ?_, ?_, ?_, ?_⟩
  · rw [set_of HBB.out, set_get (cs := cs.setIfInBounds o (.slice a' (n + m) c')) (o := o + 1) (by rw [get_set_other _ (by omega)]; exact HC.out)]
  · refine row_set hown1 ?_ _ _
    rcases hloc with h | h
    · rw [h]; exact hgb
    · rw [h]
      intro e
      have := lt_of HB.out
      simp at e
      omega
  · rcases hloc with h | h
    · exact .inl h
    · exact .inr ⟨_, h, Nat.le_refl _⟩
  · refine Fr.setCell ?_ _ _ (fun _ => .inl rfl)
    exact ((Fr.refl _ _).drewN _).grown hgrow (fun k h _ => .inr h.symm)

set_option maxRecDepth 100000 in
set_option maxHeartbeats 800000 in
theorem put_plain_nil_R (b o n c h : Nat) (a : Option Addr) (cs : Array Value) (t : TypeId) (xs : List Value) (w : World) (hb : w.heap[b]? = some (.cells cs t (0, 0))) (c0 : cs[o]? = some (.slice a n c)) (c1 : cs[o + 1]? = some (.int .i64 h)) (hown : w.ownsRow 0 21 1 (.slice a n c) n xs) (hgb : (Value.slice a n c).ownBlock ≠ some b)
    (hnm : n ≤ 4398046511104) (hno : 2 * h ≤ n) :
    Calls Tryz.prog 137 #[.pointer (some ⟨b, o, none⟩), .slice none 0 0] w fun e w' => e = .returned (.tuple #[]) ∧ PutLeft w w' 21 b o cs t (Value.slice a n c).ownBlock n xs (.int .i64 h) := by
  obtain ⟨i0, hi, hz0, hz1, hz2⟩ := info_parts Tryz.info_R
  have k0 := cell_of hb c0
  have k1 := cell_of hb c1
  have f0 := frozen_of hb o
  have f1 := frozen_of hb (o + 1)
  have hnot : ¬ ((n : Int) / 2 < (h : Int)) := by omega
  have HB : Hid (w.heap[b]? = some (.cells cs t (0, 0))) := hb
  have H0 : Hid (cs[o]? = some (.slice a n c)) := c0
  have HC : Hid (cs[o + 1]? = some (.int .i64 h)) := c1
  have HI : Hid (Tryz.prog.info? 21 = some i0) := hi
  clear hb c0 c1 hi hz0 hz1 hz2
  go_enter Tryz.func137, Tryz.ntmps137
  go_wp2
  go_quiet (fail)
  go_wp2_with (at_builtin; go_must (refine wpList_append_own_none rfl _ _ 104 rfl 0 21 i0 1 Tryz.underlying104 HI.out (.slice a n c) n xs rfl hown rfl ?_))
  go_end0
  refine ⟨rfl, .slice a n c, ?_, row_set hown hgb _ _, .inl rfl, ?_⟩
  · refine (set_of (w := w.drewN _) HB.out _ _).trans ?_
    rw [set_get H0.out, set_get HC.out]
  · refine Fr.setCell ?_ _ _ (fun _ => .inl rfl)
    exact (Fr.refl _ _).drewN _

end Go.Proofs.YtmhaknejeobfgabGreatDoor

/- QueueM. -/
namespace Go.Proofs.YtmhaknejeobfgabGreatDoor
open Go.RowKit
attribute [local go_sem ↓] Go.wp_at_zero Go.wp_at_succ

theorem copy_R (w : World) (g n c h : Nat) (cur : Array Value) (hg : w.heap[g]? = some (.cells cur 21 (0, 0))) (hs : cur.size = c) (hn : h < n) (hnc : n ≤ c) (h1 : ∀ v ∈ (cur.toList.drop h).take (n - h), v.oneCell' = true) (ty : TypeId) :
    (Builtin.copy_ #[104, 104] ty #[.slice (some ⟨g, 0, none⟩) n c, .slice (some ⟨g, h, none⟩) (n - h) (c - h)]).run Tryz.prog w = .ok (.int .i64 ((n : Int) - (h : Int))) (w.setRow g (moved cur h n)) := by
  have hl : ((cur.toList.drop h).take (n - h)).length = n - h := by simp; omega
  have := run_copy_row (P := Tryz.prog) w 104 104 ty 21 g 0 n c ⟨g, h, none⟩ (n - h) (c - h) cur 21 ((cur.toList.drop h).take (n - h)) Tryz.underlying104 (by kernel_rfl) hg (by rw [hl]; show n - h = min (n - h) n; omega) (by
    intro j v hj
    have hjl : j < n - h := by have := (List.getElem?_eq_some_iff.1 hj).1; omega
    have : (⟨g, h, none⟩ : Addr).add j = ⟨g, h + j, none⟩ := by unfold Addr.add; simp
    rw [this]
    refine cell_of hg ?_
    rw [List.getElem?_take, if_pos hjl, List.getElem?_drop] at hj
    simpa using hj) (by rw [hl]; omega) h1
  rw [this]
  have e : goInt ((cur.toList.drop h).take (n - h)).length = .int .i64 ((n : Int) - (h : Int)) := by
    rw [hl, show ((n : Int) - (h : Int)) = ((n - h : Nat) : Int) by omega]
    rfl
  rw [e]
  rfl

set_option maxRecDepth 100000 in
set_option maxHeartbeats 1600000 in
theorem put_move_R (b o n c h m c2 g : Nat) (ad : Addr) (cs cur : Array Value) (t : TypeId) (news : List Value) (w : World) (hb : w.heap[b]? = some (.cells cs t (0, 0))) (c0 : cs[o]? = some (.slice (some ⟨g, 0, none⟩) n c)) (c1 : cs[o + 1]? = some (.int .i64 h)) (hg : w.heap[g]? = some (.cells cur 21 (0, 0))) (hcur : cur.size = c) (hnc : n ≤ c) (hcm : c ≤ maxLen) (hone : ∀ v ∈ (cur.toList.drop h).take (n - h), v.oneCell' = true) (hgb : g ≠ b)
    (hl : news.length = m) (hnews : ∀ j u, news[j]? = some u → w.cell? (ad.add j) = some u) (hadg : news ≠ [] → ad.block ≠ g) (hadb : news ≠ [] → ad.block ≠ b) (h1 : ∀ u ∈ news, u.oneCell' = true) (hnm : n + m ≤ 4398046511104) (hhn : h < n) (hno : n < 2 * h) :
    Calls Tryz.prog 137 #[.pointer (some ⟨b, o, none⟩), .slice (some ad) m c2] w fun e w' => e = .returned (.tuple #[]) ∧ PutLeft w w' 21 b o cs t (some g) (n - h + m) ((cur.toList.drop h).take (n - h) ++ news) (.int .i64 0) := by
  obtain ⟨i0, hi, hz0, hz1, hz2⟩ := info_parts Tryz.info_R
  have k0 := cell_of hb c0
  have k1 := cell_of hb c1
  have f0 := frozen_of hb o
  have f1 := frozen_of hb (o + 1)
  have hyes : (n : Int) / 2 < (h : Int) := by omega
  have hcp : ∀ q, (Builtin.copy_ #[104, 104] 3 #[.slice (some ⟨g, 0, none⟩) n c, .slice (some ⟨g, h, none⟩) (n - h) (c - h)]).run Tryz.prog (w.drewN q) = .ok (.int .i64 ((n : Int) - (h : Int))) ((w.setRow g (moved cur h n)).drewN q) := fun q => copy_R (w.drewN q) g n c h cur hg hcur hhn hnc hone _
  obtain ⟨W1, hW1⟩ : ∃ W, W = w.setRow g (moved cur h n) := ⟨_, rfl⟩
  rw [← hW1] at hcp
  have hb1 : W1.heap[b]? = some (.cells cs t (0, 0)) := by rw [hW1, setRow_other _ _ _ _ (Ne.symm hgb)]; exact hb
  have hg1 : W1.heap[g]? = some (.cells (moved cur h n) 21 (0, 0)) := by rw [hW1]; exact setRow_heap w g cur _ _ _ hg
  have m0 := cell_of hb1 c0
  have m1 := cell_of hb1 c1
  have e0 := frozen_of hb1 o
  have e1 := frozen_of hb1 (o + 1)
  have b1 : (0 : Int) ≤ (n : Int) - (h : Int) := by omega
  have b2 : (n : Int) - (h : Int) ≤ (c : Int) := by omega
  have b3 : (h : Int) ≤ (n : Int) := by omega
  have b4 : (n : Int) ≤ (c : Int) := by omega
  have hlc : h < c := by omega
  have HH : Hid (hb = hb ∧ hg = hg) := ⟨rfl, rfl⟩
  unfold maxLen at hcm
  have HB : Hid (w.heap[b]? = some (.cells cs t (0, 0))) := hb
  have HB1 : Hid (W1.heap[b]? = some (.cells cs t (0, 0))) := hb1
  have HG1 : Hid (W1.heap[g]? = some (.cells (moved cur h n) 21 (0, 0))) := hg1
  have HW1 : Hid (W1 = w.setRow g (moved cur h n)) := hW1
  have HCUR : Hid (cur.size = c) := hcur
  have H0 : Hid (cs[o]? = some (.slice (some ⟨g, 0, none⟩) n c)) := c0
  have HC : Hid (cs[o + 1]? = some (.int .i64 h)) := c1
  have HL : Hid (news.length = m) := hl
  have HI : Hid (Tryz.prog.info? 21 = some i0 ∧ i0.zero = some (.int .i32 0) ∧ i0.size = 1 ∧ i0.bytes = 4) := ⟨hi, hz0, hz1, hz2⟩
  clear HH hb c0 c1 hl hi hz0 hz1 hz2 hb1 hg1 hW1 hcur hg
  go_enter Tryz.func137, Tryz.ntmps137
  go_wp2
  go_quiet (fail)
  go_wp2
  go_region
  go_wp2_with (at_builtin; refine wpList_append_own_at _ rfl _ _ 104 rfl 0 21 i0 (.int .i32 0) 1 4 Tryz.underlying104 HI.out.1 HI.out.2.1 HI.out.2.2.1 HI.out.2.2.2 rfl (by decide) (.slice (some ⟨g, 0, none⟩) (n - h) c) (n - h) ((cur.toList.drop h).take (n - h)) ?hs ?own ad m c2 news rfl (by rw [HL.out]; omega) ?news h1 (by unfold maxLen; omega) (by omega) (Nat.zero_le _) ?grow)
  case hs => rfl
  case own =>
    refine row_set (row_set ?_ (by simpa [Value.ownBlock] using hgb) _ _) (by simpa [Value.ownBlock] using hgb) _ _
    exact moved_row HG1.out HCUR.out (by omega) (by omega) (by unfold maxLen; omega)
  case news =>
    intro j u hu
    have ea : (ad.add j).block = ad.block := by unfold Addr.add; split <;> rfl
    have hne : news ≠ [] := fun e => by rw [e] at hu; simp at hu
    rw [World.cell?_of_block (w := w) (w' := ((W1.drewN _).setCell _ _).setCell _ _)]
    · exact hnews j u hu
    · rw [ea, set_other (hadb hne), set_other (hadb hne)]
      show W1.heap[ad.block]? = _
      rw [HW1.out, setRow_other _ _ _ _ (hadg hne)]
  case grow =>
    intro v' w1 hown1 hgrow _ hloc
    have hsz : w.heap.size = W1.heap.size := by rw [HW1.out]; simp
    have hlt := lt_of HB.out
    have hbb : w1.heap[b]? = some (.cells ((cs.setIfInBounds o (.slice (some ⟨g, 0, none⟩) (n - h) c)).setIfInBounds (o + 1) (.int .i64 0)) t (0, 0)) := by
      refine (hgrow.block b ?_ (by simp only [Value.ownBlock, ne_eq, Option.some.injEq]; exact Ne.symm hgb)).trans ?_
      · simp only [size_set]; show b < W1.heap.size; omega
      · exact set_of (set_of (w := W1.drewN _) HB1.out _ _) _ _
    have hlt0 : o < cs.size := (Array.getElem?_eq_some_iff.1 H0.out).1
    have hlt1 : o + 1 < cs.size := (Array.getElem?_eq_some_iff.1 HC.out).1
    have q0 : w1.cell? ⟨b, o, none⟩ = some (.slice (some ⟨g, 0, none⟩) (n - h) c) := cell_of hbb (by rw [get_set_other _ (by omega), get_set_same _ hlt0])
    have q1 := frozen_of hbb o
    have HBB : Hid (w1.heap[b]? = some (.cells ((cs.setIfInBounds o (.slice (some ⟨g, 0, none⟩) (n - h) c)).setIfInBounds (o + 1) (.int .i64 0)) t (0, 0))) := hbb
    clear hbb
    obtain ⟨a', c', rfl⟩ : ∃ a' c', v' = .slice a' (n - h + m) c' := by
      rcases hown1.2 with ⟨h, h0⟩ | ⟨g, cap', _, h, _⟩
      · exact ⟨none, 0, by rw [h, h0]⟩
      · exact ⟨_, cap', h⟩
    go_wp2
    go_end0
    have hloc' : (Value.slice a' (n - h + m) c').ownBlock = some g ∨ ∃ y, (Value.slice a' (n - h + m) c').ownBlock = some y ∧ w.heap.size ≤ y := by
      rcases hloc with h | h
      · exact .inl h
      · exact .inr ⟨_, h, by omega⟩
    refine ⟨rfl, .slice a' (n - h + m) c', ?_, ?_, hloc', ?_⟩
    · rw [set_of HBB.out]
      congr 2
      exact set_three _ _ _ _ _
    · refine row_set hown1 ?_ _ _
      rcases hloc' with h | ⟨y, h, hy⟩
      · rw [h]; simpa using hgb
      · rw [h]
        intro e
        simp at e
        omega
    · refine Fr.setCell ?_ _ _ (fun _ => .inl rfl)
      refine Fr.grown ?_ hgrow (fun k h _ => .inr h.symm)
      refine Fr.setCell ?_ _ _ (fun _ => .inl rfl)
      refine Fr.setCell ?_ _ _ (fun _ => .inl rfl)
      refine Fr.drewN ?_ _
      exact HW1.out ▸ ⟨rfl, rfl, rfl, by simp, fun k _ hn => setRow_other _ _ _ _ (fun e => hn (.inr (by rw [e])))⟩

set_option maxRecDepth 100000 in
set_option maxHeartbeats 1600000 in
theorem put_move_nil_R (b o n c h g : Nat) (cs cur : Array Value) (t : TypeId) (w : World) (hb : w.heap[b]? = some (.cells cs t (0, 0))) (c0 : cs[o]? = some (.slice (some ⟨g, 0, none⟩) n c)) (c1 : cs[o + 1]? = some (.int .i64 h)) (hg : w.heap[g]? = some (.cells cur 21 (0, 0))) (hcur : cur.size = c) (hnc : n ≤ c) (hcm : c ≤ maxLen) (hone : ∀ v ∈ (cur.toList.drop h).take (n - h), v.oneCell' = true) (hgb : g ≠ b)
    (_hnm : n ≤ 4398046511104) (hhn : h < n) (hno : n < 2 * h) :
    Calls Tryz.prog 137 #[.pointer (some ⟨b, o, none⟩), .slice none 0 0] w fun e w' => e = .returned (.tuple #[]) ∧ PutLeft w w' 21 b o cs t (some g) (n - h) ((cur.toList.drop h).take (n - h)) (.int .i64 0) := by
  obtain ⟨i0, hi, hz0, hz1, hz2⟩ := info_parts Tryz.info_R
  have k0 := cell_of hb c0
  have k1 := cell_of hb c1
  have f0 := frozen_of hb o
  have f1 := frozen_of hb (o + 1)
  have hyes : (n : Int) / 2 < (h : Int) := by omega
  have hcp : ∀ q, (Builtin.copy_ #[104, 104] 3 #[.slice (some ⟨g, 0, none⟩) n c, .slice (some ⟨g, h, none⟩) (n - h) (c - h)]).run Tryz.prog (w.drewN q) = .ok (.int .i64 ((n : Int) - (h : Int))) ((w.setRow g (moved cur h n)).drewN q) := fun q => copy_R (w.drewN q) g n c h cur hg hcur hhn hnc hone _
  obtain ⟨W1, hW1⟩ : ∃ W, W = w.setRow g (moved cur h n) := ⟨_, rfl⟩
  rw [← hW1] at hcp
  have hb1 : W1.heap[b]? = some (.cells cs t (0, 0)) := by rw [hW1, setRow_other _ _ _ _ (Ne.symm hgb)]; exact hb
  have hg1 : W1.heap[g]? = some (.cells (moved cur h n) 21 (0, 0)) := by rw [hW1]; exact setRow_heap w g cur _ _ _ hg
  have m0 := cell_of hb1 c0
  have m1 := cell_of hb1 c1
  have e0 := frozen_of hb1 o
  have e1 := frozen_of hb1 (o + 1)
  have b1 : (0 : Int) ≤ (n : Int) - (h : Int) := by omega
  have b2 : (n : Int) - (h : Int) ≤ (c : Int) := by omega
  have b3 : (h : Int) ≤ (n : Int) := by omega
  have b4 : (n : Int) ≤ (c : Int) := by omega
  have hlc : h < c := by omega
  have HH : Hid (hb = hb ∧ hg = hg) := ⟨rfl, rfl⟩
  unfold maxLen at hcm
  have HB : Hid (w.heap[b]? = some (.cells cs t (0, 0))) := hb
  have HB1 : Hid (W1.heap[b]? = some (.cells cs t (0, 0))) := hb1
  have HG1 : Hid (W1.heap[g]? = some (.cells (moved cur h n) 21 (0, 0))) := hg1
  have HW1 : Hid (W1 = w.setRow g (moved cur h n)) := hW1
  have HCUR : Hid (cur.size = c) := hcur
  have H0 : Hid (cs[o]? = some (.slice (some ⟨g, 0, none⟩) n c)) := c0
  have HC : Hid (cs[o + 1]? = some (.int .i64 h)) := c1
  have HI : Hid (Tryz.prog.info? 21 = some i0 ∧ i0.zero = some (.int .i32 0) ∧ i0.size = 1 ∧ i0.bytes = 4) := ⟨hi, hz0, hz1, hz2⟩
  clear HH hb c0 c1 hi hz0 hz1 hz2 hb1 hg1 hW1 hcur hg
  go_enter Tryz.func137, Tryz.ntmps137
  go_wp2
  go_quiet (fail)
  go_wp2
  go_region
  go_wp2_with (at_builtin; refine wpList_append_own_none rfl _ _ 104 rfl 0 21 i0 1 Tryz.underlying104 HI.out.1 (.slice (some ⟨g, 0, none⟩) (n - h) c) (n - h) ((cur.toList.drop h).take (n - h)) ?hs ?own rfl ?grow)
  case hs => rfl
  case own =>
    refine row_set (row_set ?_ (by simpa [Value.ownBlock] using hgb) _ _) (by simpa [Value.ownBlock] using hgb) _ _
    exact moved_row HG1.out HCUR.out (by omega) (by omega) (by unfold maxLen; omega)
  have hrow : (((W1.drewN (nq + 1)).setCell ⟨b, o, none⟩ (.slice (some ⟨g, 0, none⟩) (n - h) c)).setCell ⟨b, o + 1, none⟩ (.int .i64 0)).ownsRow 0 21 1 (.slice (some ⟨g, 0, none⟩) (n - h) c) (n - h) ((cur.toList.drop h).take (n - h)) :=
    row_set (row_set (moved_row HG1.out HCUR.out (by omega) (by omega) (by unfold maxLen; omega)) (by simpa [Value.ownBlock] using hgb) _ _) (by simpa [Value.ownBlock] using hgb) _ _
  have hbb : (((W1.drewN (nq + 1)).setCell ⟨b, o, none⟩ (.slice (some ⟨g, 0, none⟩) (n - h) c)).setCell ⟨b, o + 1, none⟩ (.int .i64 0)).heap[b]? = some (.cells ((cs.setIfInBounds o (.slice (some ⟨g, 0, none⟩) (n - h) c)).setIfInBounds (o + 1) (.int .i64 0)) t (0, 0)) := set_of (set_of (w := W1.drewN _) HB1.out _ _) _ _
  have HBB : Hid _ := hbb
  have HROW : Hid _ := hrow
  clear hbb hrow
  go_end0
  refine ⟨rfl, .slice (some ⟨g, 0, none⟩) (n - h) c, ?_, row_set HROW.out (by simpa [Value.ownBlock] using hgb) _ _, .inl rfl, ?_⟩
  · rw [set_of HBB.out]
    congr 2
    exact set_three _ _ _ _ _
  · refine Fr.setCell ?_ _ _ (fun _ => .inl rfl)
    refine Fr.setCell ?_ _ _ (fun _ => .inl rfl)
    refine Fr.setCell ?_ _ _ (fun _ => .inl rfl)
    refine Fr.drewN ?_ _
    exact HW1.out ▸ ⟨rfl, rfl, rfl, by simp, fun k _ hn => setRow_other _ _ _ _ (fun e => hn (.inr (by rw [e])))⟩

end Go.Proofs.YtmhaknejeobfgabGreatDoor

/- QueueQ. -/
namespace Go.Proofs.YtmhaknejeobfgabGreatDoor
open Go.RowKit

theorem Q_putC_R {w : World} {b o : Nat} {cs : Array Value} {t : TypeId} {g : Option Nat} {xs ys : List Int} {N : Nat} {tv : Value} (hb : w.heap[b]? = some (.cells cs t (0, 0))) (hq : QIs w .i32 21 cs o g xs N) (hgb : g ≠ some b) (htv : (ys = [] ∧ tv = .slice none 0 0) ∨ ∃ ad c2, tv = .slice (some ad) ys.length c2 ∧ (∀ j u, (ys.map (Value.int .i32))[j]? = some u → w.cell? (ad.add j) = some u) ∧ (ys.map (Value.int .i32) ≠ [] → ad.block ≠ b ∧ some ad.block ≠ g)) (hN : N + ys.length ≤ 1099511627776) :
    Calls Tryz.prog 137 #[.pointer (some ⟨b, o, none⟩), tv] w fun e w' => e = .returned (.tuple #[]) ∧
      ∃ cs' g', w'.heap[b]? = some (.cells cs' t (0, 0)) ∧ cs'.size = cs.size ∧ (∀ i, i ≠ o → i ≠ o + 1 → cs'[i]? = cs[i]?) ∧ QIs w' .i32 21 cs' o g' (xs ++ ys) (N + ys.length) ∧ (g' = g ∨ ∃ y, g' = some y ∧ w.heap.size ≤ y) ∧ Fr (fun x => x = b ∨ some x = g) w w' := by
  obtain ⟨v, pre, c0, c1, hr, hgv, hn, he⟩ := hq
  have hlt0 : o < cs.size := (Array.getElem?_eq_some_iff.1 c0).1
  have hlt1 : o + 1 < cs.size := (Array.getElem?_eq_some_iff.1 c1).1
  have hform : ∃ a c, v = .slice a (pre.length + xs.length) c := by
    rcases row_cases hr with ⟨rfl, h0, hx⟩ | ⟨g, cap, cur, rfl, _⟩
    · exact ⟨none, 0, by rw [h0]⟩
    · exact ⟨_, cap, rfl⟩
  obtain ⟨a, c, rfl⟩ := hform
  have he' : xs ++ ys = [] → pre = [] := fun h => he (List.append_eq_nil_iff.1 h).1
  by_cases hmove : pre.length + xs.length < 2 * pre.length
  · -- some lie ahead: what waits is moved down
    have hx0 : xs ≠ [] := fun h => by have := he h; subst this; simp at hmove
    have hpos : 0 < xs.length := List.length_pos_iff.2 hx0
    rcases row_cases hr with ⟨h, h0, hx⟩ | ⟨g', cap, cur, h, hgg, h1, h2, h3, h4, h5⟩
    · omega
    · cases h
      have hgg' : g = some g' := by rw [← hgv]; rfl
      subst hgg'
      have hne : g' ≠ b := fun e => hgb (by rw [e])
      have hsrc : (cur.toList.drop pre.length).take (pre.length + xs.length - pre.length) = xs.map (Value.int .i32) := by
        apply List.ext_getElem?
        intro j
        rw [List.getElem?_take]
        by_cases hj : j < xs.length
        · rw [if_pos (by omega), List.getElem?_drop, Array.getElem?_toList, h5 (pre.length + j) (by omega), List.getElem?_append_right (by omega), show pre.length + j - pre.length = j by omega]
          simp [hj]
        · rw [if_neg (by omega), List.getElem?_eq_none (by simp; omega)]
      have hone : ∀ v ∈ (cur.toList.drop pre.length).take (pre.length + xs.length - pre.length), v.oneCell' = true := by
        rw [hsrc]; exact int_one_cell _ _
      rcases htv with ⟨rfl, rfl⟩ | ⟨ad, c2, rfl, hnews, hap⟩
      · refine (put_move_nil_R b o _ c pre.length g' cs cur t w hb c0 c1 hgg h3 h1 h2 hone hne (by omega) (by omega) hmove).mono ?_
        rintro e w' ⟨rfl, hleft⟩
        refine ⟨rfl, PutLeft.queue (pre := []) (xs := xs ++ []) hlt0 hlt1 (n := xs.length) (by simp) (by simp; omega) (fun _ => rfl) ?_⟩
        rw [hsrc, show pre.length + xs.length - pre.length = xs.length by omega] at hleft
        simpa using hleft
      · refine (put_move_R b o _ c pre.length ys.length c2 g' ad cs cur t (ys.map (Value.int .i32)) w hb c0 c1 hgg h3 h1 h2 hone hne (by simp) hnews (fun h e => (hap h).2 (by rw [e])) (fun h => (hap h).1) (int_one_cell _ _) (by omega) (by omega) hmove).mono ?_
        rintro e w' ⟨rfl, hleft⟩
        refine ⟨rfl, PutLeft.queue (pre := []) (xs := xs ++ ys) hlt0 hlt1 (n := xs.length + ys.length) (by simp) (by omega) (fun _ => rfl) ?_⟩
        rw [hsrc, show pre.length + xs.length - pre.length = xs.length by omega] at hleft
        simpa using hleft
  · rcases htv with ⟨rfl, rfl⟩ | ⟨ad, c2, rfl, hnews, hap⟩
    · refine (put_plain_nil_R b o _ c pre.length a cs t _ w hb c0 c1 hr (by rw [hgv]; exact hgb) (by omega) (by omega)).mono ?_
      rintro e w' ⟨rfl, hleft⟩
      rw [hgv] at hleft
      refine ⟨rfl, PutLeft.queue (pre := pre) (xs := xs ++ []) hlt0 hlt1 (n := pre.length + xs.length) (by simp) (by simp; omega) he' ?_⟩
      simpa using hleft
    · refine (put_plain_R b o _ c pre.length ys.length c2 a ad cs t _ (ys.map (Value.int .i32)) w hb c0 c1 hr (by rw [hgv]; exact hgb) (by simp) hnews (int_one_cell _ _) (by omega) (by omega)).mono ?_
      rintro e w' ⟨rfl, hleft⟩
      rw [hgv] at hleft
      refine ⟨rfl, PutLeft.queue (pre := pre) (xs := xs ++ ys) hlt0 hlt1 (n := pre.length + xs.length + ys.length) (by simp; omega) (by omega) he' ?_⟩
      simpa using hleft

theorem Q_put_R {w : World} {b o : Nat} {cs : Array Value} {t : TypeId} {g gt : Option Nat} {xs ys : List Int} {N : Nat} {tv : Value} (hb : w.heap[b]? = some (.cells cs t (0, 0))) (hq : QIs w .i32 21 cs o g xs N) (hgb : g ≠ some b) (ht : Shows w .i32 tv gt ys) (hgt : ∀ x, gt = some x → x ≠ b ∧ some x ≠ g) (hN : N + ys.length ≤ 1099511627776) :
    Calls Tryz.prog 137 #[.pointer (some ⟨b, o, none⟩), tv] w fun e w' => e = .returned (.tuple #[]) ∧
      ∃ cs' g', w'.heap[b]? = some (.cells cs' t (0, 0)) ∧ cs'.size = cs.size ∧ (∀ i, i ≠ o → i ≠ o + 1 → cs'[i]? = cs[i]?) ∧ QIs w' .i32 21 cs' o g' (xs ++ ys) (N + ys.length) ∧ (g' = g ∨ ∃ y, g' = some y ∧ w.heap.size ≤ y) ∧ Fr (fun x => x = b ∨ some x = g) w w' := by
  refine Q_putC_R hb hq hgb ?_ hN
  rcases ht with ⟨rfl, rfl | ⟨ad, c2, rfl⟩⟩ | ⟨x, ox, c2, cur, e, rfl, rfl, hx, hc⟩
  · exact .inl ⟨rfl, rfl⟩
  · exact .inr ⟨ad, c2, rfl, by intro j u hu; simp at hu, fun h => absurd rfl h⟩
  · refine .inr ⟨⟨x, ox, none⟩, c2, rfl, ?_, fun _ => hgt x rfl⟩
    intro j u hu
    have hj : j < ys.length := by have := (List.getElem?_eq_some_iff.1 hu).1; simpa using this
    have ea : (⟨x, ox, none⟩ : Addr).add j = ⟨x, ox + j, none⟩ := by unfold Addr.add; simp
    rw [ea]
    refine cell_of hx ?_
    rw [hc j hj, ← hu]
    simp [hj]

end Go.Proofs.YtmhaknejeobfgabGreatDoor

/- QueueRB. -/
namespace Go.Proofs.YtmhaknejeobfgabGreatDoor
open Go.RowKit
attribute [local go_sem ↓] Go.wp_at_zero Go.wp_at_succ

set_option maxHeartbeats 400000 in
theorem len_B (b o n c : Nat) (a : Option Addr) (h : Int) (w : World) (h0 : w.cell? ⟨b, o, none⟩ = some (.slice a n c)) (h1 : w.cell? ⟨b, o + 1, none⟩ = some (.int .i64 h)) (hh : 0 ≤ h) (hn : h ≤ n) (hm : n ≤ maxLen) :
    Calls Tryz.prog 119 #[.pointer (some ⟨b, o, none⟩)] w fun e w' => e = .returned (.int .i64 (n - h)) ∧ ∃ q, w' = w.drewN q := by
  unfold maxLen at hm
  go_enter Tryz.func119, Tryz.ntmps119
  go_wp2
  go_quiet (fail)
  go_wp2
  go_ret
  exact ⟨rfl, _, rfl⟩

set_option maxHeartbeats 400000 in
theorem wait_B (b o n c g : Nat) (h : Nat) (w : World) (h0 : w.cell? ⟨b, o, none⟩ = some (.slice (some ⟨g, 0, none⟩) n c)) (h1 : w.cell? ⟨b, o + 1, none⟩ = some (.int .i64 h)) (hn : h ≤ n) (hnc : n ≤ c) (hm : c ≤ maxLen) :
    Calls Tryz.prog 83 #[.pointer (some ⟨b, o, none⟩)] w fun e w' => ∃ h', (h < n → h' = h) ∧ e = .returned (.slice (some ⟨g, h', none⟩) (n - h) (c - h)) ∧ ∃ q, w' = w.drewN q := by
  unfold maxLen at hm
  rcases Nat.lt_or_ge h c with hlt | hge
  case inr =>
    obtain rfl : h = c := by omega
    obtain rfl : n = h := by omega
    go_enter Tryz.func83, Tryz.ntmps83
    go_wp2
    go_quiet (fail)
    go_wp2
    go_ret
    exact ⟨0, by omega, by simp, _, rfl⟩
  go_enter Tryz.func83, Tryz.ntmps83
  go_wp2
  go_quiet (fail)
  go_wp2
  go_ret
  exact ⟨h, fun _ => rfl, rfl, _, rfl⟩

set_option maxHeartbeats 400000 in
theorem wait_nil_B (b o : Nat) (w : World) (h0 : w.cell? ⟨b, o, none⟩ = some (.slice none 0 0)) (h1 : w.cell? ⟨b, o + 1, none⟩ = some (.int .i64 0)) :
    Calls Tryz.prog 83 #[.pointer (some ⟨b, o, none⟩)] w fun e w' => e = .returned (.slice none 0 0) ∧ ∃ q, w' = w.drewN q := by
  go_enter Tryz.func83, Tryz.ntmps83
  go_wp2
  go_quiet (fail)
  go_wp2
  go_ret
  exact ⟨rfl, _, rfl⟩

/-- The first store of Drop, then Len once more. -/
theorem after_B {w : World} {b o n c : Nat} {a : Option Addr} {h : Int} (h0 : w.cell? ⟨b, o, none⟩ = some (.slice a n c)) (h1 : w.cell? ⟨b, o + 1, none⟩ = some (.int .i64 h)) (x : Int) :
    (w.setCell ⟨b, o + 1, none⟩ (.int .i64 x)).cell? ⟨b, o, none⟩ = some (.slice a n c) ∧ (w.setCell ⟨b, o + 1, none⟩ (.int .i64 x)).cell? ⟨b, o + 1, none⟩ = some (.int .i64 x) :=
  ⟨(World.cell?_setCell_other _ _ _ _ (by intro e; simp at e)).trans h0, World.cell?_setCell_same _ _ _ h1⟩

set_option maxHeartbeats 800000 in
theorem drop_some_B (b o n c : Nat) (a : Option Addr) (h k : Nat) (w : World) (h0 : w.cell? ⟨b, o, none⟩ = some (.slice a n c)) (h1 : w.cell? ⟨b, o + 1, none⟩ = some (.int .i64 h)) (f1 : w.frozen? ⟨b, o + 1, none⟩ = false) (hn : h + k < n) (hm : n ≤ maxLen) :
    Calls Tryz.prog 108 #[.pointer (some ⟨b, o, none⟩), .int .i64 k] w fun e w' => e = .returned (.tuple #[]) ∧ ∃ q, w' = (w.setCell ⟨b, o + 1, none⟩ (.int .i64 ((h : Int) + (k : Int)))).drewN q := by
  unfold maxLen at hm
  obtain ⟨a0, a1⟩ := after_B h0 h1 ((h : Int) + (k : Int))
  have hk1 : ¬ ((n : Int) - (h : Int) < (k : Int)) := by omega
  have hz : ((n : Int) - ((h : Int) + (k : Int)) == 0) = false := by simp; omega
  have hmx : (if (0 : Int) < (k : Int) then (k : Int) else 0) = (k : Int) := by split <;> omega
  go_enter Tryz.func108, Tryz.ntmps108
  go_wp2
  go_region_with (go_at_call 119; refine (len_B b o n c a h _ ?_ ?_ ?_ ?_ ?_).mono ?_; (simp [*]); (simp [*]); (omega); (omega); (unfold maxLen; omega); rintro e w' ⟨rfl, q, rfl⟩)
  all_goals
    have hk2 : ¬ ((n : Int) - (h : Int) < (k : Int)) := by omega
    simp only [if_neg hk2, hmx]
    go_wp2_with (go_at_call 119; refine (len_B b o n c a ((h : Int) + (k : Int)) _ (by exact a0) (by exact a1) (by omega) (by omega) (by unfold maxLen; omega)).mono ?_; rintro e w' ⟨rfl, q', rfl⟩)
    go_end0
    exact ⟨rfl, 1 + q + q', by simp only [drewN_set, World.drewN_drewN]⟩

set_option maxHeartbeats 800000 in
theorem drop_all_B (b o n c : Nat) (a : Option Addr) (h k : Nat) (w : World) (h0 : w.cell? ⟨b, o, none⟩ = some (.slice a n c)) (h1 : w.cell? ⟨b, o + 1, none⟩ = some (.int .i64 h)) (f0 : w.frozen? ⟨b, o, none⟩ = false) (f1 : w.frozen? ⟨b, o + 1, none⟩ = false) (hn : h + k = n) (hnc : n ≤ c) (hm : c ≤ maxLen) :
    Calls Tryz.prog 108 #[.pointer (some ⟨b, o, none⟩), .int .i64 k] w fun e w' => e = .returned (.tuple #[]) ∧ ∃ q x, w' = (((w.setCell ⟨b, o + 1, none⟩ x).setCell ⟨b, o, none⟩ (.slice a 0 c)).setCell ⟨b, o + 1, none⟩ (.int .i64 0)).drewN q := by
  unfold maxLen at hm
  obtain ⟨a0, a1⟩ := after_B h0 h1 ((h : Int) + (k : Int))
  have hz : ((n : Int) - ((h : Int) + (k : Int)) == 0) = true := by simp; omega
  have hmx : (if (0 : Int) < (k : Int) then (k : Int) else 0) = (k : Int) := by split <;> omega
  have HN : Hid (h + k = n) := hn
  have hle : h + k ≤ n := by omega
  have hge : n ≤ h + k := by omega
  clear hn
  go_enter Tryz.func108, Tryz.ntmps108
  go_wp2
  go_region_with (go_at_call 119; refine (len_B b o n c a h _ ?_ ?_ ?_ ?_ ?_).mono ?_; (simp [*]); (simp [*]); (omega); (omega); (unfold maxLen; omega); rintro e w' ⟨rfl, q, rfl⟩)
  all_goals
    have hk2 : ¬ ((n : Int) - (h : Int) < (k : Int)) := by omega
    simp only [if_neg hk2, hmx]
    go_wp2_with (go_at_call 119; refine (len_B b o n c a ((h : Int) + (k : Int)) _ (by exact a0) (by exact a1) (by omega) (by omega) (by unfold maxLen; omega)).mono ?_; rintro e w' ⟨rfl, q', rfl⟩)
    go_end0
    exact ⟨rfl, 1 + q + q', .int .i64 ((h : Int) + (k : Int)), by simp only [drewN_set, World.drewN_drewN]⟩

end Go.Proofs.YtmhaknejeobfgabGreatDoor

/- QueueSB. -/
namespace Go.Proofs.YtmhaknejeobfgabGreatDoor
open Go.RowKit

/-- How many wait. -/
theorem Q_len_B {w : World} {b o : Nat} {cs : Array Value} {t : TypeId} {g : Option Nat} {xs : List Int} {N : Nat} (hb : w.heap[b]? = some (.cells cs t (0, 0))) (hq : QIs w .u8 5 cs o g xs N) (hN : N ≤ 1099511627776) :
    Calls Tryz.prog 119 #[.pointer (some ⟨b, o, none⟩)] w fun e w' => e = .returned (.int .i64 xs.length) ∧ ∃ q, w' = w.drewN q := by
  obtain ⟨v, pre, c0, c1, hr, _, hn, _⟩ := hq
  rcases row_cases hr with ⟨rfl, h0, _⟩ | ⟨g, cap, cur, rfl, _⟩
  · refine (len_B b o 0 0 none (pre.length : Int) w (cell_of hb c0) (cell_of hb c1) (by omega) (by omega) (by unfold maxLen; omega)).mono ?_
    rintro e w' ⟨rfl, hw⟩
    exact ⟨by congr 2; omega, hw⟩
  · refine (len_B b o _ _ _ (pre.length : Int) w (cell_of hb c0) (cell_of hb c1) (by omega) (by omega) (by unfold maxLen; omega)).mono ?_
    rintro e w' ⟨rfl, hw⟩
    exact ⟨by congr 2; omega, hw⟩

/-- What waits. -/
theorem Q_wait_B {w : World} {b o : Nat} {cs : Array Value} {t : TypeId} {g : Option Nat} {xs : List Int} {N : Nat} (hb : w.heap[b]? = some (.cells cs t (0, 0))) (hq : QIs w .u8 5 cs o g xs N) :
    Calls Tryz.prog 83 #[.pointer (some ⟨b, o, none⟩)] w fun e w' => ∃ v, e = .returned v ∧ Shows w .u8 v g xs ∧ ∃ q, w' = w.drewN q := by
  obtain ⟨v, pre, c0, c1, hr, hg, hn, _⟩ := hq
  rcases row_cases hr with ⟨rfl, h0, hx⟩ | ⟨g, cap, cur, rfl, hgg, h1, h2, h3, h4, h5⟩
  · have hp : pre = [] := List.length_eq_zero_iff.1 (by omega)
    have hx0 : xs = [] := List.length_eq_zero_iff.1 (by omega)
    subst hp hx0
    refine (wait_nil_B b o w (cell_of hb c0) (by simpa using cell_of hb c1)).mono ?_
    rintro e w' ⟨rfl, hw⟩
    exact ⟨_, rfl, .inl ⟨rfl, .inl rfl⟩, hw⟩
  · refine (wait_B b o _ cap g pre.length w (cell_of hb c0) (cell_of hb c1) (by omega) h1 h2).mono ?_
    rintro e w' ⟨h', hh, rfl, hw⟩
    refine ⟨_, rfl, ?_, hw⟩
    rw [show pre.length + xs.length - pre.length = xs.length by omega]
    by_cases hx0 : xs = []
    · subst hx0
      exact .inl ⟨rfl, .inr ⟨_, _, rfl⟩⟩
    · have hpos : 0 < xs.length := List.length_pos_iff.2 hx0
      obtain rfl := hh (by omega)
      refine .inr ⟨g, pre.length, _, cur, _, by rw [← hg]; rfl, rfl, hgg, fun j hj => ?_⟩
      rw [h5 (pre.length + j) (by omega), List.getElem?_append_right (by omega), show pre.length + j - pre.length = j by omega]

/-- Some are dropped. -/
theorem Q_drop_B {w : World} {b o : Nat} {cs : Array Value} {t : TypeId} {g : Option Nat} {xs : List Int} {N : Nat} (k : Nat) (hb : w.heap[b]? = some (.cells cs t (0, 0))) (hq : QIs w .u8 5 cs o g xs N) (hk : k ≤ xs.length) (hg : g ≠ some b) :
    Calls Tryz.prog 108 #[.pointer (some ⟨b, o, none⟩), .int .i64 k] w fun e w' => e = .returned (.tuple #[]) ∧
      ∃ cs', w'.heap[b]? = some (.cells cs' t (0, 0)) ∧ cs'.size = cs.size ∧ (∀ i, i ≠ o → i ≠ o + 1 → cs'[i]? = cs[i]?) ∧ QIs w' .u8 5 cs' o g (xs.drop k) N ∧ Fr (fun x => x = b) w w' := by
  obtain ⟨v, pre, c0, c1, hr, hgv, hn, _⟩ := hq
  have hlt0 : o < cs.size := (Array.getElem?_eq_some_iff.1 c0).1
  have hlt1 : o + 1 < cs.size := (Array.getElem?_eq_some_iff.1 c1).1
  have hform : ∃ a n c, v = .slice a n c ∧ n = pre.length + xs.length ∧ n ≤ c ∧ c ≤ maxLen := by
    rcases row_cases hr with ⟨rfl, h0, hx⟩ | ⟨g, cap, cur, rfl, hgg, h1, h2, h3, h4, h5⟩
    · exact ⟨none, 0, 0, rfl, by omega, Nat.le_refl _, by unfold maxLen; omega⟩
    · exact ⟨_, _, cap, rfl, rfl, h1, h2⟩
  obtain ⟨a, n, c, rfl, hnn, hnc, hcm⟩ := hform
  by_cases hall : pre.length + k = n
  · refine (drop_all_B b o n c a pre.length k w (cell_of hb c0) (cell_of hb c1) (frozen_of hb _) (frozen_of hb _) hall hnc hcm).mono ?_
    rintro e w' ⟨rfl, q, x, rfl⟩
    have hkx : k = xs.length := by omega
    subst hkx
    refine ⟨rfl, ((cs.setIfInBounds (o + 1) x).setIfInBounds o (.slice a 0 c)).setIfInBounds (o + 1) (.int .i64 0), ?_, by simp, ?_, ?_, ?_⟩
    · exact set_of (set_of (set_of hb _ _) _ _) _ _
    · intro i h0 h1
      rw [get_set_other _ h1, get_set_other _ h0, get_set_other _ h1]
    · refine ⟨.slice a 0 c, [], ?_, ?_, ?_, by rw [← hgv]; cases a <;> rfl, by simp, fun _ => rfl⟩
      · rw [get_set_other _ (by omega), get_set_same _ (by simpa using hlt0)]
      · rw [get_set_same _ (by simpa using hlt1)]
        rfl
      · rw [List.drop_length]
        rcases row_cases hr with ⟨h, h0, hx⟩ | ⟨g', cap, cur, h, hgg, h1, h2, h3, h4, h5⟩
        · cases h
          exact World.ownsRow_nil _ _ _ _
        · cases h
          have hne : g' ≠ b := fun e => hg (by rw [← hgv, ← e]; rfl)
          refine row_mk (xs := []) (cur := cur) ?_ (Nat.zero_le _) h2 h3 rfl (fun j hj => by simp at hj)
          show ((((w.setCell ⟨b, o + 1, none⟩ x).setCell ⟨b, o, none⟩ (.slice (some ⟨g', 0, none⟩) 0 c)).setCell ⟨b, o + 1, none⟩ (.int .i64 0))).heap[g']? = _
          rw [set_other hne, set_other hne, set_other hne]
          exact hgg
    · refine Fr.drewN ?_ q
      refine Fr.setCell ?_ _ _ (fun _ => rfl)
      refine Fr.setCell ?_ _ _ (fun _ => rfl)
      refine Fr.setCell ?_ _ _ (fun _ => rfl)
      exact Fr.refl _ _
  · refine (drop_some_B b o n c a pre.length k w (cell_of hb c0) (cell_of hb c1) (frozen_of hb _) (by omega) (by omega)).mono ?_
    rintro e w' ⟨rfl, q, rfl⟩
    refine ⟨rfl, cs.setIfInBounds (o + 1) (.int .i64 ((pre.length : Int) + (k : Int))), ?_, by simp, ?_, ?_, ?_⟩
    · exact set_of hb _ _
    · intro i h0 h1
      rw [get_set_other _ h1]
    · refine ⟨.slice a n c, pre ++ xs.take k, ?_, ?_, ?_, hgv, ?_, ?_⟩
      · rw [get_set_other _ (by omega)]
        exact c0
      · rw [get_set_same _ hlt1]
        simp [Nat.min_eq_left hk]
      · have e1 : (pre ++ xs.take k).length + (xs.drop k).length = pre.length + xs.length := by simp; omega
        have e2 : pre ++ xs.take k ++ xs.drop k = pre ++ xs := by simp
        rw [e1, e2]
        rcases row_cases hr with ⟨h, h0, hx⟩ | ⟨g', cap, cur, h, hgg, h1, h2, h3, h4, h5⟩
        · cases h; omega
        · cases h
          have hne : g' ≠ b := fun e => hg (by rw [← hgv, ← e]; rfl)
          refine row_mk (cur := cur) ?_ h1 h2 h3 h4 h5
          show (w.setCell ⟨b, o + 1, none⟩ _).heap[g']? = _
          rw [set_other hne]
          exact hgg
      · simp; omega
      · intro hnil
        have := congrArg List.length hnil
        simp at this
        omega
    · refine Fr.drewN ?_ q
      refine Fr.setCell ?_ _ _ (fun _ => rfl)
      exact Fr.refl _ _

end Go.Proofs.YtmhaknejeobfgabGreatDoor

/- QueuePB. -/
namespace Go.Proofs.YtmhaknejeobfgabGreatDoor
open Go.RowKit
attribute [local go_sem ↓] Go.wp_at_zero Go.wp_at_succ

theorem Tryz.info_B : (Tryz.prog.info? 5).map (fun i => (i.zero, i.size, i.bytes)) = some (some (.int .u8 0), 1, 1) := by kernel_rfl

set_option maxHeartbeats 800000 in
theorem put_plain_B (b o n c h m c2 : Nat) (a : Option Addr) (ad : Addr) (cs : Array Value) (t : TypeId) (xs news : List Value) (w : World) (hb : w.heap[b]? = some (.cells cs t (0, 0))) (c0 : cs[o]? = some (.slice a n c)) (c1 : cs[o + 1]? = some (.int .i64 h)) (hown : w.ownsRow 0 5 1 (.slice a n c) n xs) (hgb : (Value.slice a n c).ownBlock ≠ some b)
    (hl : news.length = m) (hnews : ∀ j u, news[j]? = some u → w.cell? (ad.add j) = some u) (h1 : ∀ u ∈ news, u.oneCell' = true) (hnm : n + m ≤ 4398046511104) (hno : 2 * h ≤ n) :
    Calls Tryz.prog 81 #[.pointer (some ⟨b, o, none⟩), .slice (some ad) m c2] w fun e w' => e = .returned (.tuple #[]) ∧ PutLeft w w' 5 b o cs t (Value.slice a n c).ownBlock (n + m) (xs ++ news) (.int .i64 h) := by
  obtain ⟨i0, hi, hz0, hz1, hz2⟩ := info_parts Tryz.info_B
  have k0 := cell_of hb c0
  have k1 := cell_of hb c1
  have f0 := frozen_of hb o
  have f1 := frozen_of hb (o + 1)
  have hlt0 : o < cs.size := (Array.getElem?_eq_some_iff.1 c0).1
  have hlt1 : o + 1 < cs.size := (Array.getElem?_eq_some_iff.1 c1).1
  have hnot : ¬ ((n : Int) / 2 < (h : Int)) := by omega
  have HB : Hid (w.heap[b]? = some (.cells cs t (0, 0))) := hb
  have HC : Hid (cs[o + 1]? = some (.int .i64 h)) := c1
  have HL : Hid (news.length = m) := hl
  have HI : Hid (Tryz.prog.info? 5 = some i0 ∧ i0.zero = some (.int .u8 0) ∧ i0.size = 1 ∧ i0.bytes = 1) := ⟨hi, hz0, hz1, hz2⟩
  clear hb c0 c1 hl hi hz0 hz1 hz2
  go_enter Tryz.func81, Tryz.ntmps81
  go_wp2
  go_quiet (fail)
  go_wp2_with (at_builtin; refine wpList_append_own_at _ rfl _ _ 96 rfl 0 5 i0 (.int .u8 0) 1 1 Tryz.underlying96 HI.out.1 HI.out.2.1 HI.out.2.2.1 HI.out.2.2.2 rfl (by decide) _ n xs rfl hown ad m c2 news rfl (by rw [HL.out]; omega) hnews h1 (by unfold maxLen; omega) (by omega) (Nat.zero_le _) ?grow)
  intro v' w1 hown1 hgrow hnil hloc
  have hbb : w1.heap[b]? = some (.cells cs t (0, 0)) := (hgrow.block b (lt_of HB.out) (Ne.symm hgb)).trans HB.out
  have c0' : cs[o]? = some (.slice a n c) := by have := k0; rw [World.cell?, HB.out] at this; simpa using this
  have q0 := cell_of hbb c0'
  have q1 := frozen_of hbb o
  have HBB : Hid (w1.heap[b]? = some (.cells cs t (0, 0))) := hbb
  clear hbb c0'
  obtain ⟨a', c', rfl⟩ : ∃ a' c', v' = .slice a' (n + m) c' := by
    rcases hown1.2 with ⟨h, h0⟩ | ⟨g, cap', _, h, _⟩
    · exact ⟨none, 0, by rw [h, h0]⟩
    · exact ⟨_, cap', h⟩
  go_wp2
  go_end0
  refine ⟨rfl, .slice a' (n + m) c', ?_, ?_, ?_, ?_⟩
  · rw [set_of HBB.out, set_get (cs := cs.setIfInBounds o (.slice a' (n + m) c')) (o := o + 1) (by rw [get_set_other _ (by omega)]; exact HC.out)]
  · refine row_set hown1 ?_ _ _
    rcases hloc with h | h
    · rw [h]; exact hgb
    · rw [h]
      intro e
      have := lt_of HB.out
      simp at e
      omega
  · rcases hloc with h | h
    · exact .inl h
    · exact .inr ⟨_, h, Nat.le_refl _⟩
  · refine Fr.setCell ?_ _ _ (fun _ => .inl rfl)
    exact ((Fr.refl _ _).drewN _).grown hgrow (fun k h _ => .inr h.symm)

set_option maxRecDepth 100000 in
set_option maxHeartbeats 800000 in
theorem put_plain_nil_B (b o n c h : Nat) (a : Option Addr) (cs : Array Value) (t : TypeId) (xs : List Value) (w : World) (hb : w.heap[b]? = some (.cells cs t (0, 0))) (c0 : cs[o]? = some (.slice a n c)) (c1 : cs[o + 1]? = some (.int .i64 h)) (hown : w.ownsRow 0 5 1 (.slice a n c) n xs) (hgb : (Value.slice a n c).ownBlock ≠ some b)
    (hnm : n ≤ 4398046511104) (hno : 2 * h ≤ n) :
    Calls Tryz.prog 81 #[.pointer (some ⟨b, o, none⟩), .slice none 0 0] w fun e w' => e = .returned (.tuple #[]) ∧ PutLeft w w' 5 b o cs t (Value.slice a n c).ownBlock n xs (.int .i64 h) := by
  obtain ⟨i0, hi, hz0, hz1, hz2⟩ := info_parts Tryz.info_B
  have k0 := cell_of hb c0
  have k1 := cell_of hb c1
  have f0 := frozen_of hb o
  have f1 := frozen_of hb (o + 1)
  have hnot : ¬ ((n : Int) / 2 < (h : Int)) := by omega
  have HB : Hid (w.heap[b]? = some (.cells cs t (0, 0))) := hb
  have H0 : Hid (cs[o]? = some (.slice a n c)) := c0
  have HC : Hid (cs[o + 1]? = some (.int .i64 h)) := c1
  have HI : Hid (Tryz.prog.info? 5 = some i0) := hi
  clear hb c0 c1 hi hz0 hz1 hz2
  go_enter Tryz.func81, Tryz.ntmps81
  go_wp2
  go_quiet (fail)
  go_wp2_with (at_builtin; go_must (refine wpList_append_own_none rfl _ _ 96 rfl 0 5 i0 1 Tryz.underlying96 HI.out (.slice a n c) n xs rfl hown rfl ?_))
  go_end0
  refine ⟨rfl, .slice a n c, ?_, row_set hown hgb _ _, .inl rfl, ?_⟩
  · refine (set_of (w := w.drewN _) HB.out _ _).trans ?_
    rw [set_get H0.out, set_get HC.out]
  · refine Fr.setCell ?_ _ _ (fun _ => .inl rfl)
    exact (Fr.refl _ _).drewN _

end Go.Proofs.YtmhaknejeobfgabGreatDoor

/- QueueMB. -/
namespace Go.Proofs.YtmhaknejeobfgabGreatDoor
open Go.RowKit
attribute [local go_sem ↓] Go.wp_at_zero Go.wp_at_succ

theorem copy_B (w : World) (g n c h : Nat) (cur : Array Value) (hg : w.heap[g]? = some (.cells cur 5 (0, 0))) (hs : cur.size = c) (hn : h < n) (hnc : n ≤ c) (h1 : ∀ v ∈ (cur.toList.drop h).take (n - h), v.oneCell' = true) (ty : TypeId) :
    (Builtin.copy_ #[96, 96] ty #[.slice (some ⟨g, 0, none⟩) n c, .slice (some ⟨g, h, none⟩) (n - h) (c - h)]).run Tryz.prog w = .ok (.int .i64 ((n : Int) - (h : Int))) (w.setRow g (moved cur h n)) := by
  have hl : ((cur.toList.drop h).take (n - h)).length = n - h := by simp; omega
  have := run_copy_row (P := Tryz.prog) w 96 96 ty 5 g 0 n c ⟨g, h, none⟩ (n - h) (c - h) cur 5 ((cur.toList.drop h).take (n - h)) Tryz.underlying96 (by kernel_rfl) hg (by rw [hl]; show n - h = min (n - h) n; omega) (by
    intro j v hj
    have hjl : j < n - h := by have := (List.getElem?_eq_some_iff.1 hj).1; omega
    have : (⟨g, h, none⟩ : Addr).add j = ⟨g, h + j, none⟩ := by unfold Addr.add; simp
    rw [this]
    refine cell_of hg ?_
    rw [List.getElem?_take, if_pos hjl, List.getElem?_drop] at hj
    simpa using hj) (by rw [hl]; omega) h1
  rw [this]
  have e : goInt ((cur.toList.drop h).take (n - h)).length = .int .i64 ((n : Int) - (h : Int)) := by
    rw [hl, show ((n : Int) - (h : Int)) = ((n - h : Nat) : Int) by omega]
    rfl
  rw [e]
  rfl

set_option maxRecDepth 100000 in
set_option maxHeartbeats 1600000 in
theorem put_move_B (b o n c h m c2 g : Nat) (ad : Addr) (cs cur : Array Value) (t : TypeId) (news : List Value) (w : World) (hb : w.heap[b]? = some (.cells cs t (0, 0))) (c0 : cs[o]? = some (.slice (some ⟨g, 0, none⟩) n c)) (c1 : cs[o + 1]? = some (.int .i64 h)) (hg : w.heap[g]? = some (.cells cur 5 (0, 0))) (hcur : cur.size = c) (hnc : n ≤ c) (hcm : c ≤ maxLen) (hone : ∀ v ∈ (cur.toList.drop h).take (n - h), v.oneCell' = true) (hgb : g ≠ b)
    (hl : news.length = m) (hnews : ∀ j u, news[j]? = some u → w.cell? (ad.add j) = some u) (hadg : news ≠ [] → ad.block ≠ g) (hadb : news ≠ [] → ad.block ≠ b) (h1 : ∀ u ∈ news, u.oneCell' = true) (hnm : n + m ≤ 4398046511104) (hhn : h < n) (hno : n < 2 * h) :
    Calls Tryz.prog 81 #[.pointer (some ⟨b, o, none⟩), .slice (some ad) m c2] w fun e w' => e = .returned (.tuple #[]) ∧ PutLeft w w' 5 b o cs t (some g) (n - h + m) ((cur.toList.drop h).take (n - h) ++ news) (.int .i64 0) := by
  obtain ⟨i0, hi, hz0, hz1, hz2⟩ := info_parts Tryz.info_B
  have k0 := cell_of hb c0
  have k1 := cell_of hb c1
  have f0 := frozen_of hb o
  have f1 := frozen_of hb (o + 1)
  have hyes : (n : Int) / 2 < (h : Int) := by omega
  have hcp : ∀ q, (Builtin.copy_ #[96, 96] 3 #[.slice (some ⟨g, 0, none⟩) n c, .slice (some ⟨g, h, none⟩) (n - h) (c - h)]).run Tryz.prog (w.drewN q) = .ok (.int .i64 ((n : Int) - (h : Int))) ((w.setRow g (moved cur h n)).drewN q) := fun q => copy_B (w.drewN q) g n c h cur hg hcur hhn hnc hone _
  obtain ⟨W1, hW1⟩ : ∃ W, W = w.setRow g (moved cur h n) := ⟨_, rfl⟩
  rw [← hW1] at hcp
  have hb1 : W1.heap[b]? = some (.cells cs t (0, 0)) := by rw [hW1, setRow_other _ _ _ _ (Ne.symm hgb)]; exact hb
  have hg1 : W1.heap[g]? = some (.cells (moved cur h n) 5 (0, 0)) := by rw [hW1]; exact setRow_heap w g cur _ _ _ hg
  have m0 := cell_of hb1 c0
  have m1 := cell_of hb1 c1
  have e0 := frozen_of hb1 o
  have e1 := frozen_of hb1 (o + 1)
  have b1 : (0 : Int) ≤ (n : Int) - (h : Int) := by omega
  have b2 : (n : Int) - (h : Int) ≤ (c : Int) := by omega
  have b3 : (h : Int) ≤ (n : Int) := by omega
  have b4 : (n : Int) ≤ (c : Int) := by omega
  have hlc : h < c := by omega
  have HH : Hid (hb = hb ∧ hg = hg) := ⟨rfl, rfl⟩
  unfold maxLen at hcm
  have HB : Hid (w.heap[b]? = some (.cells cs t (0, 0))) := hb
  have HB1 : Hid (W1.heap[b]? = some (.cells cs t (0, 0))) := hb1
  have HG1 : Hid (W1.heap[g]? = some (.cells (moved cur h n) 5 (0, 0))) := hg1
  have HW1 : Hid (W1 = w.setRow g (moved cur h n)) := hW1
  have HCUR : Hid (cur.size = c) := hcur
  have H0 : Hid (cs[o]? = some (.slice (some ⟨g, 0, none⟩) n c)) := c0
  have HC : Hid (cs[o + 1]? = some (.int .i64 h)) := c1
  have HL : Hid (news.length = m) := hl
  have HI : Hid (Tryz.prog.info? 5 = some i0 ∧ i0.zero = some (.int .u8 0) ∧ i0.size = 1 ∧ i0.bytes = 1) := ⟨hi, hz0, hz1, hz2⟩
  clear HH hb c0 c1 hl hi hz0 hz1 hz2 hb1 hg1 hW1 hcur hg
  go_enter Tryz.func81, Tryz.ntmps81
  go_wp2
  go_quiet (fail)
  go_wp2
  go_region
  go_wp2_with (at_builtin; refine wpList_append_own_at _ rfl _ _ 96 rfl 0 5 i0 (.int .u8 0) 1 1 Tryz.underlying96 HI.out.1 HI.out.2.1 HI.out.2.2.1 HI.out.2.2.2 rfl (by decide) (.slice (some ⟨g, 0, none⟩) (n - h) c) (n - h) ((cur.toList.drop h).take (n - h)) ?hs ?own ad m c2 news rfl (by rw [HL.out]; omega) ?news h1 (by unfold maxLen; omega) (by omega) (Nat.zero_le _) ?grow)
  case hs => rfl
  case own =>
    refine row_set (row_set ?_ (by simpa [Value.ownBlock] using hgb) _ _) (by simpa [Value.ownBlock] using hgb) _ _
    exact moved_row HG1.out HCUR.out (by omega) (by omega) (by unfold maxLen; omega)
  case news =>
    intro j u hu
    have ea : (ad.add j).block = ad.block := by unfold Addr.add; split <;> rfl
    have hne : news ≠ [] := fun e => by rw [e] at hu; simp at hu
    rw [World.cell?_of_block (w := w) (w' := ((W1.drewN _).setCell _ _).setCell _ _)]
    · exact hnews j u hu
    · rw [ea, set_other (hadb hne), set_other (hadb hne)]
      show W1.heap[ad.block]? = _
      rw [HW1.out, setRow_other _ _ _ _ (hadg hne)]
  case grow =>
    intro v' w1 hown1 hgrow _ hloc
    have hsz : w.heap.size = W1.heap.size := by rw [HW1.out]; simp
    have hlt := lt_of HB.out
    have hbb : w1.heap[b]? = some (.cells ((cs.setIfInBounds o (.slice (some ⟨g, 0, none⟩) (n - h) c)).setIfInBounds (o + 1) (.int .i64 0)) t (0, 0)) := by
      refine (hgrow.block b ?_ (by simp only [Value.ownBlock, ne_eq, Option.some.injEq]; exact Ne.symm hgb)).trans ?_
      · simp only [size_set]; show b < W1.heap.size; omega
      · exact set_of (set_of (w := W1.drewN _) HB1.out _ _) _ _
    have hlt0 : o < cs.size := (Array.getElem?_eq_some_iff.1 H0.out).1
    have hlt1 : o + 1 < cs.size := (Array.getElem?_eq_some_iff.1 HC.out).1
    have q0 : w1.cell? ⟨b, o, none⟩ = some (.slice (some ⟨g, 0, none⟩) (n - h) c) := cell_of hbb (by rw [get_set_other _ (by omega), get_set_same _ hlt0])
    have q1 := frozen_of hbb o
    have HBB : Hid (w1.heap[b]? = some (.cells ((cs.setIfInBounds o (.slice (some ⟨g, 0, none⟩) (n - h) c)).setIfInBounds (o + 1) (.int .i64 0)) t (0, 0))) := hbb
    clear hbb
    obtain ⟨a', c', rfl⟩ : ∃ a' c', v' = .slice a' (n - h + m) c' := by
      rcases hown1.2 with ⟨h, h0⟩ | ⟨g, cap', _, h, _⟩
      · exact ⟨none, 0, by rw [h, h0]⟩
      · exact ⟨_, cap', h⟩
    go_wp2
    go_end0
    have hloc' : (Value.slice a' (n - h + m) c').ownBlock = some g ∨ ∃ y, (Value.slice a' (n - h + m) c').ownBlock = some y ∧ w.heap.size ≤ y := by
      rcases hloc with h | h
      · exact .inl h
      · exact .inr ⟨_, h, by omega⟩
    refine ⟨rfl, .slice a' (n - h + m) c', ?_, ?_, hloc', ?_⟩
    · rw [set_of HBB.out]
      congr 2
      exact set_three _ _ _ _ _
    · refine row_set hown1 ?_ _ _
      rcases hloc' with h | ⟨y, h, hy⟩
      · rw [h]; simpa using hgb
      · rw [h]
        intro e
        simp at e
        omega
    · refine Fr.setCell ?_ _ _ (fun _ => .inl rfl)
      refine Fr.grown ?_ hgrow (fun k h _ => .inr h.symm)
      refine Fr.setCell ?_ _ _ (fun _ => .inl rfl)
      refine Fr.setCell ?_ _ _ (fun _ => .inl rfl)
      refine Fr.drewN ?_ _
      exact HW1.out ▸ ⟨rfl, rfl, rfl, by simp, fun k _ hn => setRow_other _ _ _ _ (fun e => hn (.inr (by rw [e])))⟩

set_option maxRecDepth 100000 in
set_option maxHeartbeats 1600000 in
theorem put_move_nil_B (b o n c h g : Nat) (cs cur : Array Value) (t : TypeId) (w : World) (hb : w.heap[b]? = some (.cells cs t (0, 0))) (c0 : cs[o]? = some (.slice (some ⟨g, 0, none⟩) n c)) (c1 : cs[o + 1]? = some (.int .i64 h)) (hg : w.heap[g]? = some (.cells cur 5 (0, 0))) (hcur : cur.size = c) (hnc : n ≤ c) (hcm : c ≤ maxLen) (hone : ∀ v ∈ (cur.toList.drop h).take (n - h), v.oneCell' = true) (hgb : g ≠ b)
    (_hnm : n ≤ 4398046511104) (hhn : h < n) (hno : n < 2 * h) :
    Calls Tryz.prog 81 #[.pointer (some ⟨b, o, none⟩), .slice none 0 0] w fun e w' => e = .returned (.tuple #[]) ∧ PutLeft w w' 5 b o cs t (some g) (n - h) ((cur.toList.drop h).take (n - h)) (.int .i64 0) := by
  obtain ⟨i0, hi, hz0, hz1, hz2⟩ := info_parts Tryz.info_B
  have k0 := cell_of hb c0
  have k1 := cell_of hb c1
  have f0 := frozen_of hb o
  have f1 := frozen_of hb (o + 1)
  have hyes : (n : Int) / 2 < (h : Int) := by omega
  have hcp : ∀ q, (Builtin.copy_ #[96, 96] 3 #[.slice (some ⟨g, 0, none⟩) n c, .slice (some ⟨g, h, none⟩) (n - h) (c - h)]).run Tryz.prog (w.drewN q) = .ok (.int .i64 ((n : Int) - (h : Int))) ((w.setRow g (moved cur h n)).drewN q) := fun q => copy_B (w.drewN q) g n c h cur hg hcur hhn hnc hone _
  obtain ⟨W1, hW1⟩ : ∃ W, W = w.setRow g (moved cur h n) := ⟨_, rfl⟩
  rw [← hW1] at hcp
  have hb1 : W1.heap[b]? = some (.cells cs t (0, 0)) := by rw [hW1, setRow_other _ _ _ _ (Ne.symm hgb)]; exact hb
  have hg1 : W1.heap[g]? = some (.cells (moved cur h n) 5 (0, 0)) := by rw [hW1]; exact setRow_heap w g cur _ _ _ hg
  have m0 := cell_of hb1 c0
  have m1 := cell_of hb1 c1
  have e0 := frozen_of hb1 o
  have e1 := frozen_of hb1 (o + 1)
  have b1 : (0 : Int) ≤ (n : Int) - (h : Int) := by omega
  have b2 : (n : Int) - (h : Int) ≤ (c : Int) := by omega
  have b3 : (h : Int) ≤ (n : Int) := by omega
  have b4 : (n : Int) ≤ (c : Int) := by omega
  have hlc : h < c := by omega
  have HH : Hid (hb = hb ∧ hg = hg) := ⟨rfl, rfl⟩
  unfold maxLen at hcm
  have HB : Hid (w.heap[b]? = some (.cells cs t (0, 0))) := hb
  have HB1 : Hid (W1.heap[b]? = some (.cells cs t (0, 0))) := hb1
  have HG1 : Hid (W1.heap[g]? = some (.cells (moved cur h n) 5 (0, 0))) := hg1
  have HW1 : Hid (W1 = w.setRow g (moved cur h n)) := hW1
  have HCUR : Hid (cur.size = c) := hcur
  have H0 : Hid (cs[o]? = some (.slice (some ⟨g, 0, none⟩) n c)) := c0
  have HC : Hid (cs[o + 1]? = some (.int .i64 h)) := c1
  have HI : Hid (Tryz.prog.info? 5 = some i0 ∧ i0.zero = some (.int .u8 0) ∧ i0.size = 1 ∧ i0.bytes = 1) := ⟨hi, hz0, hz1, hz2⟩
  clear HH hb c0 c1 hi hz0 hz1 hz2 hb1 hg1 hW1 hcur hg
  go_enter Tryz.func81, Tryz.ntmps81
  go_wp2
  go_quiet (fail)
  go_wp2
  go_region
  go_wp2_with (at_builtin; refine wpList_append_own_none rfl _ _ 96 rfl 0 5 i0 1 Tryz.underlying96 HI.out.1 (.slice (some ⟨g, 0, none⟩) (n - h) c) (n - h) ((cur.toList.drop h).take (n - h)) ?hs ?own rfl ?grow)
  case hs => rfl
  case own =>
    refine row_set (row_set ?_ (by simpa [Value.ownBlock] using hgb) _ _) (by simpa [Value.ownBlock] using hgb) _ _
    exact moved_row HG1.out HCUR.out (by omega) (by omega) (by unfold maxLen; omega)
  have hrow : (((W1.drewN (nq + 1)).setCell ⟨b, o, none⟩ (.slice (some ⟨g, 0, none⟩) (n - h) c)).setCell ⟨b, o + 1, none⟩ (.int .i64 0)).ownsRow 0 5 1 (.slice (some ⟨g, 0, none⟩) (n - h) c) (n - h) ((cur.toList.drop h).take (n - h)) :=
    row_set (row_set (moved_row HG1.out HCUR.out (by omega) (by omega) (by unfold maxLen; omega)) (by simpa [Value.ownBlock] using hgb) _ _) (by simpa [Value.ownBlock] using hgb) _ _
  have hbb : (((W1.drewN (nq + 1)).setCell ⟨b, o, none⟩ (.slice (some ⟨g, 0, none⟩) (n - h) c)).setCell ⟨b, o + 1, none⟩ (.int .i64 0)).heap[b]? = some (.cells ((cs.setIfInBounds o (.slice (some ⟨g, 0, none⟩) (n - h) c)).setIfInBounds (o + 1) (.int .i64 0)) t (0, 0)) := set_of (set_of (w := W1.drewN _) HB1.out _ _) _ _
  have HBB : Hid _ := hbb
  have HROW : Hid _ := hrow
  clear hbb hrow
  go_end0
  refine ⟨rfl, .slice (some ⟨g, 0, none⟩) (n - h) c, ?_, row_set HROW.out (by simpa [Value.ownBlock] using hgb) _ _, .inl rfl, ?_⟩
  · rw [set_of HBB.out]
    congr 2
    exact set_three _ _ _ _ _
  · refine Fr.setCell ?_ _ _ (fun _ => .inl rfl)
    refine Fr.setCell ?_ _ _ (fun _ => .inl rfl)
    refine Fr.setCell ?_ _ _ (fun _ => .inl rfl)
    refine Fr.drewN ?_ _
    exact HW1.out ▸ ⟨rfl, rfl, rfl, by simp, fun k _ hn => setRow_other _ _ _ _ (fun e => hn (.inr (by rw [e])))⟩

end Go.Proofs.YtmhaknejeobfgabGreatDoor

/- QueueQB. -/
namespace Go.Proofs.YtmhaknejeobfgabGreatDoor
open Go.RowKit

theorem Q_putC_B {w : World} {b o : Nat} {cs : Array Value} {t : TypeId} {g : Option Nat} {xs ys : List Int} {N : Nat} {tv : Value} (hb : w.heap[b]? = some (.cells cs t (0, 0))) (hq : QIs w .u8 5 cs o g xs N) (hgb : g ≠ some b) (htv : (ys = [] ∧ tv = .slice none 0 0) ∨ ∃ ad c2, tv = .slice (some ad) ys.length c2 ∧ (∀ j u, (ys.map (Value.int .u8))[j]? = some u → w.cell? (ad.add j) = some u) ∧ (ys.map (Value.int .u8) ≠ [] → ad.block ≠ b ∧ some ad.block ≠ g)) (hN : N + ys.length ≤ 1099511627776) :
    Calls Tryz.prog 81 #[.pointer (some ⟨b, o, none⟩), tv] w fun e w' => e = .returned (.tuple #[]) ∧
      ∃ cs' g', w'.heap[b]? = some (.cells cs' t (0, 0)) ∧ cs'.size = cs.size ∧ (∀ i, i ≠ o → i ≠ o + 1 → cs'[i]? = cs[i]?) ∧ QIs w' .u8 5 cs' o g' (xs ++ ys) (N + ys.length) ∧ (g' = g ∨ ∃ y, g' = some y ∧ w.heap.size ≤ y) ∧ Fr (fun x => x = b ∨ some x = g) w w' := by
  obtain ⟨v, pre, c0, c1, hr, hgv, hn, he⟩ := hq
  have hlt0 : o < cs.size := (Array.getElem?_eq_some_iff.1 c0).1
  have hlt1 : o + 1 < cs.size := (Array.getElem?_eq_some_iff.1 c1).1
  have hform : ∃ a c, v = .slice a (pre.length + xs.length) c := by
    rcases row_cases hr with ⟨rfl, h0, hx⟩ | ⟨g, cap, cur, rfl, _⟩
    · exact ⟨none, 0, by rw [h0]⟩
    · exact ⟨_, cap, rfl⟩
  obtain ⟨a, c, rfl⟩ := hform
  have he' : xs ++ ys = [] → pre = [] := fun h => he (List.append_eq_nil_iff.1 h).1
  by_cases hmove : pre.length + xs.length < 2 * pre.length
  · -- some lie ahead: what waits is moved down
    have hx0 : xs ≠ [] := fun h => by have := he h; subst this; simp at hmove
    have hpos : 0 < xs.length := List.length_pos_iff.2 hx0
    rcases row_cases hr with ⟨h, h0, hx⟩ | ⟨g', cap, cur, h, hgg, h1, h2, h3, h4, h5⟩
    · omega
    · cases h
      have hgg' : g = some g' := by rw [← hgv]; rfl
      subst hgg'
      have hne : g' ≠ b := fun e => hgb (by rw [e])
      have hsrc : (cur.toList.drop pre.length).take (pre.length + xs.length - pre.length) = xs.map (Value.int .u8) := by
        apply List.ext_getElem?
        intro j
        rw [List.getElem?_take]
        by_cases hj : j < xs.length
        · rw [if_pos (by omega), List.getElem?_drop, Array.getElem?_toList, h5 (pre.length + j) (by omega), List.getElem?_append_right (by omega), show pre.length + j - pre.length = j by omega]
          simp [hj]
        · rw [if_neg (by omega), List.getElem?_eq_none (by simp; omega)]
      have hone : ∀ v ∈ (cur.toList.drop pre.length).take (pre.length + xs.length - pre.length), v.oneCell' = true := by
        rw [hsrc]; exact int_one_cell _ _
      rcases htv with ⟨rfl, rfl⟩ | ⟨ad, c2, rfl, hnews, hap⟩
      · refine (put_move_nil_B b o _ c pre.length g' cs cur t w hb c0 c1 hgg h3 h1 h2 hone hne (by omega) (by omega) hmove).mono ?_
        rintro e w' ⟨rfl, hleft⟩
        refine ⟨rfl, PutLeft.queue (pre := []) (xs := xs ++ []) hlt0 hlt1 (n := xs.length) (by simp) (by simp; omega) (fun _ => rfl) ?_⟩
        rw [hsrc, show pre.length + xs.length - pre.length = xs.length by omega] at hleft
        simpa using hleft
      · refine (put_move_B b o _ c pre.length ys.length c2 g' ad cs cur t (ys.map (Value.int .u8)) w hb c0 c1 hgg h3 h1 h2 hone hne (by simp) hnews (fun h e => (hap h).2 (by rw [e])) (fun h => (hap h).1) (int_one_cell _ _) (by omega) (by omega) hmove).mono ?_
        rintro e w' ⟨rfl, hleft⟩
        refine ⟨rfl, PutLeft.queue (pre := []) (xs := xs ++ ys) hlt0 hlt1 (n := xs.length + ys.length) (by simp) (by omega) (fun _ => rfl) ?_⟩
        rw [hsrc, show pre.length + xs.length - pre.length = xs.length by omega] at hleft
        simpa using hleft
  · rcases htv with ⟨rfl, rfl⟩ | ⟨ad, c2, rfl, hnews, hap⟩
    · refine (put_plain_nil_B b o _ c pre.length a cs t _ w hb c0 c1 hr (by rw [hgv]; exact hgb) (by omega) (by omega)).mono ?_
      rintro e w' ⟨rfl, hleft⟩
      rw [hgv] at hleft
      refine ⟨rfl, PutLeft.queue (pre := pre) (xs := xs ++ []) hlt0 hlt1 (n := pre.length + xs.length) (by simp) (by simp; omega) he' ?_⟩
      simpa using hleft
    · refine (put_plain_B b o _ c pre.length ys.length c2 a ad cs t _ (ys.map (Value.int .u8)) w hb c0 c1 hr (by rw [hgv]; exact hgb) (by simp) hnews (int_one_cell _ _) (by omega) (by omega)).mono ?_
      rintro e w' ⟨rfl, hleft⟩
      rw [hgv] at hleft
      refine ⟨rfl, PutLeft.queue (pre := pre) (xs := xs ++ ys) hlt0 hlt1 (n := pre.length + xs.length + ys.length) (by simp; omega) (by omega) he' ?_⟩
      simpa using hleft

end Go.Proofs.YtmhaknejeobfgabGreatDoor

/- Byt. -/
namespace Go.Proofs.YtmhaknejeobfgabGreatDoor
open Go.RowKit Go.Proofs.YtmhaknejeobfgabGreatDoor.Stable Go.Proofs.YtmhaknejeobfgabGreatDoor.Order Go.Proofs.YtmhaknejeobfgabGreatDoor.Points

theorem hid {p : Prop} (h : p) : Hid p := h

/-- A byte of a text, as a number; 0 where there is none. -/
def byt (s : ByteArray) (j : Nat) : Nat := (s.data.toList.getD j 0).toNat

theorem byt_le (s : ByteArray) (j : Nat) : byt s j ≤ 255 := by
  unfold byt
  have := (s.data.toList.getD j 0).toNat_lt
  omega

theorem byt_index {s : ByteArray} {x : Int} {j : Nat} (hx : x = (j : Int)) (h : j < s.size) (w : World) : (Instr.index 9 (.string s) (.int .i64 x)).run Tryz.prog w = .ok (.int .u8 (byt s j)) w := by
  subst hx
  rw [run_index_string w 9 s .i64 j Tryz.underlying9, dif_pos (by omega)]
  unfold byt
  have hl : j < s.data.toList.length := by rw [← Lib.size_eq]; exact h
  rw [List.getD_eq_getElem?_getD, List.getElem?_eq_getElem hl]
  simp
  rfl

end Go.Proofs.YtmhaknejeobfgabGreatDoor

/- RefRow. -/
namespace Go.Proofs.YtmhaknejeobfgabGreatDoor
open Go.RowKit Go.Proofs.YtmhaknejeobfgabGreatDoor.Stable Go.Proofs.YtmhaknejeobfgabGreatDoor.Order Go.Proofs.YtmhaknejeobfgabGreatDoor.Points

theorem Tryz.info_int : (Tryz.prog.info? 3).map (fun i => (i.zero, i.size, i.bytes)) = some (some (.int .i64 0), 1, 8) := by kernel_rfl

theorem row_kept {w w' : World} {base : Nat} {e : TypeId} {size : Nat} {v : Value} {n : Nat} {xs : List Value} (h : w.ownsRow base e size v n xs) {X : Nat → Prop} (f : Fr X w w') (hX : ∀ x, v.ownBlock = some x → ¬ X x) : w'.ownsRow base e size v n xs := by
  refine ⟨h.1, ?_⟩
  rcases h.2 with hn | ⟨x, cap, cur, rfl, hb, hgg, rest⟩
  · exact .inl hn
  · exact .inr ⟨x, cap, cur, rfl, hb, by rw [f.block x (lt_of hgg) (hX x rfl)]; exact hgg, rest⟩

theorem row_lt {w : World} {base : Nat} {e : TypeId} {size : Nat} {v : Value} {n : Nat} {xs : List Value} (h : w.ownsRow base e size v n xs) {x : Nat} (hx : v.ownBlock = some x) : base ≤ x ∧ x < w.heap.size := by
  rcases h.2 with ⟨hn, _⟩ | ⟨g, cap, cur, rfl, hb, hgg, rest⟩
  · rw [hn] at hx; cases hx
  · cases hx; exact ⟨hb, lt_of hgg⟩

theorem row_low {w : World} {base base' : Nat} {e : TypeId} {size : Nat} {v : Value} {n : Nat} {xs : List Value} (h : w.ownsRow base e size v n xs) (hb : base' ≤ base) : w.ownsRow base' e size v n xs := by
  refine ⟨h.1, ?_⟩
  rcases h.2 with hn | ⟨x, cap, cur, rfl, h2, rest⟩
  · exact .inl hn
  · exact .inr ⟨x, cap, cur, rfl, by omega, rest⟩

theorem row_form {w : World} {base : Nat} {e : TypeId} {size : Nat} {v : Value} {n : Nat} {xs : List Value} (h : w.ownsRow base e size v n xs) : ∃ a cp, v = .slice a n cp := by
  rcases h.2 with ⟨rfl, rfl⟩ | ⟨g, cap, cur, rfl, _⟩
  · exact ⟨_, _, rfl⟩
  · exact ⟨_, _, rfl⟩

theorem row_cell {w : World} {base : Nat} {e : TypeId} {a : Option Addr} {n cp : Nat} {xs : List Value} {i : Nat} {v : Value} (h : w.ownsRow base e 1 (.slice a n cp) n xs) (hi : i < n) (hv : xs[i]? = some v) : ∃ g, a = some ⟨g, 0, none⟩ ∧ w.cell? ⟨g, i, none⟩ = some v := by
  rcases h.2 with ⟨_, hn⟩ | ⟨g, cap, cur, hs, hb, hgg, h1, h2, h3, h4⟩
  · omega
  · cases hs
    refine ⟨g, rfl, cell_of hgg ?_⟩
    have e2 : (cur.toList.take (n * 1))[i]? = xs[i]? := by rw [h4]
    rw [List.getElem?_take, if_pos (by omega)] at e2
    rw [← Array.getElem?_toList, e2, hv]

/-- Numbers as cells. -/
def ints (l : List Int) : List Value := l.map fun c => Value.int .i64 c

theorem ints_append (l m : List Int) : ints (l ++ m) = ints l ++ ints m := by simp [ints]

theorem ints_length (l : List Int) : (ints l).length = l.length := by simp [ints]

theorem ints_one (l : List Int) : ∀ u ∈ ints l, u.oneCell' = true := by
  intro u hu
  simp only [ints, List.mem_map] at hu
  obtain ⟨c, _, rfl⟩ := hu
  rfl

/-- A list of numbers in memory that is not older than base. -/
def Row (w : World) (base : Nat) (a : Option Addr) (cp : Nat) (l : List Int) : Prop := w.ownsRow base 3 1 (.slice a l.length cp) l.length (ints l)

theorem own_slice (a : Option Addr) (n cp : Nat) : (Value.slice a n cp).ownBlock = a.map (fun x => x.block) := by cases a <;> rfl

theorem Row.none (w : World) (base : Nat) : Row w base none 0 [] := ⟨rfl, .inl ⟨rfl, rfl⟩⟩

theorem Row.kept {w w' : World} {base : Nat} {a : Option Addr} {cp : Nat} {l : List Int} (h : Row w base a cp l) {X : Nat → Prop} (f : Fr X w w') (hX : ∀ x, a = some x → ¬ X x.block) : Row w' base a cp l :=
  row_kept h f (fun x hx => by
    rw [own_slice] at hx
    cases a with
    | none => cases hx
    | some y => cases hx; exact hX y rfl)

theorem Row.keep {w w' : World} {base : Nat} {a : Option Addr} {cp : Nat} {l : List Int} (h : Row w base a cp l) (f : Fr (fun _ => False) w w') : Row w' base a cp l := h.kept f (fun _ _ => id)

theorem Row.low {w : World} {base base' : Nat} {a : Option Addr} {cp : Nat} {l : List Int} (h : Row w base a cp l) (hb : base' ≤ base) : Row w base' a cp l := row_low h hb

theorem Row.lt {w : World} {base : Nat} {a : Option Addr} {cp : Nat} {l : List Int} (h : Row w base a cp l) {x : Addr} (hx : a = some x) : base ≤ x.block ∧ x.block < w.heap.size := row_lt h (by rw [own_slice, hx]; rfl)

/-- What append made of it. -/
theorem Row.more {w' : World} {base n : Nat} {l xs : List Int} {v' : Value} (h : w'.ownsRow base 3 1 v' (l.length + n) (ints l ++ ints xs)) (hn : n = xs.length) : ∃ a' c', v' = .slice a' (l ++ xs).length c' ∧ Row w' base a' c' (l ++ xs) := by
  obtain ⟨a', c', rfl⟩ := row_form h
  have e : (l ++ xs).length = l.length + n := by rw [List.length_append, hn]
  refine ⟨a', c', by rw [e], ?_⟩
  unfold Row
  rw [e, ints_append]
  exact h

/-- The frame of an append. -/
theorem grown_fr {w w' : World} {a : Option Addr} {n cp : Nat} (h : w.grownBy w' (Value.slice a n cp).ownBlock) : Fr (fun x => some x = a.map (fun y => y.block)) w w' := by
  rw [own_slice] at h
  exact (Fr.refl _ w).grown h (fun k hk _ => hk.symm)

/-- .. where all that it turned is new. -/
theorem grown_new {w w1 w' : World} {a : Option Addr} {n cp base : Nat} {l : List Int} (f : Fr (fun _ => False) w w1) (hr : Row w1 base a cp l) (hb : w.heap.size ≤ base) (h : w1.grownBy w' (Value.slice a n cp).ownBlock) : Fr (fun _ => False) w w' :=
  f.trans (grown_fr h) (fun i hi e => by
    cases a with
    | none => cases e
    | some x =>
      have e' : i = x.block := by simpa using e
      have := (hr.lt rfl).1
      omega)

/-- Two lists that share no memory. -/
def Apart2 (a b : Option Addr) : Prop := ∀ x y, a = some x → b = some y → x.block ≠ y.block

/-- Numbers that can be read. -/
def IntsAt (w : World) (a : Option Addr) (l : List Int) : Prop := ∀ j z, l[j]? = some z → ∃ b off, a = some ⟨b, off, none⟩ ∧ w.cell? ⟨b, off + j, none⟩ = some (.int .i64 z)

theorem IntsAt.kept {w w' : World} {a : Option Addr} {l : List Int} (h : IntsAt w a l) {X : Nat → Prop} (f : Fr X w w') (hX : ∀ x, a = some x → ¬ X x.block) : IntsAt w' a l := fun j z hj => by
  obtain ⟨b, off, rfl, hc⟩ := h j z hj
  have hb := World.block_lt_of_cell? _ ⟨b, off + j, Option.none⟩ hc
  refine ⟨b, off, rfl, ?_⟩
  have e := f.block b hb (hX _ rfl)
  unfold World.cell? at hc ⊢
  rw [e]
  exact hc

theorem IntsAt.keep {w w' : World} {a : Option Addr} {l : List Int} (h : IntsAt w a l) (f : Fr (fun _ => False) w w') : IntsAt w' a l := h.kept f (fun _ _ => id)

theorem Row.ints {w : World} {base : Nat} {a : Option Addr} {cp : Nat} {l : List Int} (h : Row w base a cp l) : IntsAt w a l := fun j z hj => by
  have hlt : j < l.length := (List.getElem?_eq_some_iff.1 hj).1
  obtain ⟨g, rfl, hc⟩ := row_cell h hlt (v := .int .i64 z) (by simp [YtmhaknejeobfgabGreatDoor.ints, hj])
  exact ⟨g, 0, rfl, by rw [Nat.zero_add]; exact hc⟩

/-- Part of a list. -/
theorem IntsAt.drop {w : World} {b off : Nat} {l : List Int} (h : IntsAt w (some ⟨b, off, Option.none⟩) l) (k n : Nat) : IntsAt w (some ⟨b, off + k, Option.none⟩) ((l.drop k).take n) := fun j z hj => by
  rw [List.getElem?_take] at hj
  split at hj
  · rw [List.getElem?_drop] at hj
    obtain ⟨b', off', e, hc⟩ := h _ z hj
    cases e
    exact ⟨b, off + k, rfl, by rw [Nat.add_assoc]; exact hc⟩
  · cases hj

end Go.Proofs.YtmhaknejeobfgabGreatDoor
