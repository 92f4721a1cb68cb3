/- unicode/utf8 over bytes in memory: FullRune and DecodeRune. -/
import Derived.Test.YtmhaknejeobfgaaGreatDoorShelf7
import Derived.Test.YtmhaknejeobfgaaGreatDoorTables
import Derived.Test.YtmhaknejeobfgaaGreatDoorChSure
import Derived.Test.YtmhaknejeobfgaaGreatDoorBase
import Derived.Deep.QuietTactic
import Derived.BigQuiet
import Derived.BigRegion
import Derived.Deep.RegionWith
import Derived.Deep.DrawnRows

/- Utf8B. -/
namespace Go.Proofs.YtmhaknejeobfgaaGreatDoor
open Go.RowKit Go.Proofs.YtmhaknejeobfgaaGreatDoor.Stable Go.Proofs.YtmhaknejeobfgaaGreatDoor.Order Go.Proofs.YtmhaknejeobfgaaGreatDoor.Points
attribute [local go_sem ↓] Go.wp_at_zero Go.wp_at_succ

/-- Bytes as numbers. -/
def l8 (l : List UInt8) : List Int := l.map (fun b => (b.toNat : Int))

theorem l8_append (a b : List UInt8) : l8 (a ++ b) = l8 a ++ l8 b := by simp [l8]
theorem l8_length (a : List UInt8) : (l8 a).length = a.length := by simp [l8]
theorem l8_drop (a : List UInt8) (k : Nat) : l8 (a.drop k) = (l8 a).drop k := by simp [l8]

/-- Is there a code point for sure, by its first bytes (r: how many there are)? -/
def fullB (r b0 b1 b2 : Nat) : Bool := decide (b0 < 194 ∨ 244 < b0 ∨ needOf b0 ≤ r ∨ (1 < r ∧ (b1 < lowOf b0 ∨ topOf b0 < b1)) ∨ (2 < r ∧ (b2 < 128 ∨ 191 < b2)))

theorem at_full {r b0 b1 b2 b3 : Nat} : fullB r b0 b1 b2 = decide ((atB r b0 b1 b2 b3).2 ≠ 0) := by
  unfold fullB
  apply decide_eq_decide.2
  unfold atB
  by_cases k0 : b0 < 128
  · rw [if_pos k0]
    exact ⟨fun _ => by simp, fun _ => by omega⟩
  rw [if_neg k0]
  by_cases k1 : b0 < 194 ∨ 244 < b0
  · rw [if_pos k1]
    exact ⟨fun _ => by simp, fun _ => by omega⟩
  rw [if_neg k1]
  have hn := need_cases (b := b0) (by omega) (by omega)
  by_cases k2 : r ≤ 1
  · rw [if_pos k2]
    exact ⟨fun h => by omega, fun h => absurd rfl h⟩
  rw [if_neg k2]
  by_cases k3 : b1 < lowOf b0 ∨ topOf b0 < b1
  · rw [if_pos k3]
    exact ⟨fun _ => by simp, fun _ => by omega⟩
  rw [if_neg k3]
  by_cases k4 : needOf b0 = 2
  · rw [if_pos k4]
    exact ⟨fun _ => by simp, fun _ => by omega⟩
  rw [if_neg k4]
  by_cases k5 : r ≤ 2
  · rw [if_pos k5]
    exact ⟨fun h => by omega, fun h => absurd rfl h⟩
  rw [if_neg k5]
  by_cases k6 : b2 < 128 ∨ 191 < b2
  · rw [if_pos k6]
    exact ⟨fun _ => by simp, fun _ => by omega⟩
  rw [if_neg k6]
  by_cases k7 : needOf b0 = 3
  · rw [if_pos k7]
    exact ⟨fun _ => by simp, fun _ => by omega⟩
  rw [if_neg k7]
  by_cases k8 : r ≤ 3
  · rw [if_pos k8]
    exact ⟨fun h => by omega, fun h => absurd rfl h⟩
  rw [if_neg k8]
  refine ⟨fun _ => ?_, fun _ => by omega⟩
  split <;> simp

theorem full_by {l : List UInt8} (h : l ≠ []) : fullL l = fullB l.length (l.getD 0 0).toNat (l.getD 1 0).toNat (l.getD 2 0).toNat := by
  rw [at_full (b3 := (l.getD 3 0).toNat)]
  unfold fullL atL
  apply decide_eq_decide.2
  exact ⟨fun x => x.2, fun x => ⟨h, x⟩⟩

/-- What the table's number for a first byte says. -/
theorem first_says (b : Nat) : (Lib.firstT b = 240 ∧ b < 128) ∨ (Lib.firstT b = 241 ∧ (128 ≤ b ∧ b < 194 ∨ 244 < b)) ∨
    (194 ≤ b ∧ b ≤ 244 ∧ Lib.firstT b % 8 = needOf b ∧ Lib.accLo (Lib.firstT b / 16) = lowOf b ∧ Lib.accHi (Lib.firstT b / 16) = topOf b ∧ (Lib.firstT b = 2 ∨ Lib.firstT b = 19 ∨ Lib.firstT b = 3 ∨ Lib.firstT b = 35 ∨ Lib.firstT b = 52 ∨ Lib.firstT b = 4 ∨ Lib.firstT b = 68)) := by
  unfold Lib.firstT needOf lowOf topOf
  by_cases h1 : b < 128
  · simp [h1]
  by_cases h2 : b < 194
  · simp [h1, h2]; omega
  by_cases h3 : b < 224
  · have a1 : ¬ b = 224 := by omega
    have a2 : ¬ b = 237 := by omega
    have a3 : ¬ b = 240 := by omega
    have a4 : ¬ b = 244 := by omega
    simp [h1, h2, h3, a1, a2, a3, a4, Lib.accLo, Lib.accHi]
    omega
  by_cases h4 : b = 224
  · subst h4; decide
  by_cases h5 : b < 237
  · have a1 : ¬ b = 224 := by omega
    have a2 : ¬ b = 237 := by omega
    have a3 : ¬ b = 240 := by omega
    have a4 : ¬ b = 244 := by omega
    simp [h1, h2, h3, h5, (by omega : b < 240), a1, a2, a3, a4, Lib.accLo, Lib.accHi]
    omega
  by_cases h6 : b = 237
  · subst h6; decide
  by_cases h7 : b < 240
  · have a1 : ¬ b = 224 := by omega
    have a2 : ¬ b = 237 := by omega
    have a3 : ¬ b = 240 := by omega
    have a4 : ¬ b = 244 := by omega
    simp [h1, h2, h3, h5, h7, a1, a2, a3, a4, Lib.accLo, Lib.accHi]
    omega
  by_cases h8 : b = 240
  · subst h8; decide
  by_cases h9 : b < 244
  · have a1 : ¬ b = 224 := by omega
    have a2 : ¬ b = 237 := by omega
    have a3 : ¬ b = 240 := by omega
    have a4 : ¬ b = 244 := by omega
    simp [h1, h2, h3, h5, h7, h9, a1, a2, a3, a4, Lib.accLo, Lib.accHi]
    omega
  by_cases h10 : b = 244
  · subst h10; decide
  simp [h1, h2, h3, h4, h5, h6, h7, h8, h9, h10]
  omega

set_option maxRecDepth 1000000 in
set_option maxHeartbeats 4000000 in
/-- FullRune of bytes of which there is one at least. -/
theorem full_some (n x o c b0 b1 b2 : Nat) (w : World) (hT : Lib.Utf8Tabs 0 1 w) (hn : 0 < n) (h0 : b0 < 256) (c0 : w.cell? ⟨x, o, none⟩ = some (.int .u8 b0)) (c1 : 1 < n → w.cell? ⟨x, o + 1, none⟩ = some (.int .u8 b1)) (c2 : 2 < n → w.cell? ⟨x, o + 2, none⟩ = some (.int .u8 b2)) :
    Calls Tryz.prog 82 #[.slice (some ⟨x, o, none⟩) n c] w fun e w' => e = .returned (.bool (fullB n b0 b1 b2)) ∧ Fr (fun _ => False) w w' := by
  have hxl : x < w.heap.size := block_lt_of_cell c0
  have up : ∀ {k : Nat} {v : Value} (ob : Obj), w.cell? ⟨x, k, none⟩ = some v → (w.alloc ob).cell? ⟨x, k, none⟩ = some v := fun ob h => (World.cell?_of_block (w := w) (Below.heap_alloc w ob x hxl)).trans h
  have hc0 := hT.1 b0 h0
  have hz : ((n : Int) == 0) = false := by rw [beq_eq_false_iff_ne]; omega
  have i0 : (0 : Int) < (n : Int) := by omega
  have j0 : (0 : Int) ≤ (b0 : Int) := by omega
  have j1 : (b0 : Int) < 256 := by omega
  obtain ⟨z, hz1⟩ : ∃ z, z = fullB n b0 b1 b2 := ⟨_, rfl⟩
  rw [← hz1]
  have HZ : Hid (z = fullB n b0 b1 b2) := hz1
  clear hz1
  rcases first_says b0 with ⟨e, h⟩ | ⟨e, h⟩ | ⟨h1, h2, h3, h4, h5, h6⟩
  · have hz2 : z = true := by
      rw [HZ.out]
      unfold fullB
      simp
      omega
    subst hz2
    rw [e] at hc0
    clear HZ hT h e
    go_enter Tryz.func82, Tryz.ntmps82
    go_wp2
    go_ret
    exact ⟨rfl, Fr.refl _ _⟩
  · have hz2 : z = true := by
      rw [HZ.out]
      unfold fullB
      simp
      omega
    subst hz2
    rw [e] at hc0
    have i1 : (1 : Int) ≤ (n : Int) := by omega
    clear HZ hT h e
    go_enter Tryz.func82, Tryz.ntmps82
    go_wp2
    go_ret
    exact ⟨rfl, Fr.refl _ _⟩
  · have ha := hT.2 (Lib.firstT b0 / 16) (by omega)
    have hzz : z = decide (needOf b0 ≤ n ∨ (1 < n ∧ (b1 < lowOf b0 ∨ topOf b0 < b1)) ∨ (2 < n ∧ (b2 < 128 ∨ 191 < b2))) := by
      rw [HZ.out]
      unfold fullB
      apply decide_eq_decide.2
      omega
    rw [← h3, ← h4, ← h5] at hzz
    have hs : 2 ≤ needOf b0 ∧ needOf b0 ≤ 4 := by
      rcases need_cases h1 h2 with h | h | h <;> omega
    clear HZ h3 h4 h5 hT
    rcases h6 with e | e | e | e | e | e | e
    all_goals
      rw [e] at hc0 ha hzz
      simp only [Lib.accLo, Lib.accHi, Nat.reduceMul, Nat.reduceAdd, Nat.reduceEqDiff, if_true, if_false, Nat.reduceMod, Nat.reduceDiv] at ha hzz
      obtain ⟨ha0, ha1⟩ := ha
      clear e
    · rcases (by omega : 2 ≤ n ∨ n = 1) with k | rfl
      · have hz2 : z = true := by rw [hzz]; simp; omega
        subst hz2
        have i1 : (2 : Int) ≤ (n : Int) := by omega
        clear hzz
        go_enter Tryz.func82, Tryz.ntmps82
        go_wp2
        go_ret
        exact ⟨rfl, Fr.refl _ _⟩
      · have hz2 : z = false := by rw [hzz]; simp; try omega
        subst hz2
        clear hzz
        go_enter Tryz.func82, Tryz.ntmps82
        go_wp2
        go_quiet (fail)
        go_wp2
        go_ret
        exact ⟨rfl, ((Fr.refl _ _).alloc _).drewN _⟩
    · rcases (by omega : 3 ≤ n ∨ n = 1 ∨ n = 2) with k | rfl | rfl
      · have hz2 : z = true := by rw [hzz]; simp; omega
        subst hz2
        have i1 : (3 : Int) ≤ (n : Int) := by omega
        clear hzz
        go_enter Tryz.func82, Tryz.ntmps82
        go_wp2
        go_ret
        exact ⟨rfl, Fr.refl _ _⟩
      · have hz2 : z = false := by rw [hzz]; simp; try omega
        subst hz2
        clear hzz
        go_enter Tryz.func82, Tryz.ntmps82
        go_wp2
        go_quiet (fail)
        go_wp2
        go_ret
        exact ⟨rfl, ((Fr.refl _ _).alloc _).drewN _⟩
      · rcases (by omega : b1 < 160 ∨ 191 < b1 ∧ 160 ≤ b1 ∨ (160 ≤ b1 ∧ b1 ≤ 191)) with k | k | k
        · have d1 := fun ob => up ob (c1 (by omega))
          have q1 : (b1 : Int) < 160 := by omega
          clear c1 c2
          have hz2 : z = true := by rw [hzz]; simp; try omega
          subst hz2
          clear hzz
          go_enter Tryz.func82, Tryz.ntmps82
          go_wp2
          go_quiet (fail)
          go_wp2
          go_ret
          exact ⟨rfl, ((Fr.refl _ _).alloc _).drewN _⟩
        · have d1 := fun ob => up ob (c1 (by omega))
          have q1 : ¬ (b1 : Int) < 160 := by omega
          have q2 : (191 : Int) < (b1 : Int) := by omega
          clear c1 c2
          have hz2 : z = true := by rw [hzz]; simp; try omega
          subst hz2
          clear hzz
          go_enter Tryz.func82, Tryz.ntmps82
          go_wp2
          go_quiet (fail)
          go_wp2
          go_ret
          exact ⟨rfl, ((Fr.refl _ _).alloc _).drewN _⟩
        · have d1 := fun ob => up ob (c1 (by omega))
          have q1 : ¬ (b1 : Int) < 160 := by omega
          have q2 : ¬ (191 : Int) < (b1 : Int) := by omega
          clear c1 c2
          have hz2 : z = false := by rw [hzz]; simp; try omega
          subst hz2
          clear hzz
          go_enter Tryz.func82, Tryz.ntmps82
          go_wp2
          go_quiet (fail)
          go_wp2
          go_ret
          exact ⟨rfl, ((Fr.refl _ _).alloc _).drewN _⟩
    · rcases (by omega : 3 ≤ n ∨ n = 1 ∨ n = 2) with k | rfl | rfl
      · have hz2 : z = true := by rw [hzz]; simp; omega
        subst hz2
        have i1 : (3 : Int) ≤ (n : Int) := by omega
        clear hzz
        go_enter Tryz.func82, Tryz.ntmps82
        go_wp2
        go_ret
        exact ⟨rfl, Fr.refl _ _⟩
      · have hz2 : z = false := by rw [hzz]; simp; try omega
        subst hz2
        clear hzz
        go_enter Tryz.func82, Tryz.ntmps82
        go_wp2
        go_quiet (fail)
        go_wp2
        go_ret
        exact ⟨rfl, ((Fr.refl _ _).alloc _).drewN _⟩
      · rcases (by omega : b1 < 128 ∨ 191 < b1 ∧ 128 ≤ b1 ∨ (128 ≤ b1 ∧ b1 ≤ 191)) with k | k | k
        · have d1 := fun ob => up ob (c1 (by omega))
          have q1 : (b1 : Int) < 128 := by omega
          clear c1 c2
          have hz2 : z = true := by rw [hzz]; simp; try omega
          subst hz2
          clear hzz
          go_enter Tryz.func82, Tryz.ntmps82
          go_wp2
          go_quiet (fail)
          go_wp2
          go_ret
          exact ⟨rfl, ((Fr.refl _ _).alloc _).drewN _⟩
        · have d1 := fun ob => up ob (c1 (by omega))
          have q1 : ¬ (b1 : Int) < 128 := by omega
          have q2 : (191 : Int) < (b1 : Int) := by omega
          clear c1 c2
          have hz2 : z = true := by rw [hzz]; simp; try omega
          subst hz2
          clear hzz
          go_enter Tryz.func82, Tryz.ntmps82
          go_wp2
          go_quiet (fail)
          go_wp2
          go_ret
          exact ⟨rfl, ((Fr.refl _ _).alloc _).drewN _⟩
        · have d1 := fun ob => up ob (c1 (by omega))
          have q1 : ¬ (b1 : Int) < 128 := by omega
          have q2 : ¬ (191 : Int) < (b1 : Int) := by omega
          clear c1 c2
          have hz2 : z = false := by rw [hzz]; simp; try omega
          subst hz2
          clear hzz
          go_enter Tryz.func82, Tryz.ntmps82
          go_wp2
          go_quiet (fail)
          go_wp2
          go_ret
          exact ⟨rfl, ((Fr.refl _ _).alloc _).drewN _⟩
    · rcases (by omega : 3 ≤ n ∨ n = 1 ∨ n = 2) with k | rfl | rfl
      · have hz2 : z = true := by rw [hzz]; simp; omega
        subst hz2
        have i1 : (3 : Int) ≤ (n : Int) := by omega
        clear hzz
        go_enter Tryz.func82, Tryz.ntmps82
        go_wp2
        go_ret
        exact ⟨rfl, Fr.refl _ _⟩
      · have hz2 : z = false := by rw [hzz]; simp; try omega
        subst hz2
        clear hzz
        go_enter Tryz.func82, Tryz.ntmps82
        go_wp2
        go_quiet (fail)
        go_wp2
        go_ret
        exact ⟨rfl, ((Fr.refl _ _).alloc _).drewN _⟩
      · rcases (by omega : b1 < 128 ∨ 159 < b1 ∧ 128 ≤ b1 ∨ (128 ≤ b1 ∧ b1 ≤ 159)) with k | k | k
        · have d1 := fun ob => up ob (c1 (by omega))
          have q1 : (b1 : Int) < 128 := by omega
          clear c1 c2
          have hz2 : z = true := by rw [hzz]; simp; try omega
          subst hz2
          clear hzz
          go_enter Tryz.func82, Tryz.ntmps82
          go_wp2
          go_quiet (fail)
          go_wp2
          go_ret
          exact ⟨rfl, ((Fr.refl _ _).alloc _).drewN _⟩
        · have d1 := fun ob => up ob (c1 (by omega))
          have q1 : ¬ (b1 : Int) < 128 := by omega
          have q2 : (159 : Int) < (b1 : Int) := by omega
          clear c1 c2
          have hz2 : z = true := by rw [hzz]; simp; try omega
          subst hz2
          clear hzz
          go_enter Tryz.func82, Tryz.ntmps82
          go_wp2
          go_quiet (fail)
          go_wp2
          go_ret
          exact ⟨rfl, ((Fr.refl _ _).alloc _).drewN _⟩
        · have d1 := fun ob => up ob (c1 (by omega))
          have q1 : ¬ (b1 : Int) < 128 := by omega
          have q2 : ¬ (159 : Int) < (b1 : Int) := by omega
          clear c1 c2
          have hz2 : z = false := by rw [hzz]; simp; try omega
          subst hz2
          clear hzz
          go_enter Tryz.func82, Tryz.ntmps82
          go_wp2
          go_quiet (fail)
          go_wp2
          go_ret
          exact ⟨rfl, ((Fr.refl _ _).alloc _).drewN _⟩
    · rcases (by omega : 4 ≤ n ∨ n = 1 ∨ n = 2 ∨ n = 3) with k | rfl | rfl | rfl
      · have hz2 : z = true := by rw [hzz]; simp; omega
        subst hz2
        have i1 : (4 : Int) ≤ (n : Int) := by omega
        clear hzz
        go_enter Tryz.func82, Tryz.ntmps82
        go_wp2
        go_ret
        exact ⟨rfl, Fr.refl _ _⟩
      · have hz2 : z = false := by rw [hzz]; simp; try omega
        subst hz2
        clear hzz
        go_enter Tryz.func82, Tryz.ntmps82
        go_wp2
        go_quiet (fail)
        go_wp2
        go_ret
        exact ⟨rfl, ((Fr.refl _ _).alloc _).drewN _⟩
      · rcases (by omega : b1 < 144 ∨ 191 < b1 ∧ 144 ≤ b1 ∨ (144 ≤ b1 ∧ b1 ≤ 191)) with k | k | k
        · have d1 := fun ob => up ob (c1 (by omega))
          have q1 : (b1 : Int) < 144 := by omega
          clear c1 c2
          have hz2 : z = true := by rw [hzz]; simp; try omega
          subst hz2
          clear hzz
          go_enter Tryz.func82, Tryz.ntmps82
          go_wp2
          go_quiet (fail)
          go_wp2
          go_ret
          exact ⟨rfl, ((Fr.refl _ _).alloc _).drewN _⟩
        · have d1 := fun ob => up ob (c1 (by omega))
          have q1 : ¬ (b1 : Int) < 144 := by omega
          have q2 : (191 : Int) < (b1 : Int) := by omega
          clear c1 c2
          have hz2 : z = true := by rw [hzz]; simp; try omega
          subst hz2
          clear hzz
          go_enter Tryz.func82, Tryz.ntmps82
          go_wp2
          go_quiet (fail)
          go_wp2
          go_ret
          exact ⟨rfl, ((Fr.refl _ _).alloc _).drewN _⟩
        · have d1 := fun ob => up ob (c1 (by omega))
          have q1 : ¬ (b1 : Int) < 144 := by omega
          have q2 : ¬ (191 : Int) < (b1 : Int) := by omega
          clear c1 c2
          have hz2 : z = false := by rw [hzz]; simp; try omega
          subst hz2
          clear hzz
          go_enter Tryz.func82, Tryz.ntmps82
          go_wp2
          go_quiet (fail)
          go_wp2
          go_ret
          exact ⟨rfl, ((Fr.refl _ _).alloc _).drewN _⟩
      · have d1 := fun ob => up ob (c1 (by omega))
        have d2 := fun ob => up ob (c2 (by omega))
        clear c1 c2
        rcases (by omega : b1 < 144 ∨ 191 < b1 ∧ 144 ≤ b1 ∨ (144 ≤ b1 ∧ b1 ≤ 191)) with k | k | k
        · have q1 : (b1 : Int) < 144 := by omega
          have hz2 : z = true := by rw [hzz]; simp; try omega
          subst hz2
          clear hzz
          go_enter Tryz.func82, Tryz.ntmps82
          go_wp2
          go_quiet (fail)
          go_wp2
          go_ret
          exact ⟨rfl, ((Fr.refl _ _).alloc _).drewN _⟩
        · have q1 : ¬ (b1 : Int) < 144 := by omega
          have q2 : (191 : Int) < (b1 : Int) := by omega
          have hz2 : z = true := by rw [hzz]; simp; try omega
          subst hz2
          clear hzz
          go_enter Tryz.func82, Tryz.ntmps82
          go_wp2
          go_quiet (fail)
          go_wp2
          go_ret
          exact ⟨rfl, ((Fr.refl _ _).alloc _).drewN _⟩
        · have q1 : ¬ (b1 : Int) < 144 := by omega
          have q2 : ¬ (191 : Int) < (b1 : Int) := by omega
          rcases (by omega : b2 < 128 ∨ 191 < b2 ∧ 128 ≤ b2 ∨ (128 ≤ b2 ∧ b2 ≤ 191)) with m | m | m
          · have q3 : (b2 : Int) < 128 := by omega
            have hz2 : z = true := by rw [hzz]; simp; try omega
            subst hz2
            clear hzz
            go_enter Tryz.func82, Tryz.ntmps82
            go_wp2
            go_quiet (fail)
            go_wp2
            go_ret
            exact ⟨rfl, ((Fr.refl _ _).alloc _).drewN _⟩
          · have q3 : ¬ (b2 : Int) < 128 := by omega
            have q4 : (191 : Int) < (b2 : Int) := by omega
            have hz2 : z = true := by rw [hzz]; simp; try omega
            subst hz2
            clear hzz
            go_enter Tryz.func82, Tryz.ntmps82
            go_wp2
            go_quiet (fail)
            go_wp2
            go_ret
            exact ⟨rfl, ((Fr.refl _ _).alloc _).drewN _⟩
          · have q3 : ¬ (b2 : Int) < 128 := by omega
            have q4 : ¬ (191 : Int) < (b2 : Int) := by omega
            have hz2 : z = false := by rw [hzz]; simp; try omega
            subst hz2
            clear hzz
            go_enter Tryz.func82, Tryz.ntmps82
            go_wp2
            go_quiet (fail)
            go_wp2
            go_ret
            exact ⟨rfl, ((Fr.refl _ _).alloc _).drewN _⟩
    · rcases (by omega : 4 ≤ n ∨ n = 1 ∨ n = 2 ∨ n = 3) with k | rfl | rfl | rfl
      · have hz2 : z = true := by rw [hzz]; simp; omega
        subst hz2
        have i1 : (4 : Int) ≤ (n : Int) := by omega
        clear hzz
        go_enter Tryz.func82, Tryz.ntmps82
        go_wp2
        go_ret
        exact ⟨rfl, Fr.refl _ _⟩
      · have hz2 : z = false := by rw [hzz]; simp; try omega
        subst hz2
        clear hzz
        go_enter Tryz.func82, Tryz.ntmps82
        go_wp2
        go_quiet (fail)
        go_wp2
        go_ret
        exact ⟨rfl, ((Fr.refl _ _).alloc _).drewN _⟩
      · rcases (by omega : b1 < 128 ∨ 191 < b1 ∧ 128 ≤ b1 ∨ (128 ≤ b1 ∧ b1 ≤ 191)) with k | k | k
        · have d1 := fun ob => up ob (c1 (by omega))
          have q1 : (b1 : Int) < 128 := by omega
          clear c1 c2
          have hz2 : z = true := by rw [hzz]; simp; try omega
          subst hz2
          clear hzz
          go_enter Tryz.func82, Tryz.ntmps82
          go_wp2
          go_quiet (fail)
          go_wp2
          go_ret
          exact ⟨rfl, ((Fr.refl _ _).alloc _).drewN _⟩
        · have d1 := fun ob => up ob (c1 (by omega))
          have q1 : ¬ (b1 : Int) < 128 := by omega
          have q2 : (191 : Int) < (b1 : Int) := by omega
          clear c1 c2
          have hz2 : z = true := by rw [hzz]; simp; try omega
          subst hz2
          clear hzz
          go_enter Tryz.func82, Tryz.ntmps82
          go_wp2
          go_quiet (fail)
          go_wp2
          go_ret
          exact ⟨rfl, ((Fr.refl _ _).alloc _).drewN _⟩
        · have d1 := fun ob => up ob (c1 (by omega))
          have q1 : ¬ (b1 : Int) < 128 := by omega
          have q2 : ¬ (191 : Int) < (b1 : Int) := by omega
          clear c1 c2
          have hz2 : z = false := by rw [hzz]; simp; try omega
          subst hz2
          clear hzz
          go_enter Tryz.func82, Tryz.ntmps82
          go_wp2
          go_quiet (fail)
          go_wp2
          go_ret
          exact ⟨rfl, ((Fr.refl _ _).alloc _).drewN _⟩
      · have d1 := fun ob => up ob (c1 (by omega))
        have d2 := fun ob => up ob (c2 (by omega))
        clear c1 c2
        rcases (by omega : b1 < 128 ∨ 191 < b1 ∧ 128 ≤ b1 ∨ (128 ≤ b1 ∧ b1 ≤ 191)) with k | k | k
        · have q1 : (b1 : Int) < 128 := by omega
          have hz2 : z = true := by rw [hzz]; simp; try omega
          subst hz2
          clear hzz
          go_enter Tryz.func82, Tryz.ntmps82
          go_wp2
          go_quiet (fail)
          go_wp2
          go_ret
          exact ⟨rfl, ((Fr.refl _ _).alloc _).drewN _⟩
        · have q1 : ¬ (b1 : Int) < 128 := by omega
          have q2 : (191 : Int) < (b1 : Int) := by omega
          have hz2 : z = true := by rw [hzz]; simp; try omega
          subst hz2
          clear hzz
          go_enter Tryz.func82, Tryz.ntmps82
          go_wp2
          go_quiet (fail)
          go_wp2
          go_ret
          exact ⟨rfl, ((Fr.refl _ _).alloc _).drewN _⟩
        · have q1 : ¬ (b1 : Int) < 128 := by omega
          have q2 : ¬ (191 : Int) < (b1 : Int) := by omega
          rcases (by omega : b2 < 128 ∨ 191 < b2 ∧ 128 ≤ b2 ∨ (128 ≤ b2 ∧ b2 ≤ 191)) with m | m | m
          · have q3 : (b2 : Int) < 128 := by omega
            have hz2 : z = true := by rw [hzz]; simp; try omega
            subst hz2
            clear hzz
            go_enter Tryz.func82, Tryz.ntmps82
            go_wp2
            go_quiet (fail)
            go_wp2
            go_ret
            exact ⟨rfl, ((Fr.refl _ _).alloc _).drewN _⟩
          · have q3 : ¬ (b2 : Int) < 128 := by omega
            have q4 : (191 : Int) < (b2 : Int) := by omega
            have hz2 : z = true := by rw [hzz]; simp; try omega
            subst hz2
            clear hzz
            go_enter Tryz.func82, Tryz.ntmps82
            go_wp2
            go_quiet (fail)
            go_wp2
            go_ret
            exact ⟨rfl, ((Fr.refl _ _).alloc _).drewN _⟩
          · have q3 : ¬ (b2 : Int) < 128 := by omega
            have q4 : ¬ (191 : Int) < (b2 : Int) := by omega
            have hz2 : z = false := by rw [hzz]; simp; try omega
            subst hz2
            clear hzz
            go_enter Tryz.func82, Tryz.ntmps82
            go_wp2
            go_quiet (fail)
            go_wp2
            go_ret
            exact ⟨rfl, ((Fr.refl _ _).alloc _).drewN _⟩
    · rcases (by omega : 4 ≤ n ∨ n = 1 ∨ n = 2 ∨ n = 3) with k | rfl | rfl | rfl
      · have hz2 : z = true := by rw [hzz]; simp; omega
        subst hz2
        have i1 : (4 : Int) ≤ (n : Int) := by omega
        clear hzz
        go_enter Tryz.func82, Tryz.ntmps82
        go_wp2
        go_ret
        exact ⟨rfl, Fr.refl _ _⟩
      · have hz2 : z = false := by rw [hzz]; simp; try omega
        subst hz2
        clear hzz
        go_enter Tryz.func82, Tryz.ntmps82
        go_wp2
        go_quiet (fail)
        go_wp2
        go_ret
        exact ⟨rfl, ((Fr.refl _ _).alloc _).drewN _⟩
      · rcases (by omega : b1 < 128 ∨ 143 < b1 ∧ 128 ≤ b1 ∨ (128 ≤ b1 ∧ b1 ≤ 143)) with k | k | k
        · have d1 := fun ob => up ob (c1 (by omega))
          have q1 : (b1 : Int) < 128 := by omega
          clear c1 c2
          have hz2 : z = true := by rw [hzz]; simp; try omega
          subst hz2
          clear hzz
          go_enter Tryz.func82, Tryz.ntmps82
          go_wp2
          go_quiet (fail)
          go_wp2
          go_ret
          exact ⟨rfl, ((Fr.refl _ _).alloc _).drewN _⟩
        · have d1 := fun ob => up ob (c1 (by omega))
          have q1 : ¬ (b1 : Int) < 128 := by omega
          have q2 : (143 : Int) < (b1 : Int) := by omega
          clear c1 c2
          have hz2 : z = true := by rw [hzz]; simp; try omega
          subst hz2
          clear hzz
          go_enter Tryz.func82, Tryz.ntmps82
          go_wp2
          go_quiet (fail)
          go_wp2
          go_ret
          exact ⟨rfl, ((Fr.refl _ _).alloc _).drewN _⟩
        · have d1 := fun ob => up ob (c1 (by omega))
          have q1 : ¬ (b1 : Int) < 128 := by omega
          have q2 : ¬ (143 : Int) < (b1 : Int) := by omega
          clear c1 c2
          have hz2 : z = false := by rw [hzz]; simp; try omega
          subst hz2
          clear hzz
          go_enter Tryz.func82, Tryz.ntmps82
          go_wp2
          go_quiet (fail)
          go_wp2
          go_ret
          exact ⟨rfl, ((Fr.refl _ _).alloc _).drewN _⟩
      · have d1 := fun ob => up ob (c1 (by omega))
        have d2 := fun ob => up ob (c2 (by omega))
        clear c1 c2
        rcases (by omega : b1 < 128 ∨ 143 < b1 ∧ 128 ≤ b1 ∨ (128 ≤ b1 ∧ b1 ≤ 143)) with k | k | k
        · have q1 : (b1 : Int) < 128 := by omega
          have hz2 : z = true := by rw [hzz]; simp; try omega
          subst hz2
          clear hzz
          go_enter Tryz.func82, Tryz.ntmps82
          go_wp2
          go_quiet (fail)
          go_wp2
          go_ret
          exact ⟨rfl, ((Fr.refl _ _).alloc _).drewN _⟩
        · have q1 : ¬ (b1 : Int) < 128 := by omega
          have q2 : (143 : Int) < (b1 : Int) := by omega
          have hz2 : z = true := by rw [hzz]; simp; try omega
          subst hz2
          clear hzz
          go_enter Tryz.func82, Tryz.ntmps82
          go_wp2
          go_quiet (fail)
          go_wp2
          go_ret
          exact ⟨rfl, ((Fr.refl _ _).alloc _).drewN _⟩
        · have q1 : ¬ (b1 : Int) < 128 := by omega
          have q2 : ¬ (143 : Int) < (b1 : Int) := by omega
          rcases (by omega : b2 < 128 ∨ 191 < b2 ∧ 128 ≤ b2 ∨ (128 ≤ b2 ∧ b2 ≤ 191)) with m | m | m
          · have q3 : (b2 : Int) < 128 := by omega
            have hz2 : z = true := by rw [hzz]; simp; try omega
            subst hz2
            clear hzz
            go_enter Tryz.func82, Tryz.ntmps82
            go_wp2
            go_quiet (fail)
            go_wp2
            go_ret
            exact ⟨rfl, ((Fr.refl _ _).alloc _).drewN _⟩
          · have q3 : ¬ (b2 : Int) < 128 := by omega
            have q4 : (191 : Int) < (b2 : Int) := by omega
            have hz2 : z = true := by rw [hzz]; simp; try omega
            subst hz2
            clear hzz
            go_enter Tryz.func82, Tryz.ntmps82
            go_wp2
            go_quiet (fail)
            go_wp2
            go_ret
            exact ⟨rfl, ((Fr.refl _ _).alloc _).drewN _⟩
          · have q3 : ¬ (b2 : Int) < 128 := by omega
            have q4 : ¬ (191 : Int) < (b2 : Int) := by omega
            have hz2 : z = false := by rw [hzz]; simp; try omega
            subst hz2
            clear hzz
            go_enter Tryz.func82, Tryz.ntmps82
            go_wp2
            go_quiet (fail)
            go_wp2
            go_ret
            exact ⟨rfl, ((Fr.refl _ _).alloc _).drewN _⟩

set_option maxRecDepth 100000 in
theorem full_none (a : Option Addr) (c : Nat) (w : World) : Calls Tryz.prog 82 #[.slice a 0 c] w fun e w' => e = .returned (.bool false) ∧ Fr (fun _ => False) w w' := by
  go_enter Tryz.func82, Tryz.ntmps82
  go_wp2
  go_ret
  exact ⟨rfl, Fr.refl _ _⟩

theorem l8_at {l : List UInt8} {j : Nat} (h : j < l.length) : ((l8 l)[j]?.getD 0) = ((l.getD j 0).toNat : Int) := by
  unfold l8
  rw [List.getElem?_map, List.getD_eq_getElem?_getD, List.getElem?_eq_getElem h]
  rfl

/-- FullRune of what a slice shows. -/
theorem full_calls {w : World} {v : Value} {g : Option Nat} {l : List UInt8} (hT : Lib.Utf8Tabs 0 1 w) (h : Shows w .u8 v g (l8 l)) :
    Calls Tryz.prog 82 #[v] w fun e w' => e = .returned (.bool (fullL l)) ∧ Fr (fun _ => False) w w' := by
  by_cases hl : l = []
  · subst hl
    have e : fullL [] = false := rfl
    rw [e]
    rcases h with ⟨_, rfl | ⟨a, c, rfl⟩⟩ | ⟨x, o, c, cur, t, _, rfl, _, _⟩
    · exact full_none _ _ w
    · exact full_none _ _ w
    · exact full_none _ _ w
  · have hp : 0 < l.length := List.length_pos_iff.2 hl
    rcases h with ⟨h, _⟩ | ⟨x, o, c, cur, t, _, rfl, hx, hc⟩
    · have := congrArg List.length h
      rw [l8_length, List.length_nil] at this
      omega
    · rw [full_by hl]
      rw [l8_length] at hc ⊢
      have cell : ∀ j, j < l.length → w.cell? ⟨x, o + j, none⟩ = some (.int .u8 ((l.getD j 0).toNat : Int)) := fun j hj => cell_of hx (by rw [hc j hj, l8_at hj])
      exact full_some l.length x o c _ _ _ w hT hp (l.getD 0 0).toNat_lt (cell 0 hp) (fun h => cell 1 h) (fun h => cell 2 h)

/-- DecodeRune of what a slice shows. -/
theorem dec_calls {w : World} {v : Value} {g : Option Nat} {l : List UInt8} (hT : Lib.Utf8Tabs 0 1 w) (h : Shows w .u8 v g (l8 l)) (hl : l ≠ []) :
    Calls Tryz.prog 108 #[v] w fun e w' => e = .returned (.tuple #[.int .i32 (Lib.decodeL l).1, .int .i64 (Lib.decodeL l).2]) ∧ Fr (fun _ => False) w w' := by
  have hp : 0 < l.length := List.length_pos_iff.2 hl
  rcases h with ⟨h, _⟩ | ⟨x, o, c, cur, t, _, rfl, hx, hc⟩
  · have := congrArg List.length h
    rw [l8_length, List.length_nil] at this
    omega
  · rw [l8_length] at hc ⊢
    have hsz : (⟨l.toArray⟩ : ByteArray).size = l.length := by rw [Lib.size_eq]
    have hcell : ∀ j, j < (⟨l.toArray⟩ : ByteArray).size → w.cell? ⟨x, o + j, none⟩ = some (.int .u8 ((⟨l.toArray⟩ : ByteArray).get! j).toNat) := fun j hj => by
      rw [hsz] at hj
      refine cell_of hx ?_
      rw [hc j hj, l8_at hj]
      congr 4
      show l.getD j 0 = l.toArray[j]!
      rw [List.getD_eq_getElem?_getD, getElem!_def]
      simp [hj]
    have := Any7.utf8_DecodeRune Tryz.lays32 ⟨l.toArray⟩ x o c w hT hcell
    rw [hsz] at this
    refine this.mono ?_
    rintro e w' ⟨rfl, hb⟩
    have hd : Lib.decodeGo ⟨l.toArray⟩ = Lib.decodeL l := by
      unfold Lib.decodeGo Lib.decodeL
      rw [if_neg (by rw [hsz]; omega)]
    rw [hd]
    exact ⟨rfl, Fr.of_below hb _⟩

end Go.Proofs.YtmhaknejeobfgaaGreatDoor
