/- The document's answer: wanted, tail, may, at, walked. The document's answer: the code point at a place. The document's answer: the code points of a text, and where they begin. -/
import Derived.Test.YtmhaknejeobfgaaGreatDoorChSure
import Derived.Test.YtmhaknejeobfgaaGreatDoorQueues
import Derived.Deep.CutBlock
import Derived.Deep.DeepCutAuto

/- Ref1. -/
namespace Go.Proofs.YtmhaknejeobfgaaGreatDoor
open Go.RowKit Go.Proofs.YtmhaknejeobfgaaGreatDoor.Stable Go.Proofs.YtmhaknejeobfgaaGreatDoor.Order Go.Proofs.YtmhaknejeobfgaaGreatDoor.Points
attribute [local go_sem ↓] Go.wp_at_zero Go.wp_at_succ

set_option maxRecDepth 100000 in
theorem wanted_calls (b : Nat) (w : World) :
    Calls Tryz.prog 90 #[.int .i64 b] w fun e w' => e = .returned (.int .i64 (wantB b)) ∧ w' = w := by
  obtain ⟨z, hz⟩ : ∃ z, z = wantB b := ⟨_, rfl⟩
  rw [← hz]
  have HZ : Hid (z = wantB b) := hz
  clear hz
  go_enter Tryz.func90, Tryz.ntmps90
  by_cases c0 : b < 128
  · have k0 : (b : Int) < 128 := by omega
    have HR : Hid (z = 1) := hid (by rw [HZ.out]; simp [wantB, c0])
    clear c0
    go_wp2
    go_ret
    rw [HR.out]
    exact ⟨rfl, rfl⟩
  have k0 : (128 : Int) ≤ (b : Int) := by omega
  by_cases c1 : b < 194
  · have k1 : (b : Int) < 194 := by omega
    have k2 : (b : Int) < 224 := by omega
    have k3 : (b : Int) < 240 := by omega
    have HR : Hid (z = 0) := hid (by rw [HZ.out]; simp [wantB, c0, c1])
    clear c0 c1
    go_wp2
    go_ret
    rw [HR.out]
    exact ⟨rfl, rfl⟩
  have k1 : (194 : Int) ≤ (b : Int) := by omega
  by_cases c2 : b ≤ 223
  · have k2 : (b : Int) ≤ 223 := by omega
    have HR : Hid (z = 2) := hid (by rw [HZ.out, wantB, if_neg c0, if_neg (by omega), needOf, if_pos (by omega)])
    clear c0 c1 c2
    go_wp2
    go_ret
    rw [HR.out]
    exact ⟨rfl, rfl⟩
  have k2 : (223 : Int) < (b : Int) := by omega
  have k2' : (224 : Int) ≤ (b : Int) := by omega
  by_cases c3 : b ≤ 239
  · have k3 : (b : Int) ≤ 239 := by omega
    have HR : Hid (z = 3) := hid (by rw [HZ.out, wantB, if_neg c0, if_neg (by omega), needOf, if_neg (by omega), if_pos (by omega)])
    clear c0 c1 c2 c3
    go_wp2
    go_ret
    rw [HR.out]
    exact ⟨rfl, rfl⟩
  have k3 : (239 : Int) < (b : Int) := by omega
  have k3' : (240 : Int) ≤ (b : Int) := by omega
  by_cases c4 : b ≤ 244
  · have k4 : (b : Int) ≤ 244 := by omega
    have HR : Hid (z = 4) := hid (by rw [HZ.out, wantB, if_neg c0, if_neg (by omega), needOf, if_neg (by omega), if_neg (by omega)])
    clear c0 c1 c2 c3 c4
    go_wp2
    go_ret
    rw [HR.out]
    exact ⟨rfl, rfl⟩
  have k4 : (244 : Int) < (b : Int) := by omega
  have HR : Hid (z = 0) := hid (by rw [HZ.out, wantB, if_neg c0, if_pos (by omega)])
  clear c0 c1 c2 c3 c4
  go_wp2
  go_ret
  rw [HR.out]
  exact ⟨rfl, rfl⟩

set_option maxRecDepth 100000 in
theorem tail_good (s : ByteArray) (x : Int) (j q : Nat) (w : World) (hx : x = j) (hj : j < s.size) (hb : byt s j = q + 128) (hq : q < 64) :
    Calls Tryz.prog 91 #[.string s, .int .i64 x] w fun e w' => e = .returned (.int .i64 q) ∧ w' = w := by
  have hx0 : ∀ w, (Instr.index 9 (.string s) (.int .i64 x)).run Tryz.prog w = .ok (.int .u8 (q + 128 : Nat)) w := fun w => by rw [← hb]; exact byt_index hx hj w
  have k0 : x < (s.size : Int) := by omega
  have k1 : ((q + 128 : Nat) : Int) ≤ 191 := by omega
  have k2 : (128 : Int) ≤ ((q + 128 : Nat) : Int) := by omega
  have e : ((q + 128 : Nat) : Int) - 128 = (q : Int) := by omega
  clear hx hj hb hq
  generalize ((q + 128 : Nat) : Int) = t at hx0 k1 k2 e
  go_enter Tryz.func91, Tryz.ntmps91
  go_wp2
  go_ret
  first | exact ⟨rfl, rfl⟩ | (rw [← e]; exact ⟨rfl, rfl⟩)

set_option maxRecDepth 100000 in
theorem tail_bad (s : ByteArray) (x : Int) (j b : Nat) (w : World) (hx : x = j) (hj : j < s.size) (hb : byt s j = b) (hq : b < 128 ∨ 191 < b) :
    Calls Tryz.prog 91 #[.string s, .int .i64 x] w fun e w' => e = .returned (.int .i64 (-1)) ∧ w' = w := by
  have hx0 : ∀ w, (Instr.index 9 (.string s) (.int .i64 x)).run Tryz.prog w = .ok (.int .u8 b) w := fun w => by rw [← hb]; exact byt_index hx hj w
  have k0 : x < (s.size : Int) := by omega
  clear hx hj hb
  go_enter Tryz.func91, Tryz.ntmps91
  by_cases c : b < 128
  · have k1 : (b : Int) < 128 := by omega
    clear hq c
    go_wp2
    go_ret
    exact ⟨rfl, rfl⟩
  · have k1 : (128 : Int) ≤ (b : Int) := by omega
    have k2 : (191 : Int) < (b : Int) := by omega
    clear hq c
    go_wp2
    go_ret
    exact ⟨rfl, rfl⟩

set_option maxRecDepth 100000 in
theorem may_calls (c b : Nat) (w : World) :
    Calls Tryz.prog 92 #[.int .i64 c, .int .i64 b] w fun e w' => e = .returned (.bool (mayB c b)) ∧ w' = w := by
  obtain ⟨z, hz⟩ : ∃ z, z = mayB c b := ⟨_, rfl⟩
  rw [← hz]
  have HZ : Hid (z = mayB c b) := hz
  clear hz
  go_enter Tryz.func92, Tryz.ntmps92
  by_cases c1 : c = 224
  · have k1 : ((c : Int) == 224) = true := by simp; omega
    have HR : Hid (z = decide ((32 : Int) ≤ (b : Int))) := hid (by rw [HZ.out, mayB, if_pos c1]; congr 1; simp; omega)
    clear c1
    go_wp2
    go_ret
    rw [HR.out]
    exact ⟨rfl, rfl⟩
  have k1 : ((c : Int) == 224) = false := by rw [beq_eq_false_iff_ne]; omega
  by_cases c2 : c = 237
  · have k2 : ((c : Int) == 237) = true := by simp; omega
    have HR : Hid (z = decide ((b : Int) < 32)) := hid (by rw [HZ.out, mayB, if_neg c1, if_pos c2]; congr 1; simp; omega)
    clear c1 c2
    go_wp2
    go_ret
    rw [HR.out]
    exact ⟨rfl, rfl⟩
  have k2 : ((c : Int) == 237) = false := by rw [beq_eq_false_iff_ne]; omega
  by_cases c3 : c = 240
  · have k3 : ((c : Int) == 240) = true := by simp; omega
    have HR : Hid (z = decide ((16 : Int) ≤ (b : Int))) := hid (by rw [HZ.out, mayB, if_neg c1, if_neg c2, if_pos c3]; congr 1; simp; omega)
    clear c1 c2 c3
    go_wp2
    go_ret
    rw [HR.out]
    exact ⟨rfl, rfl⟩
  have k3 : ((c : Int) == 240) = false := by rw [beq_eq_false_iff_ne]; omega
  by_cases c4 : c = 244
  · have k4 : ((c : Int) == 244) = true := by simp; omega
    have HR : Hid (z = decide ((b : Int) < 16)) := hid (by rw [HZ.out, mayB, if_neg c1, if_neg c2, if_neg c3, if_pos c4]; congr 1; simp; omega)
    clear c1 c2 c3 c4
    go_wp2
    go_ret
    rw [HR.out]
    exact ⟨rfl, rfl⟩
  have k4 : ((c : Int) == 244) = false := by rw [beq_eq_false_iff_ne]; omega
  have HR : Hid (z = true) := hid (by rw [HZ.out, mayB, if_neg c1, if_neg c2, if_neg c3, if_neg c4])
  clear c1 c2 c3 c4
  go_wp2
  go_ret
  rw [HR.out]
  exact ⟨rfl, rfl⟩

end Go.Proofs.YtmhaknejeobfgaaGreatDoor

/- Ref2. -/
namespace Go.Proofs.YtmhaknejeobfgaaGreatDoor
open Go.RowKit Go.Proofs.YtmhaknejeobfgaaGreatDoor.Stable Go.Proofs.YtmhaknejeobfgaaGreatDoor.Order Go.Proofs.YtmhaknejeobfgaaGreatDoor.Points
attribute [local go_sem ↓] Go.wp_at_zero Go.wp_at_succ

/-- What the first byte gives. -/
def startB (b : Nat) : Nat := if needOf b = 2 then b - 192 else if needOf b = 3 then b - 224 else b - 240

/-- Where the loop stands: k bytes are good. -/
structure AtK (r b0 b1 b2 b3 k p : Nat) : Prop where
  one : 1 ≤ k
  four : k ≤ 4
  room : k ≤ r
  g1 : 2 ≤ k → ¬ (b1 < lowOf b0 ∨ topOf b0 < b1)
  g2 : 3 ≤ k → 128 ≤ b2 ∧ b2 ≤ 191
  g3 : 4 ≤ k → 128 ≤ b3 ∧ b3 ≤ 191
  p1 : k = 1 → p = startB b0
  p2 : k = 2 → p = startB b0 * 64 + (b1 - 128)
  p3 : k = 3 → p = (startB b0 * 64 + (b1 - 128)) * 64 + (b2 - 128)
  p4 : k = 4 → p = ((startB b0 * 64 + (b1 - 128)) * 64 + (b2 - 128)) * 64 + (b3 - 128)

theorem AtK.short {r b0 b1 b2 b3 k p : Nat} (h : AtK r b0 b1 b2 b3 k p) (h0 : 194 ≤ b0) (h1 : b0 ≤ 244) (hk : k < needOf b0) (hr : r ≤ k) : atB r b0 b1 b2 b3 = (0, 0) := by
  have hn := need_cases h0 h1
  have := h.one
  have := h.room
  unfold atB
  rw [if_neg (by omega), if_neg (by omega)]
  by_cases k1 : k = 1
  · rw [if_pos (by omega)]
  rw [if_neg (by omega), if_neg (h.g1 (by omega)), if_neg (by omega)]
  by_cases k2 : k = 2
  · rw [if_pos (by omega)]
  have := h.g2 (by omega)
  rw [if_neg (by omega), if_neg (by omega), if_neg (by omega), if_pos (by omega)]

theorem AtK.bad1 {r b0 b1 b2 b3 p : Nat} (_ : AtK r b0 b1 b2 b3 1 p) (h0 : 194 ≤ b0) (h1 : b0 ≤ 244) (hr : 1 < r) (hb : b1 < lowOf b0 ∨ topOf b0 < b1) : atB r b0 b1 b2 b3 = (65533, 1) := by
  unfold atB
  rw [if_neg (by omega), if_neg (by omega), if_neg (by omega), if_pos hb]

theorem AtK.bad {r b0 b1 b2 b3 k p b : Nat} (h : AtK r b0 b1 b2 b3 k p) (h0 : 194 ≤ b0) (h1 : b0 ≤ 244) (hk : k < needOf b0) (h2 : 2 ≤ k) (hr : k < r) (hb2 : k = 2 → b = b2) (hb3 : k = 3 → b = b3) (hb : b < 128 ∨ 191 < b) : atB r b0 b1 b2 b3 = (65533, 1) := by
  have hn := need_cases h0 h1
  unfold atB
  rw [if_neg (by omega), if_neg (by omega), if_neg (by omega), if_neg (h.g1 h2), if_neg (by omega), if_neg (by omega)]
  by_cases k2 : k = 2
  · have := hb2 k2
    rw [if_pos (by omega)]
  have := h.g2 (by omega)
  have := hb3 (by omega)
  rw [if_neg (by omega), if_neg (by omega), if_neg (by omega), if_pos (by omega)]

theorem AtK.full {r b0 b1 b2 b3 k p : Nat} (h : AtK r b0 b1 b2 b3 k p) (h0 : 194 ≤ b0) (h1 : b0 ≤ 244) (hk : k = needOf b0) : atB r b0 b1 b2 b3 = (p, k) := by
  have hn := need_cases h0 h1
  have := h.room
  unfold atB
  rw [if_neg (by omega), if_neg (by omega), if_neg (by omega), if_neg (h.g1 (by omega))]
  rcases hn with ⟨n2, m1⟩ | ⟨n3, m1, m2⟩ | ⟨n4, m1⟩
  · have e := h.p2 (by omega)
    rw [startB, if_pos n2] at e
    rw [if_pos n2, hk, n2, ← e]
  · have e := h.p3 (by omega)
    have := h.g2 (by omega)
    rw [startB, if_neg (by omega), if_pos n3] at e
    rw [n3, if_neg (by omega), if_neg (by omega), if_neg (by omega), if_pos rfl, hk, n3, ← e]
  · have e := h.p4 (by omega)
    have := h.g2 (by omega)
    have := h.g3 (by omega)
    rw [startB, if_neg (by omega), if_neg (by omega)] at e
    rw [n4, if_neg (by omega), if_neg (by omega), if_neg (by omega), if_neg (by omega), if_neg (by omega), if_neg (by omega), hk, n4, ← e]

theorem AtK.next {r b0 b1 b2 b3 k p b q : Nat} (h : AtK r b0 b1 b2 b3 k p) (hk : k < 4) (hr : k < r) (hb : b = q + 128) (hq : q < 64) (e1 : k = 1 → b = b1 ∧ ¬ (b1 < lowOf b0 ∨ topOf b0 < b1)) (e2 : k = 2 → b = b2) (e3 : k = 3 → b = b3) : AtK r b0 b1 b2 b3 (k + 1) (p * 64 + q) := by
  have h1 := h.one
  refine ⟨by omega, by omega, by omega, fun h2 => ?_, fun h2 => ?_, fun h2 => ?_, fun h2 => by omega, fun h2 => ?_, fun h2 => ?_, fun h2 => ?_⟩
  · by_cases c : k = 1
    · exact (e1 c).2
    · exact h.g1 (by omega)
  · by_cases c : k = 2
    · have := e2 c; omega
    · exact h.g2 (by omega)
  · have := e3 (by omega); omega
  · have := e1 (by omega)
    rw [h.p1 (by omega), show q = b1 - 128 by omega]
  · have := e2 (by omega)
    rw [h.p2 (by omega), show q = b2 - 128 by omega]
  · have := e3 (by omega)
    rw [h.p3 (by omega), show q = b3 - 128 by omega]

theorem AtK.small {r b0 b1 b2 b3 k p : Nat} (h : AtK r b0 b1 b2 b3 k p) (h1 : b1 ≤ 255) (h2 : b2 ≤ 255) (h3 : b3 ≤ 255) (h0 : b0 ≤ 255) : p ≤ 1099511627776 := by
  have hs : startB b0 ≤ 255 := by
    unfold startB
    split
    · omega
    · split <;> omega
  have h4 := h.four
  have h5 := h.one
  have : k = 1 ∨ k = 2 ∨ k = 3 ∨ k = 4 := by omega
  rcases this with k | k | k | k
  · have := h.p1 k; omega
  · have := h.p2 k; omega
  · have := h.p3 k; omega
  · have := h.p4 k; omega

set_option maxRecDepth 100000 in
set_option maxHeartbeats 1600000 in
theorem at_calls (s : ByteArray) (i : Nat) (w : World) (hi : i < s.size) (hs : s.size ≤ 1099511627776) :
    Calls Tryz.prog 66 #[.string s, .int .i64 i] w fun e w' => e = .returned (.tuple #[.int .i64 ((atB (s.size - i) (byt s i) (byt s (i + 1)) (byt s (i + 2)) (byt s (i + 3))).1 : Nat), .int .i64 ((atB (s.size - i) (byt s i) (byt s (i + 1)) (byt s (i + 2)) (byt s (i + 3))).2 : Nat)]) ∧ w' = w := by
  have i0 : (0 : Int) ≤ (i : Int) := by omega
  have i1 : (i : Int) < (s.size : Int) := by omega
  have s1 : (s.size : Int) ≤ 1099511627776 := by omega
  obtain ⟨b0, hb⟩ : ∃ b0, b0 = byt s i := ⟨_, rfl⟩
  have hx0 : ∀ w, (Instr.index 9 (.string s) (.int .i64 i)).run Tryz.prog w = .ok (.int .u8 b0) w := fun w => by rw [hb]; exact byt_index rfl hi w
  obtain ⟨z, hz⟩ : ∃ z, z = atB (s.size - i) (byt s i) (byt s (i + 1)) (byt s (i + 2)) (byt s (i + 3)) := ⟨_, rfl⟩
  rw [← hz]
  have hb255 := byt_le s i
  rw [← hb] at hz hb255
  have HZ : Hid (z = atB (s.size - i) b0 (byt s (i + 1)) (byt s (i + 2)) (byt s (i + 3)) ∧ i < s.size) := ⟨hz, hi⟩
  obtain ⟨n, hn⟩ : ∃ n, n = wantB b0 := ⟨_, rfl⟩
  clear hb hz hi hs
  go_enter Tryz.func66, Tryz.ntmps66
  by_cases c0 : b0 < 128
  · have HN : Hid (wantB b0 = 1) := hid (by rw [wantB, if_pos c0])
    have HR : Hid (z = (b0, 1)) := hid (by rw [HZ.out.1, atB, if_pos c0])
    clear c0 hn
    go_wp2_with (go_at_call 90; refine (wanted_calls b0 _).mono ?_; rw [HN.out]; rintro e w' ⟨rfl, hw⟩; have hw' := hw.symm; subst hw'; clear hw)
    go_ret2
    rw [HR.out]
    exact ⟨rfl, rfl⟩
  have hw : (n = 0 ∧ (b0 < 194 ∨ 244 < b0)) ∨ (194 ≤ b0 ∧ b0 ≤ 244 ∧ n = needOf b0) := by
    rw [hn, wantB, if_neg c0]
    by_cases c1 : b0 < 194 ∨ 244 < b0
    · rw [if_pos c1]; exact .inl ⟨rfl, c1⟩
    · rw [if_neg c1]; exact .inr ⟨by omega, by omega, rfl⟩
  have hn4 : n = 0 ∨ (2 ≤ n ∧ n ≤ 4) := by
    rcases hw with h | ⟨h0, h1, h2⟩
    · exact .inl h.1
    · have := need_cases h0 h1; omega
  have n1 : ((n : Int) == 1) = false := by rw [beq_eq_false_iff_ne]; omega
  have nlo : (0 : Int) ≤ (n : Int) := by omega
  have nhi : (n : Int) ≤ 4 := by omega
  have HN : Hid (wantB b0 = n) := hn.symm
  have HW : Hid (((n = 0 ∧ (b0 < 194 ∨ 244 < b0)) ∨ (194 ≤ b0 ∧ b0 ≤ 244 ∧ n = needOf b0)) ∧ (n = 0 ∨ (2 ≤ n ∧ n ≤ 4)) ∧ 128 ≤ b0) := ⟨hw, hn4, by omega⟩
  have k0 : (128 : Int) ≤ (b0 : Int) := by omega
  have kb : (b0 : Int) ≤ 255 := by omega
  clear hw hn4 c0 hn
  go_upto_block 0 with (go_at_call 90; refine (wanted_calls b0 _).mono ?_; rw [HN.out]; rintro e w' ⟨rfl, hw⟩; have hw' := hw.symm; subst hw'; clear hw)
  go_cut [8] (fun v8 wc => ∃ p : Nat, v8 = .int .i64 p ∧ wc = w ∧ p ≤ 255 ∧ Hid (2 ≤ n → p = startB b0))
  case first =>
    by_cases c2 : n = 2
    · subst c2
      have HR : Hid (194 ≤ b0 ∧ b0 - 192 = startB b0) := hid (by
        have h := HW.out
        have h1 : 194 ≤ b0 := by omega
        refine ⟨h1, ?_⟩
        rw [startB, if_pos (by omega)])
      go_wp2
      go_meet
      case rel =>
        have h := HR.out
        exact ⟨b0 - 192, by congr 1; omega, rfl, by omega, hid (fun _ => h.2)⟩
    have m2 : ((n : Int) == 2) = false := by rw [beq_eq_false_iff_ne]; omega
    by_cases c3 : n = 3
    · subst c3
      have HR : Hid (224 ≤ b0 ∧ b0 - 224 = startB b0) := hid (by
        have h := HW.out
        have h1 := need_cases (b := b0) (by omega) (by omega)
        refine ⟨by omega, ?_⟩
        rw [startB, if_neg (by omega), if_pos (by omega)])
      clear c2
      go_wp2
      go_meet
      case rel =>
        have h := HR.out
        exact ⟨b0 - 224, by congr 1; omega, rfl, by omega, hid (fun _ => h.2)⟩
    have m3 : ((n : Int) == 3) = false := by rw [beq_eq_false_iff_ne]; omega
    by_cases c4 : n = 4
    · subst c4
      have HR : Hid (240 ≤ b0 ∧ b0 - 240 = startB b0) := hid (by
        have h := HW.out
        have h1 := need_cases (b := b0) (by omega) (by omega)
        refine ⟨by omega, ?_⟩
        rw [startB, if_neg (by omega), if_neg (by omega)])
      clear c2 c3
      go_wp2
      go_meet
      case rel =>
        have h := HR.out
        exact ⟨b0 - 240, by congr 1; omega, rfl, by omega, hid (fun _ => h.2)⟩
    have m4 : ((n : Int) == 4) = false := by rw [beq_eq_false_iff_ne]; omega
    have HR : Hid (n = 0) := hid (by have h := HW.out; omega)
    clear c2 c3 c4
    go_wp2
    go_meet
    case rel => exact ⟨b0, rfl, rfl, by omega, hid (fun h => by have := HR.out; omega)⟩
  case rest =>
    obtain ⟨p, rfl, rfl, hp, HP⟩ := hcut
    go_wp2
    go_loopw [8, 9] (fun v8 v9 wr => ∃ p k : Nat, v8 = .int .i64 p ∧ v9 = .int .i64 k ∧ wr = wc ∧ 1 ≤ k ∧ k ≤ 4 ∧ p ≤ 1099511627776 ∧ Hid ((n = 0 ∧ k = 1) ∨ (k ≤ n ∧ AtK (s.size - i) b0 (byt s (i + 1)) (byt s (i + 2)) (byt s (i + 3)) k p))) (fun _ v9 _ => 5 - (intOf v9).toNat)
    case atStart =>
      refine ⟨p, 1, rfl, rfl, rfl, by omega, by omega, by omega, hid ?_⟩
      have h := HW.out
      by_cases c : n = 0
      · exact .inl ⟨c, rfl⟩
      · have := HZ.out.2
        exact .inr ⟨by omega, ⟨by omega, by omega, by omega, fun h => by omega, fun h => by omega, fun h => by omega, fun _ => HP.out (by omega), fun h => by omega, fun h => by omega, fun h => by omega⟩⟩
    case round =>
      obtain ⟨p, k, rfl, rfl, rfl, q1, q4, hp2, HK⟩ := hrel
      have j0 : (0 : Int) ≤ (k : Int) := by omega
      have j4 : (k : Int) ≤ 4 := by omega
      have p0 : (0 : Int) ≤ (p : Int) := by omega
      have p1 : (p : Int) ≤ 1099511627776 := by omega
      clear hp HP
      by_cases hlt : k < n
      · have HA : Hid (AtK (s.size - i) b0 (byt s (i + 1)) (byt s (i + 2)) (byt s (i + 3)) k p ∧ 194 ≤ b0 ∧ b0 ≤ 244 ∧ n = needOf b0 ∧ k < n) := hid (by
          have h := HW.out
          rcases HK.out with h1 | ⟨_, h1⟩
          · omega
          · exact ⟨h1, by omega, by omega, by omega, hlt⟩)
        have j1 : (k : Int) < (n : Int) := by omega
        clear hlt HK
        by_cases hr : i + k < s.size
        · have r1 : (i : Int) + (k : Int) < (s.size : Int) := by omega
          have HI : Hid (i + k < s.size ∧ k < s.size - i) := ⟨hr, by omega⟩
          obtain ⟨b, hb⟩ : ∃ b, b = byt s (i + k) := ⟨_, rfl⟩
          have HB : Hid (b = byt s (i + k)) := hb
          clear hr hb
          by_cases hg : 128 ≤ b ∧ b ≤ 191
          · obtain ⟨q, hq⟩ : ∃ q, b = q + 128 := ⟨b - 128, by omega⟩
            have HQ : Hid (byt s (i + k) = q + 128 ∧ q < 64) := hid ⟨by rw [← HB.out, hq], by omega⟩
            have q0 : (0 : Int) ≤ (q : Int) := by omega
            have q64 : (q : Int) < 64 := by omega
            clear hq hg HB
            by_cases hk : k = 1
            · subst hk
              by_cases hm : mayB b0 q = true
              · have HM : Hid (mayB b0 q = true) := hm
                clear hm
                go_wp2_with (first
                  | (go_at_call 91; refine (tail_good s _ (i + 1) q _ (by omega) HI.out.1 HQ.out.1 HQ.out.2).mono ?_; rintro e w' ⟨rfl, hw⟩; have hw' := hw.symm; subst hw'; clear hw)
                  | (go_at_call 92; refine (may_calls b0 q _).mono ?_; rw [HM.out]; rintro e w' ⟨rfl, hw⟩; have hw' := hw.symm; subst hw'; clear hw))
                go_roundw
                case rel =>
                  have h1 := HA.out
                  have h2 := HI.out
                  have h3 := HQ.out
                  have h4 := may_low (c := b0) (b := byt s (i + 1)) (by omega) (by omega)
                  rw [h3.1, Nat.add_sub_cancel] at h4
                  have hn := h1.1.next (b := byt s (i + 1)) (q := q) (by omega) h2.2 h3.1 h3.2 (fun _ => ⟨rfl, by rw [h3.1]; exact h4.1 HM.out⟩) (fun h => by omega) (fun h => by omega)
                  exact ⟨p * 64 + q, 2, by go_num, by go_num, trivial, by omega, by omega, hn.small (byt_le _ _) (byt_le _ _) (byt_le _ _) (by omega), hid (.inr ⟨by omega, hn⟩)⟩
                case measure => simp [intOf]
              · have HM : Hid (mayB b0 q = false) := hid (by simpa using hm)
                have HR : Hid (z = (65533, 1)) := hid (by
                  have h1 := HA.out
                  have h2 := HI.out
                  have h3 := HQ.out
                  have h4 := may_low (c := b0) (b := byt s (i + 1)) (by omega) (by omega)
                  rw [h3.1, Nat.add_sub_cancel] at h4
                  rw [HZ.out.1]
                  refine h1.1.bad1 h1.2.1 h1.2.2.1 h2.2 ?_
                  rw [h3.1]
                  exact Classical.not_not.1 (fun h => hm (h4.2 h)))
                clear hm
                go_wp2_with (first
                  | (go_at_call 91; refine (tail_good s _ (i + 1) q _ (by omega) HI.out.1 HQ.out.1 HQ.out.2).mono ?_; rintro e w' ⟨rfl, hw⟩; have hw' := hw.symm; subst hw'; clear hw)
                  | (go_at_call 92; refine (may_calls b0 q _).mono ?_; rw [HM.out]; rintro e w' ⟨rfl, hw⟩; have hw' := hw.symm; subst hw'; clear hw))
                go_ret2
                rw [HR.out]
                exact ⟨rfl, rfl⟩
            · have HK1 : Hid (k ≠ 1) := hk
              have hk1 : ((k : Int) == 1) = false := by rw [beq_eq_false_iff_ne]; omega
              clear hk
              go_wp2_with (go_at_call 91; refine (tail_good s _ (i + k) q _ (by omega) HI.out.1 HQ.out.1 HQ.out.2).mono ?_; rintro e w' ⟨rfl, hw⟩; have hw' := hw.symm; subst hw'; clear hw)
              go_roundw
              case rel =>
                have h1 := HA.out
                have h2 := HI.out
                have h3 := HQ.out
                have hn4 := need_cases h1.2.1 h1.2.2.1
                have hn := h1.1.next (b := byt s (i + k)) (q := q) (by omega) h2.2 h3.1 h3.2 (fun h => absurd h HK1.out) (fun h => by rw [h]) (fun h => by rw [h])
                exact ⟨p * 64 + q, k + 1, by go_num, by go_num, trivial, by omega, by omega, hn.small (byt_le _ _) (byt_le _ _) (byt_le _ _) (by omega), hid (.inr ⟨by omega, hn⟩)⟩
              case measure => simp [intOf]; omega
          · have HR : Hid (z = (65533, 1)) := hid (by
              have h1 := HA.out
              have h2 := HI.out
              have h3 := HB.out
              rw [HZ.out.1]
              by_cases hk : k = 1
              · subst hk
                exact h1.1.bad1 h1.2.1 h1.2.2.1 h2.2 ((second _ _).2 (by omega))
              · exact h1.1.bad (b := b) h1.2.1 h1.2.2.1 (by omega) (by omega) h2.2 (fun h => by rw [h3, h]) (fun h => by rw [h3, h]) (by omega))
            have HB2 : Hid (byt s (i + k) = b ∧ (b < 128 ∨ 191 < b)) := hid ⟨HB.out.symm, by omega⟩
            clear hg HB
            go_wp2_with (go_at_call 91; refine (tail_bad s _ (i + k) b _ (by omega) HI.out.1 HB2.out.1 HB2.out.2).mono ?_; rintro e w' ⟨rfl, hw⟩; have hw' := hw.symm; subst hw'; clear hw)
            go_ret2
            rw [HR.out]
            exact ⟨rfl, rfl⟩
        · have r1 : (s.size : Int) ≤ (i : Int) + (k : Int) := by omega
          have HR : Hid (z = (0, 0)) := hid (by
            have h1 := HA.out
            rw [HZ.out.1]
            exact h1.1.short h1.2.1 h1.2.2.1 (by omega) (by omega))
          clear hr
          go_wp2
          go_ret2
          rw [HR.out]
          exact ⟨rfl, rfl⟩
      · have j1 : (n : Int) ≤ (k : Int) := by omega
        by_cases c : n = 0
        · have HR : Hid (z = (65533, 1)) := hid (by
            have h := HW.out
            rw [HZ.out.1, atB, if_neg (by omega), if_pos]
            rcases h.1 with ⟨_, h2⟩ | ⟨h0, h1, h2⟩
            · exact h2
            · have := need_cases h0 h1
              omega)
          subst c
          clear hlt HK
          go_wp2
          go_ret2
          rw [HR.out]
          exact ⟨rfl, rfl⟩
        · have n0 : ((n : Int) == 0) = false := by rw [beq_eq_false_iff_ne]; omega
          have HR : Hid (z = (p, n)) := hid (by
            have h := HW.out
            rcases HK.out with h1 | ⟨h2, h1⟩
            · omega
            · obtain rfl : k = n := by omega
              rw [HZ.out.1]
              exact h1.full (by omega) (by omega) (by omega))
          clear hlt HK c
          go_wp2
          go_ret2
          rw [HR.out]
          exact ⟨rfl, rfl⟩

end Go.Proofs.YtmhaknejeobfgaaGreatDoor

/- Ref3. -/
namespace Go.Proofs.YtmhaknejeobfgaaGreatDoor
open Go.RowKit Go.Proofs.YtmhaknejeobfgaaGreatDoor.Stable Go.Proofs.YtmhaknejeobfgaaGreatDoor.Order Go.Proofs.YtmhaknejeobfgaaGreatDoor.Points
open Go.Lib (decodeL decodeL_width)
attribute [local go_sem ↓] Go.wp_at_zero Go.wp_at_succ

theorem drop_byt (s : ByteArray) (i j : Nat) : ((s.data.toList.drop i).getD j 0).toNat = byt s (i + j) := by
  unfold byt
  rw [List.getD_eq_getElem?_getD, List.getElem?_drop, ← List.getD_eq_getElem?_getD]

theorem atL_byt (s : ByteArray) (i : Nat) : atB (s.size - i) (byt s i) (byt s (i + 1)) (byt s (i + 2)) (byt s (i + 3)) = atL (s.data.toList.drop i) := by
  unfold atL
  rw [drop_byt, drop_byt, drop_byt, drop_byt, List.length_drop, ← Lib.size_eq]
  rfl

/-- The code points, each with its place; where the text has not ended, a beginning at its end is none. -/
def ptsRF (ended : Bool) : Nat → Nat → List UInt8 → List (Nat × Int)
  | 0, _, _ => []
  | n + 1, o, l => if l = [] then [] else if (atL l).2 = 0 ∧ ended = false then [] else (o, ((decodeL l).1 : Int)) :: ptsRF ended n (o + (decodeL l).2) (l.drop (decodeL l).2)

def ptsR (ended : Bool) (o : Nat) (l : List UInt8) : List (Nat × Int) := ptsRF ended l.length o l

theorem ptsRF_nil (ended : Bool) : ∀ n o, ptsRF ended n o [] = []
  | 0, _ => rfl
  | _ + 1, _ => by simp [ptsRF]

theorem ptsRF_fuel (ended : Bool) : ∀ (n m o : Nat) (l : List UInt8), l.length ≤ n → l.length ≤ m → ptsRF ended n o l = ptsRF ended m o l
  | 0, m, o, l, hn, _ => by
    have : l = [] := List.eq_nil_of_length_eq_zero (by omega)
    subst this
    rw [ptsRF_nil, ptsRF_nil]
  | n + 1, 0, o, l, _, hm => by
    have : l = [] := List.eq_nil_of_length_eq_zero (by omega)
    subst this
    rw [ptsRF_nil, ptsRF_nil]
  | n + 1, m + 1, o, l, hn, hm => by
    unfold ptsRF
    by_cases hne : l = []
    · rw [if_pos hne, if_pos hne]
    · rw [if_neg hne, if_neg hne]
      by_cases hz : (atL l).2 = 0 ∧ ended = false
      · rw [if_pos hz, if_pos hz]
      · rw [if_neg hz, if_neg hz]
        have hw := decodeL_width l
        rw [ptsRF_fuel ended n m _ _ (by rw [List.length_drop]; omega) (by rw [List.length_drop]; omega)]

theorem ptsR_nil (ended : Bool) (o : Nat) : ptsR ended o [] = [] := rfl

theorem ptsR_step (ended : Bool) (o : Nat) (l : List UInt8) (hne : l ≠ []) : ptsR ended o l = if (atL l).2 = 0 ∧ ended = false then [] else (o, ((decodeL l).1 : Int)) :: ptsR ended (o + (decodeL l).2) (l.drop (decodeL l).2) := by
  have hw := decodeL_width l
  have hl : 0 < l.length := List.length_pos_iff.2 hne
  obtain ⟨n, hn⟩ : ∃ n, l.length = n + 1 := ⟨l.length - 1, by omega⟩
  unfold ptsR
  rw [hn]
  simp only [ptsRF, if_neg hne]
  split
  · rfl
  · rw [ptsRF_fuel ended n _ _ _ (by rw [List.length_drop]; omega) (Nat.le_refl _)]

theorem ptsR_ended : ∀ (n o : Nat) (l : List UInt8), l.length ≤ n → ptsR true o l = pts o l
  | 0, o, l, hn => by
    have : l = [] := List.eq_nil_of_length_eq_zero (by omega)
    subst this
    rfl
  | n + 1, o, l, hn => by
    by_cases hne : l = []
    · subst hne; rfl
    · have hw := decodeL_width l
      rw [ptsR_step true o l hne, pts_step o l hne, if_neg (fun h => by cases h.2), ptsR_ended n _ _ (by rw [List.length_drop]; omega)]

/-- Where the loop stands. -/
structure PtsAt (w wr : World) (ended : Bool) (s : ByteArray) (i : Nat) (acc : List (Nat × Int)) (a : Option Addr) (cp : Nat) (a2 : Option Addr) (cp2 : Nat) : Prop where
  r1 : Row wr w.heap.size a cp (acc.map fun p => p.2)
  r2 : Row wr w.heap.size a2 cp2 (acc.map fun p => (p.1 : Int))
  ap : Apart2 a a2
  fr : Fr (fun _ => False) w wr
  le : i ≤ s.size
  len : acc.length ≤ i
  eq : acc ++ ptsR ended i (s.data.toList.drop i) = ptsR ended 0 s.data.toList

theorem PtsAt.step {w wr w1 w2 : World} {ended : Bool} {s : ByteArray} {i : Nat} {acc : List (Nat × Int)} {a : Option Addr} {cp : Nat} {a2 : Option Addr} {cp2 : Nat} (h : PtsAt w wr ended s i acc a cp a2 cp2) {o1 o2 : Obj} {v1 v2 : Value} {c : Int} {d : Nat}
    (g1 : (wr.alloc o1).grownBy w1 (Value.slice a acc.length cp).ownBlock) (l1 : v1.ownBlock = (Value.slice a acc.length cp).ownBlock ∨ v1.ownBlock = some (wr.heap.size + 1))
    (k1 : w1.ownsRow w.heap.size 3 1 v1 (acc.length + 1) (ints (acc.map fun p => p.2) ++ [.int .i64 c]))
    (g2 : (w1.alloc o2).grownBy w2 (Value.slice a2 acc.length cp2).ownBlock) (l2 : v2.ownBlock = (Value.slice a2 acc.length cp2).ownBlock ∨ v2.ownBlock = some (w1.heap.size + 1))
    (k2 : w2.ownsRow w.heap.size 3 1 v2 (acc.length + 1) (ints (acc.map fun p => (p.1 : Int)) ++ [.int .i64 i]))
    (hd : i + d ≤ s.size) (hd1 : 1 ≤ d) (he : (acc ++ [(i, c)]) ++ ptsR ended (i + d) (s.data.toList.drop (i + d)) = ptsR ended 0 s.data.toList) :
    ∃ a' c' b' d', v1 = .slice a' (acc.length + 1) c' ∧ v2 = .slice b' (acc.length + 1) d' ∧ PtsAt w w2 ended s (i + d) (acc ++ [(i, c)]) a' c' b' d' := by
  have m1 := Row.more (l := acc.map fun p => p.2) (xs := [c]) (n := 1) (v' := v1) (w' := w1) (base := w.heap.size) (by simpa [ints] using k1) rfl
  have m2 := Row.more (l := acc.map fun p => (p.1 : Int)) (xs := [(i : Int)]) (n := 1) (v' := v2) (w' := w2) (base := w.heap.size) (by simpa [ints] using k2) rfl
  obtain ⟨a', c', rfl, m1⟩ := m1
  obtain ⟨b', d', rfl, m2⟩ := m2
  have hs := h.fr.size
  have f1 : Fr (fun _ => False) w w1 := grown_new (h.fr.alloc o1) (h.r1.keep ((Fr.refl _ _).alloc o1)) (Nat.le_refl _) g1
  have r2' : Row w1 w.heap.size a2 cp2 (acc.map fun p => (p.1 : Int)) := (h.r2.keep ((Fr.refl _ _).alloc o1)).kept (grown_fr g1) (fun x hx e => by
    cases a with
    | none => cases e
    | some y =>
      have e' : x.block = y.block := by simpa using e
      exact h.ap y x rfl hx e'.symm)
  have f2 : Fr (fun _ => False) w w2 := grown_new (f1.alloc o2) (r2'.keep ((Fr.refl _ _).alloc o2)) (Nat.le_refl _) g2
  rw [own_slice, own_slice] at l1 l2
  have s1 : (wr.alloc o1).heap.size = wr.heap.size + 1 := by simp
  have s2 : (w1.alloc o2).heap.size = w1.heap.size + 1 := by simp
  have z1 := g1.size
  refine ⟨a', c', b', d', by simp, by simp, ?_, ?_, ?_, f2, hd, by have := h.len; simp; omega, he⟩
  · have hr : Row w2 w.heap.size a' c' (acc.map (fun p => p.2) ++ [c]) := (m1.keep ((Fr.refl _ _).alloc o2)).kept (grown_fr g2) (fun x hx e => by
      cases a2 with
      | none => cases e
      | some y =>
        have e' : x.block = y.block := by simpa using e
        have hy := (h.r2.lt rfl).2
        rw [hx] at l1
        rcases l1 with l1 | l1
        · cases a with
          | none => cases l1
          | some z =>
            have e2 : x.block = z.block := by simpa using l1
            exact h.ap z y rfl rfl (by omega)
        · have e2 : x.block = wr.heap.size + 1 := by simpa using l1
          omega)
    simpa using hr
  · simpa using m2
  · intro x y hx hy e
    have hx2 := (m1.lt hx).2
    rw [hy] at l2
    rw [hx] at l1
    rcases l2 with l2 | l2
    · cases a2 with
      | none => cases l2
      | some y2 =>
        have e2 : y.block = y2.block := by simpa using l2
        have hy2 := (h.r2.lt rfl).2
        rcases l1 with l1 | l1
        · cases a with
          | none => cases l1
          | some z =>
            have e3 : x.block = z.block := by simpa using l1
            exact h.ap z y2 rfl rfl (by omega)
        · have e3 : x.block = wr.heap.size + 1 := by simpa using l1
          omega
    · have e2 : y.block = w1.heap.size + 1 := by simpa using l2
      omega

structure PtsOut (w wr : World) (acc : List (Nat × Int)) (a : Option Addr) (cp : Nat) (a2 : Option Addr) (cp2 : Nat) : Prop where
  r1 : Row wr w.heap.size a cp (acc.map fun p => p.2)
  r2 : Row wr w.heap.size a2 cp2 (acc.map fun p => (p.1 : Int))
  fr : Fr (fun _ => False) w wr

theorem PtsAt.second {w wr w1 : World} {ended : Bool} {s : ByteArray} {i : Nat} {acc : List (Nat × Int)} {a : Option Addr} {cp : Nat} {a2 : Option Addr} {cp2 : Nat} (h : PtsAt w wr ended s i acc a cp a2 cp2) {o1 : Obj} (g1 : (wr.alloc o1).grownBy w1 (Value.slice a acc.length cp).ownBlock) (o2 : Obj) : (w1.alloc o2).ownsRow w.heap.size 3 1 (.slice a2 acc.length cp2) acc.length (ints (acc.map fun p => (p.1 : Int))) := by
  have r2' : Row w1 w.heap.size a2 cp2 (acc.map fun p => (p.1 : Int)) := (h.r2.keep ((Fr.refl _ _).alloc o1)).kept (grown_fr g1) (fun x hx e => by
    cases a with
    | none => cases e
    | some y =>
      have e' : x.block = y.block := by simpa using e
      exact h.ap y x rfl hx e'.symm)
  have h := r2'.keep ((Fr.refl _ _).alloc o2)
  unfold Row at h
  rw [List.length_map] at h
  exact h

set_option maxRecDepth 100000 in
set_option maxHeartbeats 1600000 in
theorem points_calls (s : ByteArray) (ended : Bool) (w : World) (hs : s.size ≤ 1099511627776) :
    Calls Tryz.prog 39 #[.string s, .bool ended] w fun e w' => ∃ a cp a2 cp2, e = .returned (.tuple #[.slice a (ptsR ended 0 s.data.toList).length cp, .slice a2 (ptsR ended 0 s.data.toList).length cp2]) ∧ PtsOut w w' (ptsR ended 0 s.data.toList) a cp a2 cp2 := by
  obtain ⟨i0, hi0, hz0, hz1, hz2⟩ := info_parts Tryz.info_int
  have HI : Hid (Tryz.prog.info? 3 = some i0 ∧ i0.zero = some (.int .i64 0) ∧ i0.size = 1 ∧ i0.bytes = 8) := ⟨hi0, hz0, hz1, hz2⟩
  have s1 : (s.size : Int) ≤ 1099511627776 := by omega
  have HS : Hid (s.size ≤ 1099511627776) := hs
  clear hs hi0 hz0 hz1 hz2
  go_enter Tryz.func39, Tryz.ntmps39
  go_wp2
  go_loopw [6, 7, 8] (fun v6 v7 v8 wr => ∃ (a a2 : Option Addr) (cp cp2 i : Nat) (acc : List (Nat × Int)), v6 = .slice a acc.length cp ∧ v7 = .slice a2 acc.length cp2 ∧ v8 = .int .i64 i ∧ Hid (PtsAt w wr ended s i acc a cp a2 cp2)) (fun _ _ v8 _ => s.size - (intOf v8).toNat)
  case atStart => exact ⟨none, none, 0, 0, 0, [], rfl, rfl, rfl, hid ⟨Row.none _ _, Row.none _ _, (fun x y h => by cases h), Fr.refl _ _, Nat.zero_le _, Nat.le_refl _, rfl⟩⟩
  case round =>
    obtain ⟨a, a2, cp, cp2, i, acc, rfl, rfl, rfl, HH⟩ := hrel
    have j0 : (0 : Int) ≤ (i : Int) := by omega
    by_cases hlt : i < s.size
    · have j1 : (i : Int) < (s.size : Int) := by omega
      obtain ⟨z, hz⟩ : ∃ z, z = atL (s.data.toList.drop i) := ⟨_, rfl⟩
      have hne : s.data.toList.drop i ≠ [] := fun e => by
        have := congrArg List.length e
        rw [List.length_drop, ← Lib.size_eq] at this
        simp at this
        omega
      have hst := ptsR_step ended i _ hne
      have hdl := Lib.decodeL_le _ hne
      have hdw := decodeL_width (s.data.toList.drop i)
      rw [List.length_drop, ← Lib.size_eq] at hdl
      have hfx := atL_dec (s.data.toList.drop i)
      rw [← hz] at hst hfx
      have HZ : Hid (atB (s.size - i) (byt s i) (byt s (i + 1)) (byt s (i + 2)) (byt s (i + 3)) = z ∧ i < s.size) := hid ⟨by rw [atL_byt, hz], hlt⟩
      clear hz hlt hne
      by_cases hn : z.2 = 0
      · cases ended with
        | false =>
          rw [if_pos ⟨hn, rfl⟩] at hst
          have HN : Hid (z.2 = 0 ∧ acc = ptsR false 0 s.data.toList) := hid ⟨hn, by
            have h := HH.out.eq
            rw [hst, List.append_nil] at h
            exact h⟩
          clear hst hdl hfx hn hdw
          go_wp2_with (go_at_call 66; refine (at_calls s i _ HZ.out.2 HS.out).mono ?_; rw [HZ.out.1, HN.out.1]; rintro e w' ⟨rfl, hw⟩; have hw' := hw.symm; subst hw'; clear hw)
          go_ret2
          rw [← HN.out.2]
          have h := HH.out
          exact ⟨a, cp, a2, cp2, rfl, h.r1, h.r2, h.fr⟩
        | true =>
          rw [if_neg (fun h => by cases h.2)] at hst
          have hde : Lib.decodeL (s.data.toList.drop i) = (65533, 1) := by rw [← hfx]; unfold fixA; rw [if_pos hn]
          rw [hde] at hst hdl
          have HN : Hid (z.2 = 0 ∧ i + 1 ≤ s.size ∧ 1 ≤ 1 ∧ (acc ++ [(i, (65533 : Int))]) ++ ptsR true (i + 1) (s.data.toList.drop (i + 1)) = ptsR true 0 s.data.toList) := hid ⟨hn, by omega, by omega, by
            have h := HH.out.eq
            rw [hst, List.drop_drop] at h
            rw [List.append_assoc]
            exact h⟩
          clear hst hdl hfx hn hde hdw
          go_wp2_with (first
            | (go_at_call 66; refine (at_calls s i _ HZ.out.2 HS.out).mono ?_; rw [HZ.out.1, HN.out.1]; rintro e w' ⟨rfl, hw⟩; have hw' := hw.symm; subst hw'; clear hw)
            | (at_builtin; refine wpList_append_own_at _ rfl _ _ 37 rfl w.heap.size 3 i0 (.int .i64 0) 1 8 Tryz.underlying37 HI.out.1 HI.out.2.1 HI.out.2.2.1 HI.out.2.2.2 rfl (by decide) (.slice a acc.length cp) acc.length (ints (acc.map fun p => p.2)) rfl ?own ⟨wr.heap.size, 0, none⟩ 1 1 [.int .i64 65533] rfl rfl (cell_one_new _ _ _) (by intro u hu; simp at hu; subst hu; rfl) ?len ?bytes ?base ?grow))
          case own =>
            have h := HH.out.r1.keep ((Fr.refl (fun _ => False) wr).alloc (Obj.cells #[.int .i64 65533] 3))
            unfold Row at h
            rw [List.length_map] at h
            exact h
          case len =>
            have h1 := HH.out.len
            have h2 := HH.out.le
            have h3 := HS.out
            unfold maxLen
            omega
          case bytes =>
            have h1 := HH.out.len
            have h2 := HH.out.le
            have h3 := HS.out
            omega
          case base =>
            have h1 := HH.out.fr.size
            simp
            omega
          case grow =>
            intro v1 w1 k1 g1 _ l1
            obtain ⟨x1, y1, rfl⟩ := row_form k1
            have HG : Hid ((wr.alloc (Obj.cells #[.int .i64 65533] 3)).grownBy w1 (Value.slice a acc.length cp).ownBlock ∧ ((Value.slice x1 (acc.length + 1) y1).ownBlock = (Value.slice a acc.length cp).ownBlock ∨ (Value.slice x1 (acc.length + 1) y1).ownBlock = some (wr.heap.size + 1)) ∧ w1.ownsRow w.heap.size 3 1 (.slice x1 (acc.length + 1) y1) (acc.length + 1) (ints (acc.map fun p => p.2) ++ [.int .i64 65533])) := ⟨g1, l1, k1⟩
            clear k1 g1 l1
            go_wp2_with (at_builtin; refine wpList_append_own_at _ rfl _ _ 37 rfl w.heap.size 3 i0 (.int .i64 0) 1 8 Tryz.underlying37 HI.out.1 HI.out.2.1 HI.out.2.2.1 HI.out.2.2.2 rfl (by decide) (.slice a2 acc.length cp2) acc.length (ints (acc.map fun p => (p.1 : Int))) rfl ?own2 ⟨w1.heap.size, 0, none⟩ 1 1 [.int .i64 i] rfl rfl (cell_one_new _ _ _) (by intro u hu; simp at hu; subst hu; rfl) ?len2 ?bytes2 ?base2 ?grow2)
            case own2 =>
              have h := HH.out.second HG.out.1 (Obj.cells #[.int .i64 i] 3)
              exact h
            case len2 =>
              have h1 := HH.out.len
              have h2 := HH.out.le
              have h3 := HS.out
              unfold maxLen
              omega
            case bytes2 =>
              have h1 := HH.out.len
              have h2 := HH.out.le
              have h3 := HS.out
              omega
            case base2 =>
              have h1 := HH.out.fr.size
              have h2 := HG.out.1.size
              simp at h2 ⊢
              omega
            case grow2 =>
              intro v2 w2 k2 g2 _ l2
              have hst := HH.out.step HG.out.1 HG.out.2.1 HG.out.2.2 g2 l2 k2 HN.out.2.1 HN.out.2.2.1 HN.out.2.2.2
              obtain ⟨a', c', b', d', e1, rfl, HP0⟩ := hst
              cases e1
              have HP : Hid (PtsAt w w2 true s (i + 1) (acc ++ [(i, 65533)]) x1 y1 b' d') := HP0
              have d0 : (0 : Int) ≤ 1 := by omega
              have d1 : (i : Int) + 1 ≤ (s.size : Int) := by have := HN.out.2.1; omega
              clear HP0 k2 g2 l2
              go_wp2
              go_roundw
              case rel => exact ⟨x1, b', y1, d', i + 1, acc ++ [(i, 65533)], by simp, by simp, by go_num, HP⟩
              case measure =>
                have h := HN.out
                simp [intOf]
                omega
      · have hde : Lib.decodeL (s.data.toList.drop i) = z := by rw [← hfx]; unfold fixA; rw [if_neg hn]
        rw [if_neg (fun h => hn h.1), hde] at hst
        rw [hde] at hdl hdw
        have z0 : ((z.2 : Int) == 0) = false := by rw [beq_eq_false_iff_ne]; omega
        have HN : Hid (z.2 ≠ 0 ∧ i + z.2 ≤ s.size ∧ 1 ≤ z.2 ∧ (acc ++ [(i, (z.1 : Int))]) ++ ptsR ended (i + z.2) (s.data.toList.drop (i + z.2)) = ptsR ended 0 s.data.toList) := hid ⟨hn, by omega, by omega, by
          have h := HH.out.eq
          rw [hst, List.drop_drop] at h
          rw [List.append_assoc]
          exact h⟩
        clear hst hdl hfx hn hde hdw
        go_wp2_with (first
          | (go_at_call 66; refine (at_calls s i _ HZ.out.2 HS.out).mono ?_; rw [HZ.out.1]; rintro e w' ⟨rfl, hw⟩; have hw' := hw.symm; subst hw'; clear hw)
          | (at_builtin; refine wpList_append_own_at _ rfl _ _ 37 rfl w.heap.size 3 i0 (.int .i64 0) 1 8 Tryz.underlying37 HI.out.1 HI.out.2.1 HI.out.2.2.1 HI.out.2.2.2 rfl (by decide) (.slice a acc.length cp) acc.length (ints (acc.map fun p => p.2)) rfl ?own ⟨wr.heap.size, 0, none⟩ 1 1 [.int .i64 z.1] rfl rfl (cell_one_new _ _ _) (by intro u hu; simp at hu; subst hu; rfl) ?len ?bytes ?base ?grow))
        case own =>
          have h := HH.out.r1.keep ((Fr.refl (fun _ => False) wr).alloc (Obj.cells #[.int .i64 z.1] 3))
          unfold Row at h
          rw [List.length_map] at h
          exact h
        case len =>
          have h1 := HH.out.len
          have h2 := HH.out.le
          have h3 := HS.out
          unfold maxLen
          omega
        case bytes =>
          have h1 := HH.out.len
          have h2 := HH.out.le
          have h3 := HS.out
          omega
        case base =>
          have h1 := HH.out.fr.size
          simp
          omega
        case grow =>
          intro v1 w1 k1 g1 _ l1
          obtain ⟨x1, y1, rfl⟩ := row_form k1
          have HG : Hid ((wr.alloc (Obj.cells #[.int .i64 z.1] 3)).grownBy w1 (Value.slice a acc.length cp).ownBlock ∧ ((Value.slice x1 (acc.length + 1) y1).ownBlock = (Value.slice a acc.length cp).ownBlock ∨ (Value.slice x1 (acc.length + 1) y1).ownBlock = some (wr.heap.size + 1)) ∧ w1.ownsRow w.heap.size 3 1 (.slice x1 (acc.length + 1) y1) (acc.length + 1) (ints (acc.map fun p => p.2) ++ [.int .i64 z.1])) := ⟨g1, l1, k1⟩
          clear k1 g1 l1
          go_wp2_with (at_builtin; refine wpList_append_own_at _ rfl _ _ 37 rfl w.heap.size 3 i0 (.int .i64 0) 1 8 Tryz.underlying37 HI.out.1 HI.out.2.1 HI.out.2.2.1 HI.out.2.2.2 rfl (by decide) (.slice a2 acc.length cp2) acc.length (ints (acc.map fun p => (p.1 : Int))) rfl ?own2 ⟨w1.heap.size, 0, none⟩ 1 1 [.int .i64 i] rfl rfl (cell_one_new _ _ _) (by intro u hu; simp at hu; subst hu; rfl) ?len2 ?bytes2 ?base2 ?grow2)
          case own2 =>
            have h := HH.out.second HG.out.1 (Obj.cells #[.int .i64 i] 3)
            exact h
          case len2 =>
            have h1 := HH.out.len
            have h2 := HH.out.le
            have h3 := HS.out
            unfold maxLen
            omega
          case bytes2 =>
            have h1 := HH.out.len
            have h2 := HH.out.le
            have h3 := HS.out
            omega
          case base2 =>
            have h1 := HH.out.fr.size
            have h2 := HG.out.1.size
            simp at h2 ⊢
            omega
          case grow2 =>
            intro v2 w2 k2 g2 _ l2
            have hst := HH.out.step HG.out.1 HG.out.2.1 HG.out.2.2 g2 l2 k2 HN.out.2.1 HN.out.2.2.1 HN.out.2.2.2
            obtain ⟨a', c', b', d', e1, rfl, HP0⟩ := hst
            cases e1
            have HP : Hid (PtsAt w w2 ended s (i + z.2) (acc ++ [(i, (z.1 : Int))]) x1 y1 b' d') := HP0
            have d0 : (0 : Int) ≤ (z.2 : Int) := by omega
            have d1 : (i : Int) + (z.2 : Int) ≤ (s.size : Int) := by have := HN.out.2.1; omega
            clear HP0 k2 g2 l2
            go_wp2
            go_roundw
            case rel => exact ⟨x1, b', y1, d', i + z.2, acc ++ [(i, (z.1 : Int))], by simp, by simp, by go_num, HP⟩
            case measure =>
              have h := HN.out
              simp [intOf]
              omega
    · have j1 : (s.size : Int) ≤ (i : Int) := by omega
      have HN : Hid (acc = ptsR ended 0 s.data.toList) := hid (by
        have h := HH.out.eq
        rw [List.drop_eq_nil_of_le (by rw [← Lib.size_eq]; omega), ptsR_nil, List.append_nil] at h
        exact h)
      clear hlt
      go_wp2
      go_ret2
      rw [← HN.out]
      have h := HH.out
      exact ⟨a, cp, a2, cp2, rfl, h.r1, h.r2, h.fr⟩

end Go.Proofs.YtmhaknejeobfgaaGreatDoor
