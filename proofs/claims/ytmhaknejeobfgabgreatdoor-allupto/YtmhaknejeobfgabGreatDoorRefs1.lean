/- The document's answer: wanted, tail, may, at, walked. The document's answer: the code point at a place. The document's answer: the code points of a text, and where they begin. The document's answer: code points as UTF-8. The document's answer: a number of the table. The document's answer: a list of the table. The table's lines, as the document's answer reads them: plain. The document's answer: what the table says of a code point. The document's answer: what a code point is taken apart into; what is plain of it. -/
import Derived.Test.YtmhaknejeobfgabGreatDoorChLines
import Derived.Test.YtmhaknejeobfgabGreatDoorQueues
import Derived.Deep.CutBlock
import Derived.Deep.DeepCutAuto
import Derived.Test.YtmhaknejeobfgabGreatDoorKeys
import Derived.Test.YtmhaknejeobfgabGreatDoorTables
import Derived.Test.YtmhaknejeobfgabGreatDoorBase

/- Ref1. -/
namespace Go.Proofs.YtmhaknejeobfgabGreatDoor
open Go.RowKit Go.Proofs.YtmhaknejeobfgabGreatDoor.Stable Go.Proofs.YtmhaknejeobfgabGreatDoor.Order Go.Proofs.YtmhaknejeobfgabGreatDoor.Points
attribute [local go_sem ↓] Go.wp_at_zero Go.wp_at_succ

set_option maxRecDepth 100000 in
theorem wanted_calls (b : Nat) (w : World) :
    Calls Tryz.prog 109 #[.int .i64 b] w fun e w' => e = .returned (.int .i64 (wantB b)) ∧ w' = w := by
  obtain ⟨z, hz⟩ : ∃ z, z = wantB b := ⟨_, rfl⟩
  rw [← hz]
  have HZ : Hid (z = wantB b) := hz
  clear hz
  go_enter Tryz.func109, Tryz.ntmps109
  by_cases c0 : b < 128
  · have k0 : (b : Int) < 128 := by omega
    have HR : Hid (z = 1) := hid (by rw [HZ.out]; simp [wantB, c0])
    clear c0
    go_wp2
    go_ret
    rw [HR.out]
    exact ⟨rfl, rfl⟩
  have k0 : (128 : Int) ≤ (b : Int) := by omega
  by_cases c1 : b < 194
  · have k1 : (b : Int) < 194 := by omega
    have k2 : (b : Int) < 224 := by omega
    have k3 : (b : Int) < 240 := by omega
    have HR : Hid (z = 0) := hid (by rw [HZ.out]; simp [wantB, c0, c1])
    clear c0 c1
    go_wp2
    go_ret
    rw [HR.out]
    exact ⟨rfl, rfl⟩
  have k1 : (194 : Int) ≤ (b : Int) := by omega
  by_cases c2 : b ≤ 223
  · have k2 : (b : Int) ≤ 223 := by omega
    have HR : Hid (z = 2) := hid (by rw [HZ.out, wantB, if_neg c0, if_neg (by omega), needOf, if_pos (by omega)])
    clear c0 c1 c2
    go_wp2
    go_ret
    rw [HR.out]
    exact ⟨rfl, rfl⟩
  have k2 : (223 : Int) < (b : Int) := by omega
  have k2' : (224 : Int) ≤ (b : Int) := by omega
  by_cases c3 : b ≤ 239
  · have k3 : (b : Int) ≤ 239 := by omega
    have HR : Hid (z = 3) := hid (by rw [HZ.out, wantB, if_neg c0, if_neg (by omega), needOf, if_neg (by omega), if_pos (by omega)])
    clear c0 c1 c2 c3
    go_wp2
    go_ret
    rw [HR.out]
    exact ⟨rfl, rfl⟩
  have k3 : (239 : Int) < (b : Int) := by omega
  have k3' : (240 : Int) ≤ (b : Int) := by omega
  by_cases c4 : b ≤ 244
  · have k4 : (b : Int) ≤ 244 := by omega
    have HR : Hid (z = 4) := hid (by rw [HZ.out, wantB, if_neg c0, if_neg (by omega), needOf, if_neg (by omega), if_neg (by omega)])
    clear c0 c1 c2 c3 c4
    go_wp2
    go_ret
    rw [HR.out]
    exact ⟨rfl, rfl⟩
  have k4 : (244 : Int) < (b : Int) := by omega
  have HR : Hid (z = 0) := hid (by rw [HZ.out, wantB, if_neg c0, if_pos (by omega)])
  clear c0 c1 c2 c3 c4
  go_wp2
  go_ret
  rw [HR.out]
  exact ⟨rfl, rfl⟩

set_option maxRecDepth 100000 in
theorem tail_good (s : ByteArray) (x : Int) (j q : Nat) (w : World) (hx : x = j) (hj : j < s.size) (hb : byt s j = q + 128) (hq : q < 64) :
    Calls Tryz.prog 110 #[.string s, .int .i64 x] w fun e w' => e = .returned (.int .i64 q) ∧ w' = w := by
  have hx0 : ∀ w, (Instr.index 9 (.string s) (.int .i64 x)).run Tryz.prog w = .ok (.int .u8 (q + 128 : Nat)) w := fun w => by rw [← hb]; exact byt_index hx hj w
  have k0 : x < (s.size : Int) := by omega
  have k1 : ((q + 128 : Nat) : Int) ≤ 191 := by omega
  have k2 : (128 : Int) ≤ ((q + 128 : Nat) : Int) := by omega
  have e : ((q + 128 : Nat) : Int) - 128 = (q : Int) := by omega
  clear hx hj hb hq
  generalize ((q + 128 : Nat) : Int) = t at hx0 k1 k2 e
  go_enter Tryz.func110, Tryz.ntmps110
  go_wp2
  go_ret
  first | exact ⟨rfl, rfl⟩ | (rw [← e]; exact ⟨rfl, rfl⟩)

set_option maxRecDepth 100000 in
theorem tail_bad (s : ByteArray) (x : Int) (j b : Nat) (w : World) (hx : x = j) (hj : j < s.size) (hb : byt s j = b) (hq : b < 128 ∨ 191 < b) :
    Calls Tryz.prog 110 #[.string s, .int .i64 x] w fun e w' => e = .returned (.int .i64 (-1)) ∧ w' = w := by
  have hx0 : ∀ w, (Instr.index 9 (.string s) (.int .i64 x)).run Tryz.prog w = .ok (.int .u8 b) w := fun w => by rw [← hb]; exact byt_index hx hj w
  have k0 : x < (s.size : Int) := by omega
  clear hx hj hb
  go_enter Tryz.func110, Tryz.ntmps110
  by_cases c : b < 128
  · have k1 : (b : Int) < 128 := by omega
    clear hq c
    go_wp2
    go_ret
    exact ⟨rfl, rfl⟩
  · have k1 : (128 : Int) ≤ (b : Int) := by omega
    have k2 : (191 : Int) < (b : Int) := by omega
    clear hq c
    go_wp2
    go_ret
    exact ⟨rfl, rfl⟩

set_option maxRecDepth 100000 in
theorem may_calls (c b : Nat) (w : World) :
    Calls Tryz.prog 111 #[.int .i64 c, .int .i64 b] w fun e w' => e = .returned (.bool (mayB c b)) ∧ w' = w := by
  obtain ⟨z, hz⟩ : ∃ z, z = mayB c b := ⟨_, rfl⟩
  rw [← hz]
  have HZ : Hid (z = mayB c b) := hz
  clear hz
  go_enter Tryz.func111, Tryz.ntmps111
  by_cases c1 : c = 224
  · have k1 : ((c : Int) == 224) = true := by simp; omega
    have HR : Hid (z = decide ((32 : Int) ≤ (b : Int))) := hid (by rw [HZ.out, mayB, if_pos c1]; congr 1; simp; omega)
    clear c1
    go_wp2
    go_ret
    rw [HR.out]
    exact ⟨rfl, rfl⟩
  have k1 : ((c : Int) == 224) = false := by rw [beq_eq_false_iff_ne]; omega
  by_cases c2 : c = 237
  · have k2 : ((c : Int) == 237) = true := by simp; omega
    have HR : Hid (z = decide ((b : Int) < 32)) := hid (by rw [HZ.out, mayB, if_neg c1, if_pos c2]; congr 1; simp; omega)
    clear c1 c2
    go_wp2
    go_ret
    rw [HR.out]
    exact ⟨rfl, rfl⟩
  have k2 : ((c : Int) == 237) = false := by rw [beq_eq_false_iff_ne]; omega
  by_cases c3 : c = 240
  · have k3 : ((c : Int) == 240) = true := by simp; omega
    have HR : Hid (z = decide ((16 : Int) ≤ (b : Int))) := hid (by rw [HZ.out, mayB, if_neg c1, if_neg c2, if_pos c3]; congr 1; simp; omega)
    clear c1 c2 c3
    go_wp2
    go_ret
    rw [HR.out]
    exact ⟨rfl, rfl⟩
  have k3 : ((c : Int) == 240) = false := by rw [beq_eq_false_iff_ne]; omega
  by_cases c4 : c = 244
  · have k4 : ((c : Int) == 244) = true := by simp; omega
    have HR : Hid (z = decide ((b : Int) < 16)) := hid (by rw [HZ.out, mayB, if_neg c1, if_neg c2, if_neg c3, if_pos c4]; congr 1; simp; omega)
    clear c1 c2 c3 c4
    go_wp2
    go_ret
    rw [HR.out]
    exact ⟨rfl, rfl⟩
  have k4 : ((c : Int) == 244) = false := by rw [beq_eq_false_iff_ne]; omega
  have HR : Hid (z = true) := hid (by rw [HZ.out, mayB, if_neg c1, if_neg c2, if_neg c3, if_neg c4])
  clear c1 c2 c3 c4
  go_wp2
  go_ret
  rw [HR.out]
  exact ⟨rfl, rfl⟩

end Go.Proofs.YtmhaknejeobfgabGreatDoor

/- Ref2. -/
namespace Go.Proofs.YtmhaknejeobfgabGreatDoor
open Go.RowKit Go.Proofs.YtmhaknejeobfgabGreatDoor.Stable Go.Proofs.YtmhaknejeobfgabGreatDoor.Order Go.Proofs.YtmhaknejeobfgabGreatDoor.Points
attribute [local go_sem ↓] Go.wp_at_zero Go.wp_at_succ

/-- What the first byte gives. -/
def startB (b : Nat) : Nat := if needOf b = 2 then b - 192 else if needOf b = 3 then b - 224 else b - 240

/-- Where the loop stands: k bytes are good. -/
structure AtK (r b0 b1 b2 b3 k p : Nat) : Prop where
  one : 1 ≤ k
  four : k ≤ 4
  room : k ≤ r
  g1 : 2 ≤ k → ¬ (b1 < lowOf b0 ∨ topOf b0 < b1)
  g2 : 3 ≤ k → 128 ≤ b2 ∧ b2 ≤ 191
  g3 : 4 ≤ k → 128 ≤ b3 ∧ b3 ≤ 191
  p1 : k = 1 → p = startB b0
  p2 : k = 2 → p = startB b0 * 64 + (b1 - 128)
  p3 : k = 3 → p = (startB b0 * 64 + (b1 - 128)) * 64 + (b2 - 128)
  p4 : k = 4 → p = ((startB b0 * 64 + (b1 - 128)) * 64 + (b2 - 128)) * 64 + (b3 - 128)

theorem AtK.short {r b0 b1 b2 b3 k p : Nat} (h : AtK r b0 b1 b2 b3 k p) (h0 : 194 ≤ b0) (h1 : b0 ≤ 244) (hk : k < needOf b0) (hr : r ≤ k) : atB r b0 b1 b2 b3 = (0, 0) := by
  have hn := need_cases h0 h1
  have := h.one
  have := h.room
  unfold atB
  rw [if_neg (by omega), if_neg (by omega)]
  by_cases k1 : k = 1
  · rw [if_pos (by omega)]
  rw [if_neg (by omega), if_neg (h.g1 (by omega)), if_neg (by omega)]
  by_cases k2 : k = 2
  · rw [if_pos (by omega)]
  have := h.g2 (by omega)
  rw [if_neg (by omega), if_neg (by omega), if_neg (by omega), if_pos (by omega)]

theorem AtK.bad1 {r b0 b1 b2 b3 p : Nat} (_ : AtK r b0 b1 b2 b3 1 p) (h0 : 194 ≤ b0) (h1 : b0 ≤ 244) (hr : 1 < r) (hb : b1 < lowOf b0 ∨ topOf b0 < b1) : atB r b0 b1 b2 b3 = (65533, 1) := by
  unfold atB
  rw [if_neg (by omega), if_neg (by omega), if_neg (by omega), if_pos hb]

theorem AtK.bad {r b0 b1 b2 b3 k p b : Nat} (h : AtK r b0 b1 b2 b3 k p) (h0 : 194 ≤ b0) (h1 : b0 ≤ 244) (hk : k < needOf b0) (h2 : 2 ≤ k) (hr : k < r) (hb2 : k = 2 → b = b2) (hb3 : k = 3 → b = b3) (hb : b < 128 ∨ 191 < b) : atB r b0 b1 b2 b3 = (65533, 1) := by
  have hn := need_cases h0 h1
  unfold atB
  rw [if_neg (by omega), if_neg (by omega), if_neg (by omega), if_neg (h.g1 h2), if_neg (by omega), if_neg (by omega)]
  by_cases k2 : k = 2
  · have := hb2 k2
    rw [if_pos (by omega)]
  have := h.g2 (by omega)
  have := hb3 (by omega)
  rw [if_neg (by omega), if_neg (by omega), if_neg (by omega), if_pos (by omega)]

theorem AtK.full {r b0 b1 b2 b3 k p : Nat} (h : AtK r b0 b1 b2 b3 k p) (h0 : 194 ≤ b0) (h1 : b0 ≤ 244) (hk : k = needOf b0) : atB r b0 b1 b2 b3 = (p, k) := by
  have hn := need_cases h0 h1
  have := h.room
  unfold atB
  rw [if_neg (by omega), if_neg (by omega), if_neg (by omega), if_neg (h.g1 (by omega))]
  rcases hn with ⟨n2, m1⟩ | ⟨n3, m1, m2⟩ | ⟨n4, m1⟩
  · have e := h.p2 (by omega)
    rw [startB, if_pos n2] at e
    rw [if_pos n2, hk, n2, ← e]
  · have e := h.p3 (by omega)
    have := h.g2 (by omega)
    rw [startB, if_neg (by omega), if_pos n3] at e
    rw [n3, if_neg (by omega), if_neg (by omega), if_neg (by omega), if_pos rfl, hk, n3, ← e]
  · have e := h.p4 (by omega)
    have := h.g2 (by omega)
    have := h.g3 (by omega)
    rw [startB, if_neg (by omega), if_neg (by omega)] at e
    rw [n4, if_neg (by omega), if_neg (by omega), if_neg (by omega), if_neg (by omega), if_neg (by omega), if_neg (by omega), hk, n4, ← e]

theorem AtK.next {r b0 b1 b2 b3 k p b q : Nat} (h : AtK r b0 b1 b2 b3 k p) (hk : k < 4) (hr : k < r) (hb : b = q + 128) (hq : q < 64) (e1 : k = 1 → b = b1 ∧ ¬ (b1 < lowOf b0 ∨ topOf b0 < b1)) (e2 : k = 2 → b = b2) (e3 : k = 3 → b = b3) : AtK r b0 b1 b2 b3 (k + 1) (p * 64 + q) := by
  have h1 := h.one
  refine ⟨by omega, by omega, by omega, fun h2 => ?_, fun h2 => ?_, fun h2 => ?_, fun h2 => by omega, fun h2 => ?_, fun h2 => ?_, fun h2 => ?_⟩
  · by_cases c : k = 1
    · exact (e1 c).2
    · exact h.g1 (by omega)
  · by_cases c : k = 2
    · have := e2 c; omega
    · exact h.g2 (by omega)
  · have := e3 (by omega); omega
  · have := e1 (by omega)
    rw [h.p1 (by omega), show q = b1 - 128 by omega]
  · have := e2 (by omega)
    rw [h.p2 (by omega), show q = b2 - 128 by omega]
  · have := e3 (by omega)
    rw [h.p3 (by omega), show q = b3 - 128 by omega]

theorem AtK.small {r b0 b1 b2 b3 k p : Nat} (h : AtK r b0 b1 b2 b3 k p) (h1 : b1 ≤ 255) (h2 : b2 ≤ 255) (h3 : b3 ≤ 255) (h0 : b0 ≤ 255) : p ≤ 1099511627776 := by
  have hs : startB b0 ≤ 255 := by
    unfold startB
    split
    · omega
    · split <;> omega
  have h4 := h.four
  have h5 := h.one
  have : k = 1 ∨ k = 2 ∨ k = 3 ∨ k = 4 := by omega
  rcases this with k | k | k | k
  · have := h.p1 k; omega
  · have := h.p2 k; omega
  · have := h.p3 k; omega
  · have := h.p4 k; omega

set_option maxRecDepth 100000 in
set_option maxHeartbeats 1600000 in
theorem at_calls (s : ByteArray) (i : Nat) (w : World) (hi : i < s.size) (hs : s.size ≤ 1099511627776) :
    Calls Tryz.prog 88 #[.string s, .int .i64 i] w fun e w' => e = .returned (.tuple #[.int .i64 ((atB (s.size - i) (byt s i) (byt s (i + 1)) (byt s (i + 2)) (byt s (i + 3))).1 : Nat), .int .i64 ((atB (s.size - i) (byt s i) (byt s (i + 1)) (byt s (i + 2)) (byt s (i + 3))).2 : Nat)]) ∧ w' = w := by
  have i0 : (0 : Int) ≤ (i : Int) := by omega
  have i1 : (i : Int) < (s.size : Int) := by omega
  have s1 : (s.size : Int) ≤ 1099511627776 := by omega
  obtain ⟨b0, hb⟩ : ∃ b0, b0 = byt s i := ⟨_, rfl⟩
  have hx0 : ∀ w, (Instr.index 9 (.string s) (.int .i64 i)).run Tryz.prog w = .ok (.int .u8 b0) w := fun w => by rw [hb]; exact byt_index rfl hi w
  obtain ⟨z, hz⟩ : ∃ z, z = atB (s.size - i) (byt s i) (byt s (i + 1)) (byt s (i + 2)) (byt s (i + 3)) := ⟨_, rfl⟩
  rw [← hz]
  have hb255 := byt_le s i
  rw [← hb] at hz hb255
  have HZ : Hid (z = atB (s.size - i) b0 (byt s (i + 1)) (byt s (i + 2)) (byt s (i + 3)) ∧ i < s.size) := ⟨hz, hi⟩
  obtain ⟨n, hn⟩ : ∃ n, n = wantB b0 := ⟨_, rfl⟩
  clear hb hz hi hs
  go_enter Tryz.func88, Tryz.ntmps88
  by_cases c0 : b0 < 128
  · have HN : Hid (wantB b0 = 1) := hid (by rw [wantB, if_pos c0])
    have HR : Hid (z = (b0, 1)) := hid (by rw [HZ.out.1, atB, if_pos c0])
    clear c0 hn
    go_wp2_with (go_at_call 109; refine (wanted_calls b0 _).mono ?_; rw [HN.out]; rintro e w' ⟨rfl, hw⟩; have hw' := hw.symm; subst hw'; clear hw)
    go_ret2
    rw [HR.out]
    exact ⟨rfl, rfl⟩
  have hw : (n = 0 ∧ (b0 < 194 ∨ 244 < b0)) ∨ (194 ≤ b0 ∧ b0 ≤ 244 ∧ n = needOf b0) := by
    rw [hn, wantB, if_neg c0]
    by_cases c1 : b0 < 194 ∨ 244 < b0
    · rw [if_pos c1]; exact .inl ⟨rfl, c1⟩
    · rw [if_neg c1]; exact .inr ⟨by omega, by omega, rfl⟩
  have hn4 : n = 0 ∨ (2 ≤ n ∧ n ≤ 4) := by
    rcases hw with h | ⟨h0, h1, h2⟩
    · exact .inl h.1
    · have := need_cases h0 h1; omega
  have n1 : ((n : Int) == 1) = false := by rw [beq_eq_false_iff_ne]; omega
  have nlo : (0 : Int) ≤ (n : Int) := by omega
  have nhi : (n : Int) ≤ 4 := by omega
  have HN : Hid (wantB b0 = n) := hn.symm
  have HW : Hid (((n = 0 ∧ (b0 < 194 ∨ 244 < b0)) ∨ (194 ≤ b0 ∧ b0 ≤ 244 ∧ n = needOf b0)) ∧ (n = 0 ∨ (2 ≤ n ∧ n ≤ 4)) ∧ 128 ≤ b0) := ⟨hw, hn4, by omega⟩
  have k0 : (128 : Int) ≤ (b0 : Int) := by omega
  have kb : (b0 : Int) ≤ 255 := by omega
  clear hw hn4 c0 hn
  go_upto_block 0 with (go_at_call 109; refine (wanted_calls b0 _).mono ?_; rw [HN.out]; rintro e w' ⟨rfl, hw⟩; have hw' := hw.symm; subst hw'; clear hw)
  go_cut [8] (fun v8 wc => ∃ p : Nat, v8 = .int .i64 p ∧ wc = w ∧ p ≤ 255 ∧ Hid (2 ≤ n → p = startB b0))
  case first =>
    by_cases c2 : n = 2
    · subst c2
      have HR : Hid (194 ≤ b0 ∧ b0 - 192 = startB b0) := hid (by
        have h := HW.out
        have h1 : 194 ≤ b0 := by omega
        refine ⟨h1, ?_⟩
        rw [startB, if_pos (by omega)])
      go_wp2
      go_meet
      case rel =>
        have h := HR.out
        exact ⟨b0 - 192, by congr 1; omega, rfl, by omega, hid (fun _ => h.2)⟩
    have m2 : ((n : Int) == 2) = false := by rw [beq_eq_false_iff_ne]; omega
    by_cases c3 : n = 3
    · subst c3
      have HR : Hid (224 ≤ b0 ∧ b0 - 224 = startB b0) := hid (by
        have h := HW.out
        have h1 := need_cases (b := b0) (by omega) (by omega)
        refine ⟨by omega, ?_⟩
        rw [startB, if_neg (by omega), if_pos (by omega)])
      clear c2
      go_wp2
      go_meet
      case rel =>
        have h := HR.out
        exact ⟨b0 - 224, by congr 1; omega, rfl, by omega, hid (fun _ => h.2)⟩
    have m3 : ((n : Int) == 3) = false := by rw [beq_eq_false_iff_ne]; omega
    by_cases c4 : n = 4
    · subst c4
      have HR : Hid (240 ≤ b0 ∧ b0 - 240 = startB b0) := hid (by
        have h := HW.out
        have h1 := need_cases (b := b0) (by omega) (by omega)
        refine ⟨by omega, ?_⟩
        rw [startB, if_neg (by omega), if_neg (by omega)])
      clear c2 c3
      go_wp2
      go_meet
      case rel =>
        have h := HR.out
        exact ⟨b0 - 240, by congr 1; omega, rfl, by omega, hid (fun _ => h.2)⟩
    have m4 : ((n : Int) == 4) = false := by rw [beq_eq_false_iff_ne]; omega
    have HR : Hid (n = 0) := hid (by have h := HW.out; omega)
    clear c2 c3 c4
    go_wp2
    go_meet
    case rel => exact ⟨b0, rfl, rfl, by omega, hid (fun h => by have := HR.out; omega)⟩
  case rest =>
    obtain ⟨p, rfl, rfl, hp, HP⟩ := hcut
    go_wp2
    go_loopw [8, 9] (fun v8 v9 wr => ∃ p k : Nat, v8 = .int .i64 p ∧ v9 = .int .i64 k ∧ wr = wc ∧ 1 ≤ k ∧ k ≤ 4 ∧ p ≤ 1099511627776 ∧ Hid ((n = 0 ∧ k = 1) ∨ (k ≤ n ∧ AtK (s.size - i) b0 (byt s (i + 1)) (byt s (i + 2)) (byt s (i + 3)) k p))) (fun _ v9 _ => 5 - (intOf v9).toNat)
    case atStart =>
      refine ⟨p, 1, rfl, rfl, rfl, by omega, by omega, by omega, hid ?_⟩
      have h := HW.out
      by_cases c : n = 0
      · exact .inl ⟨c, rfl⟩
      · have := HZ.out.2
        exact .inr ⟨by omega, ⟨by omega, by omega, by omega, fun h => by omega, fun h => by omega, fun h => by omega, fun _ => HP.out (by omega), fun h => by omega, fun h => by omega, fun h => by omega⟩⟩
    case round =>
      obtain ⟨p, k, rfl, rfl, rfl, q1, q4, hp2, HK⟩ := hrel
      have j0 : (0 : Int) ≤ (k : Int) := by omega
      have j4 : (k : Int) ≤ 4 := by omega
      have p0 : (0 : Int) ≤ (p : Int) := by omega
      have p1 : (p : Int) ≤ 1099511627776 := by omega
      clear hp HP
      by_cases hlt : k < n
      · have HA : Hid (AtK (s.size - i) b0 (byt s (i + 1)) (byt s (i + 2)) (byt s (i + 3)) k p ∧ 194 ≤ b0 ∧ b0 ≤ 244 ∧ n = needOf b0 ∧ k < n) := hid (by
          have h := HW.out
          rcases HK.out with h1 | ⟨_, h1⟩
          · omega
          · exact ⟨h1, by omega, by omega, by omega, hlt⟩)
        have j1 : (k : Int) < (n : Int) := by omega
        clear hlt HK
        by_cases hr : i + k < s.size
        · have r1 : (i : Int) + (k : Int) < (s.size : Int) := by omega
          have HI : Hid (i + k < s.size ∧ k < s.size - i) := ⟨hr, by omega⟩
          obtain ⟨b, hb⟩ : ∃ b, b = byt s (i + k) := ⟨_, rfl⟩
          have HB : Hid (b = byt s (i + k)) := hb
          clear hr hb
          by_cases hg : 128 ≤ b ∧ b ≤ 191
          · obtain ⟨q, hq⟩ : ∃ q, b = q + 128 := ⟨b - 128, by omega⟩
            have HQ : Hid (byt s (i + k) = q + 128 ∧ q < 64) := hid ⟨by rw [← HB.out, hq], by omega⟩
            have q0 : (0 : Int) ≤ (q : Int) := by omega
            have q64 : (q : Int) < 64 := by omega
            clear hq hg HB
            by_cases hk : k = 1
            · subst hk
              by_cases hm : mayB b0 q = true
              · have HM : Hid (mayB b0 q = true) := hm
                clear hm
                go_wp2_with (first
                  | (go_at_call 110; refine (tail_good s _ (i + 1) q _ (by omega) HI.out.1 HQ.out.1 HQ.out.2).mono ?_; rintro e w' ⟨rfl, hw⟩; have hw' := hw.symm; subst hw'; clear hw)
                  | (go_at_call 111; refine (may_calls b0 q _).mono ?_; rw [HM.out]; rintro e w' ⟨rfl, hw⟩; have hw' := hw.symm; subst hw'; clear hw))
                go_roundw
                case rel =>
                  have h1 := HA.out
                  have h2 := HI.out
                  have h3 := HQ.out
                  have h4 := may_low (c := b0) (b := byt s (i + 1)) (by omega) (by omega)
                  rw [h3.1, Nat.add_sub_cancel] at h4
                  have hn := h1.1.next (b := byt s (i + 1)) (q := q) (by omega) h2.2 h3.1 h3.2 (fun _ => ⟨rfl, by rw [h3.1]; exact h4.1 HM.out⟩) (fun h => by omega) (fun h => by omega)
                  exact ⟨p * 64 + q, 2, by go_num, by go_num, trivial, by omega, by omega, hn.small (byt_le _ _) (byt_le _ _) (byt_le _ _) (by omega), hid (.inr ⟨by omega, hn⟩)⟩
                case measure => simp [intOf]
              · have HM : Hid (mayB b0 q = false) := hid (by simpa using hm)
                have HR : Hid (z = (65533, 1)) := hid (by
                  have h1 := HA.out
                  have h2 := HI.out
                  have h3 := HQ.out
                  have h4 := may_low (c := b0) (b := byt s (i + 1)) (by omega) (by omega)
                  rw [h3.1, Nat.add_sub_cancel] at h4
                  rw [HZ.out.1]
                  refine h1.1.bad1 h1.2.1 h1.2.2.1 h2.2 ?_
                  rw [h3.1]
                  exact Classical.not_not.1 (fun h => hm (h4.2 h)))
                clear hm
                go_wp2_with (first
                  | (go_at_call 110; refine (tail_good s _ (i + 1) q _ (by omega) HI.out.1 HQ.out.1 HQ.out.2).mono ?_; rintro e w' ⟨rfl, hw⟩; have hw' := hw.symm; subst hw'; clear hw)
                  | (go_at_call 111; refine (may_calls b0 q _).mono ?_; rw [HM.out]; rintro e w' ⟨rfl, hw⟩; have hw' := hw.symm; subst hw'; clear hw))
                go_ret2
                rw [HR.out]
                exact ⟨rfl, rfl⟩
            · have HK1 : Hid (k ≠ 1) := hk
              have hk1 : ((k : Int) == 1) = false := by rw [beq_eq_false_iff_ne]; omega
              clear hk
              go_wp2_with (go_at_call 110; refine (tail_good s _ (i + k) q _ (by omega) HI.out.1 HQ.out.1 HQ.out.2).mono ?_; rintro e w' ⟨rfl, hw⟩; have hw' := hw.symm; subst hw'; clear hw)
              go_roundw
              case rel =>
                have h1 := HA.out
                have h2 := HI.out
                have h3 := HQ.out
                have hn4 := need_cases h1.2.1 h1.2.2.1
                have hn := h1.1.next (b := byt s (i + k)) (q := q) (by omega) h2.2 h3.1 h3.2 (fun h => absurd h HK1.out) (fun h => by rw [h]) (fun h => by rw [h])
                exact ⟨p * 64 + q, k + 1, by go_num, by go_num, trivial, by omega, by omega, hn.small (byt_le _ _) (byt_le _ _) (byt_le _ _) (by omega), hid (.inr ⟨by omega, hn⟩)⟩
              case measure => simp [intOf]; omega
          · have HR : Hid (z = (65533, 1)) := hid (by
              have h1 := HA.out
              have h2 := HI.out
              have h3 := HB.out
              rw [HZ.out.1]
              by_cases hk : k = 1
              · subst hk
                exact h1.1.bad1 h1.2.1 h1.2.2.1 h2.2 ((second _ _).2 (by omega))
              · exact h1.1.bad (b := b) h1.2.1 h1.2.2.1 (by omega) (by omega) h2.2 (fun h => by rw [h3, h]) (fun h => by rw [h3, h]) (by omega))
            have HB2 : Hid (byt s (i + k) = b ∧ (b < 128 ∨ 191 < b)) := hid ⟨HB.out.symm, by omega⟩
            clear hg HB
            go_wp2_with (go_at_call 110; refine (tail_bad s _ (i + k) b _ (by omega) HI.out.1 HB2.out.1 HB2.out.2).mono ?_; rintro e w' ⟨rfl, hw⟩; have hw' := hw.symm; subst hw'; clear hw)
            go_ret2
            rw [HR.out]
            exact ⟨rfl, rfl⟩
        · have r1 : (s.size : Int) ≤ (i : Int) + (k : Int) := by omega
          have HR : Hid (z = (0, 0)) := hid (by
            have h1 := HA.out
            rw [HZ.out.1]
            exact h1.1.short h1.2.1 h1.2.2.1 (by omega) (by omega))
          clear hr
          go_wp2
          go_ret2
          rw [HR.out]
          exact ⟨rfl, rfl⟩
      · have j1 : (n : Int) ≤ (k : Int) := by omega
        by_cases c : n = 0
        · have HR : Hid (z = (65533, 1)) := hid (by
            have h := HW.out
            rw [HZ.out.1, atB, if_neg (by omega), if_pos]
            rcases h.1 with ⟨_, h2⟩ | ⟨h0, h1, h2⟩
            · exact h2
            · have := need_cases h0 h1
              omega)
          subst c
          clear hlt HK
          go_wp2
          go_ret2
          rw [HR.out]
          exact ⟨rfl, rfl⟩
        · have n0 : ((n : Int) == 0) = false := by rw [beq_eq_false_iff_ne]; omega
          have HR : Hid (z = (p, n)) := hid (by
            have h := HW.out
            rcases HK.out with h1 | ⟨h2, h1⟩
            · omega
            · obtain rfl : k = n := by omega
              rw [HZ.out.1]
              exact h1.full (by omega) (by omega) (by omega))
          clear hlt HK c
          go_wp2
          go_ret2
          rw [HR.out]
          exact ⟨rfl, rfl⟩

end Go.Proofs.YtmhaknejeobfgabGreatDoor

/- Ref3. -/
namespace Go.Proofs.YtmhaknejeobfgabGreatDoor
open Go.RowKit Go.Proofs.YtmhaknejeobfgabGreatDoor.Stable Go.Proofs.YtmhaknejeobfgabGreatDoor.Order Go.Proofs.YtmhaknejeobfgabGreatDoor.Points
open Go.Lib (decodeL decodeL_width)
attribute [local go_sem ↓] Go.wp_at_zero Go.wp_at_succ

theorem drop_byt (s : ByteArray) (i j : Nat) : ((s.data.toList.drop i).getD j 0).toNat = byt s (i + j) := by
  unfold byt
  rw [List.getD_eq_getElem?_getD, List.getElem?_drop, ← List.getD_eq_getElem?_getD]

theorem atL_byt (s : ByteArray) (i : Nat) : atB (s.size - i) (byt s i) (byt s (i + 1)) (byt s (i + 2)) (byt s (i + 3)) = atL (s.data.toList.drop i) := by
  unfold atL
  rw [drop_byt, drop_byt, drop_byt, drop_byt, List.length_drop, ← Lib.size_eq]
  rfl

/-- The code points, each with its place; where the text has not ended, a beginning at its end is none. -/
def ptsRF (ended : Bool) : Nat → Nat → List UInt8 → List (Nat × Int)
  | 0, _, _ => []
  | n + 1, o, l => if l = [] then [] else if (atL l).2 = 0 ∧ ended = false then [] else (o, ((decodeL l).1 : Int)) :: ptsRF ended n (o + (decodeL l).2) (l.drop (decodeL l).2)

def ptsR (ended : Bool) (o : Nat) (l : List UInt8) : List (Nat × Int) := ptsRF ended l.length o l

theorem ptsRF_nil (ended : Bool) : ∀ n o, ptsRF ended n o [] = []
  | 0, _ => rfl
  | _ + 1, _ => by simp [ptsRF]

theorem ptsRF_fuel (ended : Bool) : ∀ (n m o : Nat) (l : List UInt8), l.length ≤ n → l.length ≤ m → ptsRF ended n o l = ptsRF ended m o l
  | 0, m, o, l, hn, _ => by
    have : l = [] := List.eq_nil_of_length_eq_zero (by omega)
    subst this
    rw [ptsRF_nil, ptsRF_nil]
  | n + 1, 0, o, l, _, hm => by
    have : l = [] := List.eq_nil_of_length_eq_zero (by omega)
    subst this
    rw [ptsRF_nil, ptsRF_nil]
  | n + 1, m + 1, o, l, hn, hm => by
    unfold ptsRF
    by_cases hne : l = []
    · rw [if_pos hne, if_pos hne]
    · rw [if_neg hne, if_neg hne]
      by_cases hz : (atL l).2 = 0 ∧ ended = false
      · rw [if_pos hz, if_pos hz]
      · rw [if_neg hz, if_neg hz]
        have hw := decodeL_width l
        rw [ptsRF_fuel ended n m _ _ (by rw [List.length_drop]; omega) (by rw [List.length_drop]; omega)]

theorem ptsR_nil (ended : Bool) (o : Nat) : ptsR ended o [] = [] := rfl

theorem ptsR_step (ended : Bool) (o : Nat) (l : List UInt8) (hne : l ≠ []) : ptsR ended o l = if (atL l).2 = 0 ∧ ended = false then [] else (o, ((decodeL l).1 : Int)) :: ptsR ended (o + (decodeL l).2) (l.drop (decodeL l).2) := by
  have hw := decodeL_width l
  have hl : 0 < l.length := List.length_pos_iff.2 hne
  obtain ⟨n, hn⟩ : ∃ n, l.length = n + 1 := ⟨l.length - 1, by omega⟩
  unfold ptsR
  rw [hn]
  simp only [ptsRF, if_neg hne]
  split
  · rfl
  · rw [ptsRF_fuel ended n _ _ _ (by rw [List.length_drop]; omega) (Nat.le_refl _)]

theorem ptsR_ended : ∀ (n o : Nat) (l : List UInt8), l.length ≤ n → ptsR true o l = pts o l
  | 0, o, l, hn => by
    have : l = [] := List.eq_nil_of_length_eq_zero (by omega)
    subst this
    rfl
  | n + 1, o, l, hn => by
    by_cases hne : l = []
    · subst hne; rfl
    · have hw := decodeL_width l
      rw [ptsR_step true o l hne, pts_step o l hne, if_neg (fun h => by cases h.2), ptsR_ended n _ _ (by rw [List.length_drop]; omega)]

/-- Where the loop stands. -/
structure PtsAt (w wr : World) (ended : Bool) (s : ByteArray) (i : Nat) (acc : List (Nat × Int)) (a : Option Addr) (cp : Nat) (a2 : Option Addr) (cp2 : Nat) : Prop where
  r1 : Row wr w.heap.size a cp (acc.map fun p => p.2)
  r2 : Row wr w.heap.size a2 cp2 (acc.map fun p => (p.1 : Int))
  ap : Apart2 a a2
  fr : Fr (fun _ => False) w wr
  le : i ≤ s.size
  len : acc.length ≤ i
  eq : acc ++ ptsR ended i (s.data.toList.drop i) = ptsR ended 0 s.data.toList

theorem PtsAt.step {w wr w1 w2 : World} {ended : Bool} {s : ByteArray} {i : Nat} {acc : List (Nat × Int)} {a : Option Addr} {cp : Nat} {a2 : Option Addr} {cp2 : Nat} (h : PtsAt w wr ended s i acc a cp a2 cp2) {o1 o2 : Obj} {v1 v2 : Value} {c : Int} {d : Nat}
    (g1 : (wr.alloc o1).grownBy w1 (Value.slice a acc.length cp).ownBlock) (l1 : v1.ownBlock = (Value.slice a acc.length cp).ownBlock ∨ v1.ownBlock = some (wr.heap.size + 1))
    (k1 : w1.ownsRow w.heap.size 3 1 v1 (acc.length + 1) (ints (acc.map fun p => p.2) ++ [.int .i64 c]))
    (g2 : (w1.alloc o2).grownBy w2 (Value.slice a2 acc.length cp2).ownBlock) (l2 : v2.ownBlock = (Value.slice a2 acc.length cp2).ownBlock ∨ v2.ownBlock = some (w1.heap.size + 1))
    (k2 : w2.ownsRow w.heap.size 3 1 v2 (acc.length + 1) (ints (acc.map fun p => (p.1 : Int)) ++ [.int .i64 i]))
    (hd : i + d ≤ s.size) (hd1 : 1 ≤ d) (he : (acc ++ [(i, c)]) ++ ptsR ended (i + d) (s.data.toList.drop (i + d)) = ptsR ended 0 s.data.toList) :
    ∃ a' c' b' d', v1 = .slice a' (acc.length + 1) c' ∧ v2 = .slice b' (acc.length + 1) d' ∧ PtsAt w w2 ended s (i + d) (acc ++ [(i, c)]) a' c' b' d' := by
  have m1 := Row.more (l := acc.map fun p => p.2) (xs := [c]) (n := 1) (v' := v1) (w' := w1) (base := w.heap.size) (by simpa [ints] using k1) rfl
  have m2 := Row.more (l := acc.map fun p => (p.1 : Int)) (xs := [(i : Int)]) (n := 1) (v' := v2) (w' := w2) (base := w.heap.size) (by simpa [ints] using k2) rfl
  obtain ⟨a', c', rfl, m1⟩ := m1
  obtain ⟨b', d', rfl, m2⟩ := m2
  have hs := h.fr.size
  have f1 : Fr (fun _ => False) w w1 := grown_new (h.fr.alloc o1) (h.r1.keep ((Fr.refl _ _).alloc o1)) (Nat.le_refl _) g1
  have r2' : Row w1 w.heap.size a2 cp2 (acc.map fun p => (p.1 : Int)) := (h.r2.keep ((Fr.refl _ _).alloc o1)).kept (grown_fr g1) (fun x hx e => by
    cases a with
    | none => cases e
    | some y =>
      have e' : x.block = y.block := by simpa using e
      exact h.ap y x rfl hx e'.symm)
  have f2 : Fr (fun _ => False) w w2 := grown_new (f1.alloc o2) (r2'.keep ((Fr.refl _ _).alloc o2)) (Nat.le_refl _) g2
  rw [own_slice, own_slice] at l1 l2
  have s1 : (wr.alloc o1).heap.size = wr.heap.size + 1 := by simp
  have s2 : (w1.alloc o2).heap.size = w1.heap.size + 1 := by simp
  have z1 := g1.size
  refine ⟨a', c', b', d', by simp, by simp, ?_, ?_, ?_, f2, hd, by have := h.len; simp; omega, he⟩
  · have hr : Row w2 w.heap.size a' c' (acc.map (fun p => p.2) ++ [c]) := (m1.keep ((Fr.refl _ _).alloc o2)).kept (grown_fr g2) (fun x hx e => by
      cases a2 with
      | none => cases e
      | some y =>
        have e' : x.block = y.block := by simpa using e
        have hy := (h.r2.lt rfl).2
        rw [hx] at l1
        rcases l1 with l1 | l1
        · cases a with
          | none => cases l1
          | some z =>
            have e2 : x.block = z.block := by simpa using l1
            exact h.ap z y rfl rfl (by omega)
        · have e2 : x.block = wr.heap.size + 1 := by simpa using l1
          omega)
    simpa using hr
  · simpa using m2
  · intro x y hx hy e
    have hx2 := (m1.lt hx).2
    rw [hy] at l2
    rw [hx] at l1
    rcases l2 with l2 | l2
    · cases a2 with
      | none => cases l2
      | some y2 =>
        have e2 : y.block = y2.block := by simpa using l2
        have hy2 := (h.r2.lt rfl).2
        rcases l1 with l1 | l1
        · cases a with
          | none => cases l1
          | some z =>
            have e3 : x.block = z.block := by simpa using l1
            exact h.ap z y2 rfl rfl (by omega)
        · have e3 : x.block = wr.heap.size + 1 := by simpa using l1
          omega
    · have e2 : y.block = w1.heap.size + 1 := by simpa using l2
      omega

structure PtsOut (w wr : World) (acc : List (Nat × Int)) (a : Option Addr) (cp : Nat) (a2 : Option Addr) (cp2 : Nat) : Prop where
  r1 : Row wr w.heap.size a cp (acc.map fun p => p.2)
  r2 : Row wr w.heap.size a2 cp2 (acc.map fun p => (p.1 : Int))
  fr : Fr (fun _ => False) w wr

theorem PtsAt.second {w wr w1 : World} {ended : Bool} {s : ByteArray} {i : Nat} {acc : List (Nat × Int)} {a : Option Addr} {cp : Nat} {a2 : Option Addr} {cp2 : Nat} (h : PtsAt w wr ended s i acc a cp a2 cp2) {o1 : Obj} (g1 : (wr.alloc o1).grownBy w1 (Value.slice a acc.length cp).ownBlock) (o2 : Obj) : (w1.alloc o2).ownsRow w.heap.size 3 1 (.slice a2 acc.length cp2) acc.length (ints (acc.map fun p => (p.1 : Int))) := by
  have r2' : Row w1 w.heap.size a2 cp2 (acc.map fun p => (p.1 : Int)) := (h.r2.keep ((Fr.refl _ _).alloc o1)).kept (grown_fr g1) (fun x hx e => by
    cases a with
    | none => cases e
    | some y =>
      have e' : x.block = y.block := by simpa using e
      exact h.ap y x rfl hx e'.symm)
  have h := r2'.keep ((Fr.refl _ _).alloc o2)
  unfold Row at h
  rw [List.length_map] at h
  exact h

set_option maxRecDepth 100000 in
set_option maxHeartbeats 1600000 in
theorem points_calls (s : ByteArray) (ended : Bool) (w : World) (hs : s.size ≤ 1099511627776) :
    Calls Tryz.prog 62 #[.string s, .bool ended] w fun e w' => ∃ a cp a2 cp2, e = .returned (.tuple #[.slice a (ptsR ended 0 s.data.toList).length cp, .slice a2 (ptsR ended 0 s.data.toList).length cp2]) ∧ PtsOut w w' (ptsR ended 0 s.data.toList) a cp a2 cp2 := by
  obtain ⟨i0, hi0, hz0, hz1, hz2⟩ := info_parts Tryz.info_int
  have HI : Hid (Tryz.prog.info? 3 = some i0 ∧ i0.zero = some (.int .i64 0) ∧ i0.size = 1 ∧ i0.bytes = 8) := ⟨hi0, hz0, hz1, hz2⟩
  have s1 : (s.size : Int) ≤ 1099511627776 := by omega
  have HS : Hid (s.size ≤ 1099511627776) := hs
  clear hs hi0 hz0 hz1 hz2
  go_enter Tryz.func62, Tryz.ntmps62
  go_wp2
  go_loopw [6, 7, 8] (fun v6 v7 v8 wr => ∃ (a a2 : Option Addr) (cp cp2 i : Nat) (acc : List (Nat × Int)), v6 = .slice a acc.length cp ∧ v7 = .slice a2 acc.length cp2 ∧ v8 = .int .i64 i ∧ Hid (PtsAt w wr ended s i acc a cp a2 cp2)) (fun _ _ v8 _ => s.size - (intOf v8).toNat)
  case atStart => exact ⟨none, none, 0, 0, 0, [], rfl, rfl, rfl, hid ⟨Row.none _ _, Row.none _ _, (fun x y h => by cases h), Fr.refl _ _, Nat.zero_le _, Nat.le_refl _, rfl⟩⟩
  case round =>
    obtain ⟨a, a2, cp, cp2, i, acc, rfl, rfl, rfl, HH⟩ := hrel
    have j0 : (0 : Int) ≤ (i : Int) := by omega
    by_cases hlt : i < s.size
    · have j1 : (i : Int) < (s.size : Int) := by omega
      obtain ⟨z, hz⟩ : ∃ z, z = atL (s.data.toList.drop i) := ⟨_, rfl⟩
      have hne : s.data.toList.drop i ≠ [] := fun e => by
        have := congrArg List.length e
        rw [List.length_drop, ← Lib.size_eq] at this
        simp at this
        omega
      have hst := ptsR_step ended i _ hne
      have hdl := Lib.decodeL_le _ hne
      have hdw := decodeL_width (s.data.toList.drop i)
      rw [List.length_drop, ← Lib.size_eq] at hdl
      have hfx := atL_dec (s.data.toList.drop i)
      rw [← hz] at hst hfx
      have HZ : Hid (atB (s.size - i) (byt s i) (byt s (i + 1)) (byt s (i + 2)) (byt s (i + 3)) = z ∧ i < s.size) := hid ⟨by rw [atL_byt, hz], hlt⟩
      clear hz hlt hne
      by_cases hn : z.2 = 0
      · cases ended with
        | false =>
          rw [if_pos ⟨hn, rfl⟩] at hst
          have HN : Hid (z.2 = 0 ∧ acc = ptsR false 0 s.data.toList) := hid ⟨hn, by
            have h := HH.out.eq
            rw [hst, List.append_nil] at h
            exact h⟩
          clear hst hdl hfx hn hdw
          go_wp2_with (go_at_call 88; refine (at_calls s i _ HZ.out.2 HS.out).mono ?_; rw [HZ.out.1, HN.out.1]; rintro e w' ⟨rfl, hw⟩; have hw' := hw.symm; subst hw'; clear hw)
          go_ret2
          rw [← HN.out.2]
          have h := HH.out
          exact ⟨a, cp, a2, cp2, rfl, h.r1, h.r2, h.fr⟩
        | true =>
          rw [if_neg (fun h => by cases h.2)] at hst
          have hde : Lib.decodeL (s.data.toList.drop i) = (65533, 1) := by rw [← hfx]; unfold fixA; rw [if_pos hn]
          rw [hde] at hst hdl
          have HN : Hid (z.2 = 0 ∧ i + 1 ≤ s.size ∧ 1 ≤ 1 ∧ (acc ++ [(i, (65533 : Int))]) ++ ptsR true (i + 1) (s.data.toList.drop (i + 1)) = ptsR true 0 s.data.toList) := hid ⟨hn, by omega, by omega, by
            have h := HH.out.eq
            rw [hst, List.drop_drop] at h
            rw [List.append_assoc]
            exact h⟩
          clear hst hdl hfx hn hde hdw
          go_wp2_with (first
            | (go_at_call 88; refine (at_calls s i _ HZ.out.2 HS.out).mono ?_; rw [HZ.out.1, HN.out.1]; rintro e w' ⟨rfl, hw⟩; have hw' := hw.symm; subst hw'; clear hw)
            | (at_builtin; refine wpList_append_own_at _ rfl _ _ 31 rfl w.heap.size 3 i0 (.int .i64 0) 1 8 Tryz.underlying31 HI.out.1 HI.out.2.1 HI.out.2.2.1 HI.out.2.2.2 rfl (by decide) (.slice a acc.length cp) acc.length (ints (acc.map fun p => p.2)) rfl ?own ⟨wr.heap.size, 0, none⟩ 1 1 [.int .i64 65533] rfl rfl (cell_one_new _ _ _) (by intro u hu; simp at hu; subst hu; rfl) ?len ?bytes ?base ?grow))
          case own =>
            have h := HH.out.r1.keep ((Fr.refl (fun _ => False) wr).alloc (Obj.cells #[.int .i64 65533] 3))
            unfold Row at h
            rw [List.length_map] at h
            exact h
          case len =>
            have h1 := HH.out.len
            have h2 := HH.out.le
            have h3 := HS.out
            unfold maxLen
            omega
          case bytes =>
            have h1 := HH.out.len
            have h2 := HH.out.le
            have h3 := HS.out
            omega
          case base =>
            have h1 := HH.out.fr.size
            simp
            omega
          case grow =>
            intro v1 w1 k1 g1 _ l1
            obtain ⟨x1, y1, rfl⟩ := row_form k1
            have HG : Hid ((wr.alloc (Obj.cells #[.int .i64 65533] 3)).grownBy w1 (Value.slice a acc.length cp).ownBlock ∧ ((Value.slice x1 (acc.length + 1) y1).ownBlock = (Value.slice a acc.length cp).ownBlock ∨ (Value.slice x1 (acc.length + 1) y1).ownBlock = some (wr.heap.size + 1)) ∧ w1.ownsRow w.heap.size 3 1 (.slice x1 (acc.length + 1) y1) (acc.length + 1) (ints (acc.map fun p => p.2) ++ [.int .i64 65533])) := ⟨g1, l1, k1⟩
            clear k1 g1 l1
            go_wp2_with (at_builtin; refine wpList_append_own_at _ rfl _ _ 31 rfl w.heap.size 3 i0 (.int .i64 0) 1 8 Tryz.underlying31 HI.out.1 HI.out.2.1 HI.out.2.2.1 HI.out.2.2.2 rfl (by decide) (.slice a2 acc.length cp2) acc.length (ints (acc.map fun p => (p.1 : Int))) rfl ?own2 ⟨w1.heap.size, 0, none⟩ 1 1 [.int .i64 i] rfl rfl (cell_one_new _ _ _) (by intro u hu; simp at hu; subst hu; rfl) ?len2 ?bytes2 ?base2 ?grow2)
            case own2 =>
              have h := HH.out.second HG.out.1 (Obj.cells #[.int .i64 i] 3)
              exact h
            case len2 =>
              have h1 := HH.out.len
              have h2 := HH.out.le
              have h3 := HS.out
              unfold maxLen
              omega
            case bytes2 =>
              have h1 := HH.out.len
              have h2 := HH.out.le
              have h3 := HS.out
              omega
            case base2 =>
              have h1 := HH.out.fr.size
              have h2 := HG.out.1.size
              simp at h2 ⊢
              omega
            case grow2 =>
              intro v2 w2 k2 g2 _ l2
              have hst := HH.out.step HG.out.1 HG.out.2.1 HG.out.2.2 g2 l2 k2 HN.out.2.1 HN.out.2.2.1 HN.out.2.2.2
              obtain ⟨a', c', b', d', e1, rfl, HP0⟩ := hst
              cases e1
              have HP : Hid (PtsAt w w2 true s (i + 1) (acc ++ [(i, 65533)]) x1 y1 b' d') := HP0
              have d0 : (0 : Int) ≤ 1 := by omega
              have d1 : (i : Int) + 1 ≤ (s.size : Int) := by have := HN.out.2.1; omega
              clear HP0 k2 g2 l2
              go_wp2
              go_roundw
              case rel => exact ⟨x1, b', y1, d', i + 1, acc ++ [(i, 65533)], by simp, by simp, by go_num, HP⟩
              case measure =>
                have h := HN.out
                simp [intOf]
                omega
      · have hde : Lib.decodeL (s.data.toList.drop i) = z := by rw [← hfx]; unfold fixA; rw [if_neg hn]
        rw [if_neg (fun h => hn h.1), hde] at hst
        rw [hde] at hdl hdw
        have z0 : ((z.2 : Int) == 0) = false := by rw [beq_eq_false_iff_ne]; omega
        have HN : Hid (z.2 ≠ 0 ∧ i + z.2 ≤ s.size ∧ 1 ≤ z.2 ∧ (acc ++ [(i, (z.1 : Int))]) ++ ptsR ended (i + z.2) (s.data.toList.drop (i + z.2)) = ptsR ended 0 s.data.toList) := hid ⟨hn, by omega, by omega, by
          have h := HH.out.eq
          rw [hst, List.drop_drop] at h
          rw [List.append_assoc]
          exact h⟩
        clear hst hdl hfx hn hde hdw
        go_wp2_with (first
          | (go_at_call 88; refine (at_calls s i _ HZ.out.2 HS.out).mono ?_; rw [HZ.out.1]; rintro e w' ⟨rfl, hw⟩; have hw' := hw.symm; subst hw'; clear hw)
          | (at_builtin; refine wpList_append_own_at _ rfl _ _ 31 rfl w.heap.size 3 i0 (.int .i64 0) 1 8 Tryz.underlying31 HI.out.1 HI.out.2.1 HI.out.2.2.1 HI.out.2.2.2 rfl (by decide) (.slice a acc.length cp) acc.length (ints (acc.map fun p => p.2)) rfl ?own ⟨wr.heap.size, 0, none⟩ 1 1 [.int .i64 z.1] rfl rfl (cell_one_new _ _ _) (by intro u hu; simp at hu; subst hu; rfl) ?len ?bytes ?base ?grow))
        case own =>
          have h := HH.out.r1.keep ((Fr.refl (fun _ => False) wr).alloc (Obj.cells #[.int .i64 z.1] 3))
          unfold Row at h
          rw [List.length_map] at h
          exact h
        case len =>
          have h1 := HH.out.len
          have h2 := HH.out.le
          have h3 := HS.out
          unfold maxLen
          omega
        case bytes =>
          have h1 := HH.out.len
          have h2 := HH.out.le
          have h3 := HS.out
          omega
        case base =>
          have h1 := HH.out.fr.size
          simp
          omega
        case grow =>
          intro v1 w1 k1 g1 _ l1
          obtain ⟨x1, y1, rfl⟩ := row_form k1
          have HG : Hid ((wr.alloc (Obj.cells #[.int .i64 z.1] 3)).grownBy w1 (Value.slice a acc.length cp).ownBlock ∧ ((Value.slice x1 (acc.length + 1) y1).ownBlock = (Value.slice a acc.length cp).ownBlock ∨ (Value.slice x1 (acc.length + 1) y1).ownBlock = some (wr.heap.size + 1)) ∧ w1.ownsRow w.heap.size 3 1 (.slice x1 (acc.length + 1) y1) (acc.length + 1) (ints (acc.map fun p => p.2) ++ [.int .i64 z.1])) := ⟨g1, l1, k1⟩
          clear k1 g1 l1
          go_wp2_with (at_builtin; refine wpList_append_own_at _ rfl _ _ 31 rfl w.heap.size 3 i0 (.int .i64 0) 1 8 Tryz.underlying31 HI.out.1 HI.out.2.1 HI.out.2.2.1 HI.out.2.2.2 rfl (by decide) (.slice a2 acc.length cp2) acc.length (ints (acc.map fun p => (p.1 : Int))) rfl ?own2 ⟨w1.heap.size, 0, none⟩ 1 1 [.int .i64 i] rfl rfl (cell_one_new _ _ _) (by intro u hu; simp at hu; subst hu; rfl) ?len2 ?bytes2 ?base2 ?grow2)
          case own2 =>
            have h := HH.out.second HG.out.1 (Obj.cells #[.int .i64 i] 3)
            exact h
          case len2 =>
            have h1 := HH.out.len
            have h2 := HH.out.le
            have h3 := HS.out
            unfold maxLen
            omega
          case bytes2 =>
            have h1 := HH.out.len
            have h2 := HH.out.le
            have h3 := HS.out
            omega
          case base2 =>
            have h1 := HH.out.fr.size
            have h2 := HG.out.1.size
            simp at h2 ⊢
            omega
          case grow2 =>
            intro v2 w2 k2 g2 _ l2
            have hst := HH.out.step HG.out.1 HG.out.2.1 HG.out.2.2 g2 l2 k2 HN.out.2.1 HN.out.2.2.1 HN.out.2.2.2
            obtain ⟨a', c', b', d', e1, rfl, HP0⟩ := hst
            cases e1
            have HP : Hid (PtsAt w w2 ended s (i + z.2) (acc ++ [(i, (z.1 : Int))]) x1 y1 b' d') := HP0
            have d0 : (0 : Int) ≤ (z.2 : Int) := by omega
            have d1 : (i : Int) + (z.2 : Int) ≤ (s.size : Int) := by have := HN.out.2.1; omega
            clear HP0 k2 g2 l2
            go_wp2
            go_roundw
            case rel => exact ⟨x1, b', y1, d', i + z.2, acc ++ [(i, (z.1 : Int))], by simp, by simp, by go_num, HP⟩
            case measure =>
              have h := HN.out
              simp [intOf]
              omega
    · have j1 : (s.size : Int) ≤ (i : Int) := by omega
      have HN : Hid (acc = ptsR ended 0 s.data.toList) := hid (by
        have h := HH.out.eq
        rw [List.drop_eq_nil_of_le (by rw [← Lib.size_eq]; omega), ptsR_nil, List.append_nil] at h
        exact h)
      clear hlt
      go_wp2
      go_ret2
      rw [← HN.out]
      have h := HH.out
      exact ⟨a, cp, a2, cp2, rfl, h.r1, h.r2, h.fr⟩

end Go.Proofs.YtmhaknejeobfgabGreatDoor

/- Ref4. -/
namespace Go.Proofs.YtmhaknejeobfgabGreatDoor
open Go.RowKit Go.Proofs.YtmhaknejeobfgabGreatDoor.Stable Go.Proofs.YtmhaknejeobfgabGreatDoor.Order Go.Proofs.YtmhaknejeobfgabGreatDoor.Points
attribute [local go_sem ↓] Go.wp_at_zero Go.wp_at_succ

theorem add_is3 {a b c : ByteArray} (h : c.data.toList = a.data.toList ++ b.data.toList) (hs : c.data.toList.length ≤ 1099511627776) (w : World) : (Op.stringOp .add a b).run Tryz.prog w = .ok (.string c) w := by
  have e : a ++ b = c := by
    have e : (a ++ b).data = c.data := Array.toList_inj.1 (by rw [h]; simp)
    cases hab : a ++ b; cases c
    rw [hab] at e
    simp at e
    rw [e]
  rw [run_string_add_sum w a b ?_, e]
  rw [Lib.size_eq, Lib.size_eq]
  rw [h, List.length_append] at hs
  omega

/-- Bytes that were just laid, as a text. -/
theorem new_text {n : Nat} {cs : Array Value} {bs : List UInt8} {zs : List Int} (hb : bs = zs.map fun z => z.toNat.toUInt8) (hz : ∀ z ∈ zs, 0 ≤ z ∧ z ≤ 255) (hc : cs.toList = zs.map (Value.int .u8)) (hn : zs.length = n) (hm : n ≤ 4) (w : World) : (convert 96 9 (.slice (some ⟨w.heap.size, 0, none⟩) n n)).run Tryz.prog (w.alloc (.cells cs 5)) = .ok (.string ⟨bs.toArray⟩) (w.alloc (.cells cs 5)) := by
  have hcs : cs.toList = Lib.byteCells bs := by
    rw [hc, hb]
    unfold Lib.byteCells
    rw [List.map_map]
    refine List.map_congr_left (fun z hzm => ?_)
    have h := hz z hzm
    have e := u8 (z := z) (n := z.toNat) (by omega) (by omega)
    simp only [Function.comp]
    rw [e]
    congr 1
    omega
  have hl : bs.length = n := by rw [hb, List.length_map, hn]
  have hsz : cs.size = n := by rw [← Array.length_toList, hc, List.length_map, hn]
  clear hn
  subst hl
  have hB : Buf (w.alloc (.cells cs 5)) 0 (.slice (some ⟨w.heap.size, 0, none⟩) bs.length bs.length) bs := by
    refine ⟨by simp [Lib.byteCells], .inr ⟨w.heap.size, bs.length, cs, rfl, Nat.zero_le _, heap_alloc_new w _, Nat.le_refl _, by unfold maxLen; omega, hsz.trans (Nat.mul_one _).symm, ?_⟩⟩
    rw [hcs, List.take_of_length_le]
    simp [Lib.byteCells]
  exact hB.text

theorem utf8_take {l : List Int} {i : Nat} {c : Int} (h : l[i]? = some c) : utf8 (l.take (i + 1)) = utf8 (l.take i) ++ Lib.encodeRune c := by
  have hl := (List.getElem?_eq_some_iff.1 h).1
  rw [List.take_add_one, h, utf8_append]
  simp [utf8]

/-- The text so far, and a code point more. -/
theorem text_more {l : List Int} {i : Nat} {c : Int} {t : ByteArray} (h : l[i]? = some c) (ht : t.data.toList = utf8 (l.take i)) (hl : l.length ≤ 274877906944) : ∃ t2 : ByteArray, t2.data.toList = utf8 (l.take (i + 1)) ∧ ∀ w : World, (Op.stringOp .add t ⟨(Lib.encodeRune c).toArray⟩).run Tryz.prog w = .ok (.string t2) w := by
  refine ⟨⟨(utf8 (l.take (i + 1))).toArray⟩, rfl, fun w => add_is3 ?_ ?_ w⟩
  · show utf8 (l.take (i + 1)) = t.data.toList ++ Lib.encodeRune c
    rw [ht, utf8_take h]
  · have h1 := utf8_length (l.take (i + 1))
    have h2 := List.length_take_le (i + 1) l
    have h3 : (l.take (i + 1)).length ≤ l.length := by rw [List.length_take]; omega
    show (utf8 (l.take (i + 1))).length ≤ _
    omega

set_option maxRecDepth 100000 in
set_option maxHeartbeats 1600000 in
theorem utf8_calls (a : Option Addr) (cp : Nat) (l : List Int) (w : World) (hv : ∀ c ∈ l, Valid c) (hl : l.length ≤ 274877906944) (hI : IntsAt w a l) :
    Calls Tryz.prog 33 #[.slice a l.length cp] w fun e w' => ∃ t : ByteArray, e = .returned (.string t) ∧ t.data.toList = utf8 l ∧ Fr (fun _ => False) w w' := by
  have HI : Hid ((∀ c ∈ l, Valid c) ∧ l.length ≤ 274877906944 ∧ IntsAt w a l) := ⟨hv, hl, hI⟩
  have n1 : (l.length : Int) ≤ 274877906944 := by omega
  obtain ⟨n, hn⟩ : ∃ n, n = l.length := ⟨_, rfl⟩
  rw [← hn] at n1 ⊢
  have HN : Hid (n = l.length) := hn
  clear hv hl hI hn
  go_enter Tryz.func33, Tryz.ntmps33
  go_wp2
  go_loopw [3, 4] (fun v3 v4 wr => ∃ (t : ByteArray) (i : Nat), v3 = .string t ∧ v4 = .int .i64 i ∧ i ≤ n ∧ Hid (t.data.toList = utf8 (l.take i) ∧ Fr (fun _ => False) w wr)) (fun _ v4 _ => n - (intOf v4).toNat)
  case atStart => exact ⟨⟨#[]⟩, 0, rfl, rfl, Nat.zero_le _, hid ⟨rfl, Fr.refl _ _⟩⟩
  case round =>
    obtain ⟨t, i, rfl, rfl, hin, HT⟩ := hrel
    have j0 : (0 : Int) ≤ (i : Int) := by omega
    by_cases hlt : i < n
    · have j1 : (i : Int) < (n : Int) := by omega
      obtain ⟨c, hc⟩ : ∃ c, l[i]? = some c := ⟨_, List.getElem?_eq_getElem (by rw [← HN.out]; exact hlt)⟩
      obtain ⟨b, off, rfl, hcell⟩ := (HI.out.2.2.keep HT.out.2) i c hc
      have hval := HI.out.1 c (List.mem_of_getElem? hc)
      obtain ⟨k, rfl⟩ : ∃ k : Nat, c = (k : Int) := ⟨c.toNat, by unfold Valid at hval; omega⟩
      have k0 : (0 : Int) ≤ (k : Int) := by omega
      have k1 : (k : Int) ≤ 1114111 := by unfold Valid at hval; omega
      have HC : Hid (l[i]? = some (k : Int) ∧ Valid (k : Int)) := ⟨hc, hval⟩
      clear hc hval hlt hin
      obtain ⟨t2, ht2, hadd⟩ := text_more HC.out.1 HT.out.1 HI.out.2.1
      have HT2 : Hid (t2.data.toList = utf8 (l.take (i + 1))) := ht2
      obtain ⟨cb, hcb⟩ : ∃ cb : ByteArray, cb = ⟨(Lib.encodeRune (k : Int)).toArray⟩ := ⟨_, rfl⟩
      rw [← hcb] at hadd
      clear ht2
      by_cases c1 : k < 128
      · have m1 : (k : Int) < 128 := by omega
        have hx : ∀ w : World, (convert 96 9 (.slice (some ⟨w.heap.size, 0, none⟩) 1 1)).run Tryz.prog (w.alloc (.cells #[.int .u8 (k : Int)] 5)) = .ok (.string cb) (w.alloc (.cells #[.int .u8 (k : Int)] 5)) := fun w => by
          rw [hcb]
          exact new_text (bs := Lib.encodeRune (k : Int)) (zs := [(k : Int)]) (by unfold Lib.encodeRune; rw [Lib.encodeRuneZ_one (by omega) (by omega)]) (by intro z hz; simp at hz; omega) rfl rfl (by simp) w
        clear hcb c1
        go_wp2
        go_roundw
        case rel => exact ⟨t2, i + 1, rfl, by go_num, by omega, hid ⟨HT2.out, HT.out.2.alloc _⟩⟩
        case measure => simp [intOf]; omega
      have m1 : (128 : Int) ≤ (k : Int) := by omega
      have d1 : decide ((k : Int) < 128) = false := decide_eq_false (by omega)
      by_cases c2 : k < 2048
      · have m2 : (k : Int) < 2048 := by omega
        have hx : ∀ w : World, (convert 96 9 (.slice (some ⟨w.heap.size, 0, none⟩) 2 2)).run Tryz.prog (w.alloc (.cells #[.int .u8 (192 + (k : Int) / 64), .int .u8 (128 + (k : Int) % 64)] 5)) = .ok (.string cb) (w.alloc (.cells #[.int .u8 (192 + (k : Int) / 64), .int .u8 (128 + (k : Int) % 64)] 5)) := fun w => by
          rw [hcb]
          exact new_text (bs := Lib.encodeRune (k : Int)) (zs := [192 + (k : Int) / 64, 128 + (k : Int) % 64]) (by unfold Lib.encodeRune; rw [Lib.encodeRuneZ_two (by omega) (by omega)]) (by intro z hz; simp at hz; omega) rfl rfl (by simp) w
        clear hcb c1 c2
        go_wp2
        go_roundw
        case rel => exact ⟨t2, i + 1, rfl, by go_num, by omega, hid ⟨HT2.out, HT.out.2.alloc _⟩⟩
        case measure => simp [intOf]; omega
      have m2 : (2048 : Int) ≤ (k : Int) := by omega
      have d2 : decide ((k : Int) < 2048) = false := decide_eq_false (by omega)
      by_cases c3 : k < 65536
      · have m3 : (k : Int) < 65536 := by omega
        obtain ⟨q, hq⟩ : ∃ q : Nat, (k : Int) / 4096 = (q : Int) := ⟨k / 4096, by omega⟩
        have q0 : (0 : Int) ≤ (q : Int) := by omega
        have q1 : (q : Int) ≤ 15 := by omega
        have hx : ∀ w : World, (convert 96 9 (.slice (some ⟨w.heap.size, 0, none⟩) 3 3)).run Tryz.prog (w.alloc (.cells #[.int .u8 (224 + (q : Int)), .int .u8 (128 + (k : Int) / 64 % 64), .int .u8 (128 + (k : Int) % 64)] 5)) = .ok (.string cb) (w.alloc (.cells #[.int .u8 (224 + (q : Int)), .int .u8 (128 + (k : Int) / 64 % 64), .int .u8 (128 + (k : Int) % 64)] 5)) := fun w => by
          rw [hcb]
          have hv := HC.out.2
          unfold Valid at hv
          exact new_text (bs := Lib.encodeRune (k : Int)) (zs := [224 + (q : Int), 128 + (k : Int) / 64 % 64, 128 + (k : Int) % 64]) (by unfold Lib.encodeRune; unfold Lib.encodeRuneZ; rw [if_neg (by omega), if_neg (by omega), if_pos (by omega), hq]) (by intro z hz; simp at hz; omega) rfl rfl (by simp) w
        clear hcb c1 c2 c3
        go_wp2
        go_roundw
        case rel => exact ⟨t2, i + 1, rfl, by go_num, by omega, hid ⟨HT2.out, HT.out.2.alloc _⟩⟩
        case measure => simp [intOf]; omega
      have m3 : (65536 : Int) ≤ (k : Int) := by omega
      have d3 : decide ((k : Int) < 65536) = false := decide_eq_false (by omega)
      obtain ⟨q, hq⟩ : ∃ q : Nat, (k : Int) / 262144 = (q : Int) := ⟨k / 262144, by omega⟩
      have q0 : (0 : Int) ≤ (q : Int) := by omega
      have q1 : (q : Int) ≤ 4 := by omega
      obtain ⟨r, hr⟩ : ∃ r : Nat, (k : Int) / 4096 = (r : Int) := ⟨k / 4096, by omega⟩
      have r0 : (0 : Int) ≤ (r : Int) := by omega
      have r1 : (r : Int) ≤ 272 := by omega
      have hx : ∀ w : World, (convert 96 9 (.slice (some ⟨w.heap.size, 0, none⟩) 4 4)).run Tryz.prog (w.alloc (.cells #[.int .u8 (240 + (q : Int)), .int .u8 (128 + (r : Int) % 64), .int .u8 (128 + (k : Int) / 64 % 64), .int .u8 (128 + (k : Int) % 64)] 5)) = .ok (.string cb) (w.alloc (.cells #[.int .u8 (240 + (q : Int)), .int .u8 (128 + (r : Int) % 64), .int .u8 (128 + (k : Int) / 64 % 64), .int .u8 (128 + (k : Int) % 64)] 5)) := fun w => by
        rw [hcb]
        exact new_text (bs := Lib.encodeRune (k : Int)) (zs := [240 + (q : Int), 128 + (r : Int) % 64, 128 + (k : Int) / 64 % 64, 128 + (k : Int) % 64]) (by unfold Lib.encodeRune; unfold Lib.encodeRuneZ; rw [if_neg (by omega), if_neg (by omega), if_neg (by omega), if_pos (by omega), hq, hr]) (by intro z hz; simp at hz; omega) rfl rfl (by simp) w
      clear hcb c1 c2 c3
      go_wp2
      go_roundw
      case rel => exact ⟨t2, i + 1, rfl, by go_num, by omega, hid ⟨HT2.out, HT.out.2.alloc _⟩⟩
      case measure => simp [intOf]; omega
    · have j1 : (n : Int) ≤ (i : Int) := by omega
      have HE : Hid (t.data.toList = utf8 l) := hid (by
        have h := HT.out.1
        have h2 := HN.out
        rw [List.take_of_length_le (by omega)] at h
        exact h)
      clear hlt
      go_wp2
      go_ret
      exact ⟨t, rfl, HE.out, HT.out.2⟩

end Go.Proofs.YtmhaknejeobfgabGreatDoor

/- Ref5. -/
namespace Go.Proofs.YtmhaknejeobfgabGreatDoor
open Go.RowKit Go.Proofs.YtmhaknejeobfgabGreatDoor.Stable Go.Proofs.YtmhaknejeobfgabGreatDoor.Order Go.Proofs.YtmhaknejeobfgabGreatDoor.Points
attribute [local go_sem ↓] Go.wp_at_zero Go.wp_at_succ

/-- The table's bytes. -/
def dat (j : Nat) : Nat := (dataText.getD j 0).toNat

theorem dat_le (j : Nat) : dat j ≤ 255 := by
  unfold dat
  have := (dataText.getD j 0).toNat_lt
  omega

theorem dataText_length : dataText.length = 1276 := by decide +kernel

theorem dat_index {s : ByteArray} {x : Int} {j : Nat} (hs : s.data.toList = dataText) (hx : x = (j : Int)) (h : j < 1276) (w : World) : (Instr.index 9 (.string s) (.int .i64 x)).run Tryz.prog w = .ok (.int .u8 (dat j)) w := by
  have hb : byt s j = dat j := by unfold byt dat; rw [hs]
  rw [← hb]
  refine byt_index hx ?_ w
  rw [Lib.size_eq, hs, dataText_length]
  exact h

/-- The table's text in the program's own text, by a letter. -/
theorem lit_D {s D : ByteArray} (hD : D.data.toList = dataText) (h : s.data.toList = dataText) : Operand.const (.string s) = Operand.const (.string D) := by
  have e : s = D := by
    cases s
    cases D
    exact congrArg ByteArray.mk (Array.toList_inj.1 (h.trans hD.symm))
  rw [e]

/-- The number at a place, and the place behind it. -/
def hexG : Nat → Nat → Nat → Option (Nat × Nat)
  | 0, _, _ => none
  | f + 1, n, i => if 48 ≤ dat i ∧ dat i ≤ 57 then hexG f (n * 16 + dat i - 48) (i + 1) else if 65 ≤ dat i ∧ dat i ≤ 70 then hexG f (n * 16 + dat i - 65 + 10) (i + 1) else some (n, i)

theorem hexG_le : ∀ (f n i r j : Nat), hexG f n i = some (r, j) → n ≤ r ∧ i ≤ j
  | 0, _, _, _, _, h => by cases h
  | f + 1, n, i, r, j, h => by
    unfold hexG at h
    split at h
    · have := hexG_le f _ _ r j h
      omega
    · split at h
      · have := hexG_le f _ _ r j h
        omega
      · simp at h
        omega

set_option maxRecDepth 100000 in
set_option maxHeartbeats 1600000 in
theorem sixteens_calls (i r j : Nat) (w : World) (h : hexG 8 0 i = some (r, j)) (hj : j < 1276) (hr : r ≤ 1114111) :
    Calls Tryz.prog 116 #[.int .i64 i] w fun e w' => e = .returned (.tuple #[.int .i64 r, .int .i64 j]) ∧ w' = w := by
  have HH : Hid (hexG 8 0 i = some (r, j) ∧ j < 1276 ∧ r ≤ 1114111) := ⟨h, hj, hr⟩
  obtain ⟨D, hD⟩ : ∃ D : ByteArray, D.data.toList = dataText := ⟨⟨dataText.toArray⟩, rfl⟩
  have HD : Hid (D.data.toList = dataText) := hD
  clear h hj hr hD
  go_enter Tryz.func116, Tryz.ntmps116
  rw [lit_D HD.out (by kernel_rfl)]
  go_wp2
  go_loopw [0, 4] (fun v0 v4 wr => ∃ (x n f : Nat), v0 = .int .i64 x ∧ v4 = .int .i64 n ∧ wr = w ∧ Hid (hexG f n x = some (r, j))) (fun v0 _ _ => 1277 - (intOf v0).toNat)
  case atStart => exact ⟨i, 0, 8, rfl, rfl, rfl, HH.out.1⟩
  case round =>
    obtain ⟨x, n, f, rfl, rfl, rfl, HX⟩ := hrel
    obtain ⟨b, hb⟩ : ∃ b, b = dat x := ⟨_, rfl⟩
    have hle := hexG_le _ _ _ _ _ HX.out
    have hh := HH.out
    have n0 : (0 : Int) ≤ (n : Int) := by omega
    have n1 : (n : Int) ≤ 1114111 := by omega
    have x0 : (0 : Int) ≤ (x : Int) := by omega
    have x1 : (x : Int) < 1276 := by omega
    have hx : ∀ w, (Instr.index 9 (.string D) (.int .i64 x)).run Tryz.prog w = .ok (.int .u8 b) w := fun w => by rw [hb]; exact dat_index HD.out rfl (by omega) w
    have hb255 := dat_le x
    have HB : Hid (b = dat x) := hb
    rw [← hb] at hb255
    have b0 : (0 : Int) ≤ (b : Int) := by omega
    have b1 : (b : Int) ≤ 255 := by omega
    clear hb hle hh hb255
    cases f with
    | zero => exact absurd HX.out (by unfold hexG; simp)
    | succ f =>
      have hst := HX.out
      unfold hexG at hst
      rw [← HB.out] at hst
      by_cases c1 : 48 ≤ b ∧ b ≤ 57
      · rw [if_pos c1] at hst
        have HS : Hid (hexG f (n * 16 + b - 48) (x + 1) = some (r, j)) := hst
        have k1 : (48 : Int) ≤ (b : Int) := by omega
        have k2 : (b : Int) ≤ 57 := by omega
        clear hst c1
        go_wp2
        go_roundw
        case rel =>
          have := hexG_le _ _ _ _ _ HS.out
          exact ⟨x + 1, n * 16 + b - 48, f, by go_num, by congr 1; omega, trivial, HS⟩
        case measure => simp [intOf]; omega
      rw [if_neg c1] at hst
      by_cases c2 : 65 ≤ b ∧ b ≤ 70
      · rw [if_pos c2] at hst
        have HS : Hid (hexG f (n * 16 + b - 65 + 10) (x + 1) = some (r, j)) := hst
        have k1 : (48 : Int) ≤ (b : Int) := by omega
        have k2 : (57 : Int) < (b : Int) := by omega
        have k3 : (65 : Int) ≤ (b : Int) := by omega
        have k4 : (b : Int) ≤ 70 := by omega
        clear hst c1 c2
        go_wp2
        go_roundw
        case rel =>
          have := hexG_le _ _ _ _ _ HS.out
          exact ⟨x + 1, n * 16 + b - 65 + 10, f, by go_num, by congr 1; omega, trivial, HS⟩
        case measure => simp [intOf]; omega
      rw [if_neg c2] at hst
      have HR : Hid (n = r ∧ x = j) := hid (by simpa using hst)
      clear hst
      have d1 : (decide ((48 : Int) ≤ (b : Int)) && decide ((b : Int) ≤ 57)) = false := by
        rw [← Bool.decide_and, decide_eq_false_iff_not]; omega
      have d2 : (decide ((65 : Int) ≤ (b : Int)) && decide ((b : Int) ≤ 70)) = false := by
        rw [← Bool.decide_and, decide_eq_false_iff_not]; omega
      by_cases e1 : 48 ≤ b
      · have k1 : (48 : Int) ≤ (b : Int) := by omega
        have k2 : (57 : Int) < (b : Int) := by omega
        by_cases e2 : 65 ≤ b
        · have k3 : (65 : Int) ≤ (b : Int) := by omega
          have k4 : (70 : Int) < (b : Int) := by omega
          clear c1 c2 e1 e2 d1 d2
          go_wp2
          go_ret2
          rw [HR.out.1, HR.out.2]
          exact ⟨rfl, rfl⟩
        · have k3 : (b : Int) < 65 := by omega
          clear c1 c2 e1 e2 d1 d2
          go_wp2
          go_ret2
          rw [HR.out.1, HR.out.2]
          exact ⟨rfl, rfl⟩
      · have k1 : (b : Int) < 48 := by omega
        have k3 : (b : Int) < 65 := by omega
        clear c1 c2 e1 d1 d2
        go_wp2
        go_ret2
        rw [HR.out.1, HR.out.2]
        exact ⟨rfl, rfl⟩

end Go.Proofs.YtmhaknejeobfgabGreatDoor

/- Ref6. -/
namespace Go.Proofs.YtmhaknejeobfgabGreatDoor
open Go.RowKit Go.Proofs.YtmhaknejeobfgabGreatDoor.Stable Go.Proofs.YtmhaknejeobfgabGreatDoor.Order Go.Proofs.YtmhaknejeobfgabGreatDoor.Points
attribute [local go_sem ↓] Go.wp_at_zero Go.wp_at_succ

/-- The code points from a place on, joined by '+', and the place behind them. -/
def listG : Nat → List Int → Nat → Option (List Int × Nat)
  | 0, _, _ => none
  | f + 1, acc, i => match hexG 8 0 i with
    | none => none
    | some (r, k) => if r ≤ 1114111 ∧ k < 1276 then (if dat k = 43 then listG f (acc ++ [(r : Int)]) (k + 1) else some (acc ++ [(r : Int)], k)) else none

def listAt (i : Nat) : Option (List Int × Nat) := if dat i = 45 then some ([], i + 1) else listG 20 [] i

/-- Where the loop stands. -/
structure ListAt (w wr : World) (l : List Int) (j x f : Nat) (acc : List Int) (a : Option Addr) (cp : Nat) : Prop where
  row : Row wr w.heap.size a cp acc
  fr : Fr (fun _ => False) w wr
  len : acc.length + f ≤ 20
  go : listG f acc x = some (l, j)

set_option maxRecDepth 100000 in
set_option maxHeartbeats 1600000 in
theorem list_calls (y : Int) (i j : Nat) (l : List Int) (w : World) (hy : y = (i : Int)) (h : listAt i = some (l, j)) (hi : i < 1276) :
    Calls Tryz.prog 117 #[.int .i64 y] w fun e w' => ∃ a cp, e = .returned (.tuple #[.slice a l.length cp, .int .i64 j]) ∧ Row w' w.heap.size a cp l ∧ Fr (fun _ => False) w w' := by
  subst hy
  obtain ⟨i0, hi0, hz0, hz1, hz2⟩ := info_parts Tryz.info_int
  have HI : Hid (Tryz.prog.info? 3 = some i0 ∧ i0.zero = some (.int .i64 0) ∧ i0.size = 1 ∧ i0.bytes = 8) := ⟨hi0, hz0, hz1, hz2⟩
  have i0' : (0 : Int) ≤ (i : Int) := by omega
  have i1' : (i : Int) < 1276 := by omega
  obtain ⟨D, hD⟩ : ∃ D : ByteArray, D.data.toList = dataText := ⟨⟨dataText.toArray⟩, rfl⟩
  have HD : Hid (D.data.toList = dataText) := hD
  obtain ⟨b, hb⟩ : ∃ b, b = dat i := ⟨_, rfl⟩
  have hx : ∀ w, (Instr.index 9 (.string D) (.int .i64 i)).run Tryz.prog w = .ok (.int .u8 b) w := fun w => by rw [hb]; exact dat_index HD.out rfl hi w
  unfold listAt at h
  rw [← hb] at h
  clear hD hi hb hi0 hz0 hz1 hz2
  go_enter Tryz.func117, Tryz.ntmps117
  rw [lit_D HD.out (by kernel_rfl)]
  by_cases c0 : b = 45
  · rw [if_pos c0] at h
    have HR : Hid ([] = l ∧ i + 1 = j) := hid (by simpa using h)
    have k0 : ((b : Int) == 45) = true := by simp; omega
    clear h c0
    go_wp2
    go_ret2
    have hr := HR.out
    obtain ⟨rfl, rfl⟩ := hr
    exact ⟨none, 0, by go_num, Row.none _ _, Fr.refl _ _⟩
  rw [if_neg c0] at h
  have k0 : ((b : Int) == 45) = false := by rw [beq_eq_false_iff_ne]; omega
  have HL : Hid (listG 20 [] i = some (l, j)) := h
  clear h c0
  go_wp2
  clear hx k0
  go_loopw [0, 4] (fun v0 v4 wr => ∃ (x f : Nat) (acc : List Int) (a : Option Addr) (cp : Nat), v0 = .int .i64 x ∧ v4 = .slice a acc.length cp ∧ x ≤ 1276 ∧ Hid (ListAt w wr l j x f acc a cp)) (fun v0 _ _ => 1277 - (intOf v0).toNat)
  case atStart => exact ⟨i, 20, [], none, 0, rfl, rfl, by omega, hid ⟨Row.none _ _, Fr.refl _ _, Nat.le_refl _, HL.out⟩⟩
  case round =>
    obtain ⟨x, f, acc, a, cp, rfl, rfl, hx1, HX⟩ := hrel
    have x0 : (0 : Int) ≤ (x : Int) := by omega
    have x1 : (x : Int) ≤ 1276 := by omega
    have hgo := HX.out.go
    cases f with
    | zero => exact absurd hgo (by unfold listG; simp)
    | succ f =>
      unfold listG at hgo
      cases hh : hexG 8 0 x with
      | none => rw [hh] at hgo; cases hgo
      | some p =>
        obtain ⟨r, k⟩ := p
        rw [hh] at hgo
        simp only at hgo
        by_cases hrk : r ≤ 1114111 ∧ k < 1276
        · rw [if_pos hrk] at hgo
          have HK : Hid (hexG 8 0 x = some (r, k) ∧ k < 1276 ∧ r ≤ 1114111 ∧ x ≤ k) := ⟨hh, hrk.2, hrk.1, (hexG_le _ _ _ _ _ hh).2⟩
          obtain ⟨c, hc⟩ : ∃ c, c = dat k := ⟨_, rfl⟩
          have hxc : ∀ w, (Instr.index 9 (.string D) (.int .i64 k)).run Tryz.prog w = .ok (.int .u8 c) w := fun w => by rw [hc]; exact dat_index HD.out rfl hrk.2 w
          have y0 : (0 : Int) ≤ (k : Int) := by omega
          have y1 : (k : Int) < 1276 := by omega
          rw [← hc] at hgo
          clear hc hrk hh
          go_wp2_with (first
            | (go_at_call 116; refine (sixteens_calls x r k _ HK.out.1 HK.out.2.1 HK.out.2.2.1).mono ?_; rintro e w' ⟨rfl, hw⟩; have hw' := hw.symm; subst hw'; clear hw)
            | (at_builtin; refine wpList_append_own_at _ rfl _ _ 31 rfl w.heap.size 3 i0 (.int .i64 0) 1 8 Tryz.underlying31 HI.out.1 HI.out.2.1 HI.out.2.2.1 HI.out.2.2.2 rfl (by decide) (.slice a acc.length cp) acc.length (ints acc) rfl ?own ⟨wr.heap.size, 0, none⟩ 1 1 [.int .i64 r] rfl rfl (cell_one_new _ _ _) (by intro u hu; simp at hu; subst hu; rfl) ?len ?bytes ?base ?grow))
          case own => exact HX.out.row.keep ((Fr.refl (fun _ => False) wr).alloc (Obj.cells #[.int .i64 r] 3))
          case len =>
            have h1 := HX.out.len
            unfold maxLen
            omega
          case bytes =>
            have h1 := HX.out.len
            omega
          case base =>
            have h1 := HX.out.fr.size
            simp
            omega
          case grow =>
            intro v1 w1 k1 g1 _ _
            have f1 : Fr (fun _ => False) w w1 := grown_new (HX.out.fr.alloc (Obj.cells #[.int .i64 r] 3)) (HX.out.row.keep ((Fr.refl _ _).alloc _)) (Nat.le_refl _) g1
            obtain ⟨a', c', rfl, m1⟩ := Row.more (l := acc) (xs := [(r : Int)]) (n := 1) k1 rfl
            have HM : Hid (Row w1 w.heap.size a' c' (acc ++ [(r : Int)]) ∧ Fr (fun _ => False) w w1) := ⟨m1, f1⟩
            clear k1 g1 f1 m1
            by_cases c1 : c = 43
            · rw [if_pos c1] at hgo
              have HG : Hid (listG f (acc ++ [(r : Int)]) (k + 1) = some (l, j)) := hgo
              have e1 : ((c : Int) == 43) = true := by simp; omega
              clear hgo c1
              go_wp2
              go_roundw
              case rel => exact ⟨k + 1, f, acc ++ [(r : Int)], a', c', by go_num, rfl, by omega, hid ⟨HM.out.1, HM.out.2, by have := HX.out.len; simp; omega, HG.out⟩⟩
              case measure =>
                have := HK.out
                simp [intOf]
                omega
            · rw [if_neg c1] at hgo
              have HG : Hid (acc ++ [(r : Int)] = l ∧ k = j) := hid (by simpa using hgo)
              have e1 : ((c : Int) == 43) = false := by rw [beq_eq_false_iff_ne]; omega
              clear hgo c1
              go_wp2
              go_ret2
              have hg := HG.out
              obtain ⟨rfl, rfl⟩ := hg
              exact ⟨a', c', rfl, HM.out.1, HM.out.2⟩
        · rw [if_neg hrk] at hgo; cases hgo

end Go.Proofs.YtmhaknejeobfgabGreatDoor

/- Ref7. -/
namespace Go.Proofs.YtmhaknejeobfgabGreatDoor
open Go.RowKit Go.Proofs.YtmhaknejeobfgabGreatDoor.Stable Go.Proofs.YtmhaknejeobfgabGreatDoor.Order Go.Proofs.YtmhaknejeobfgabGreatDoor.Points

/-- A class at a place: its number, and the blank behind it. -/
def decG : Nat → Nat → Nat → Option (Nat × Nat)
  | 0, _, _ => none
  | f + 1, n, i => if dat i = 32 then some (n, i) else if 48 ≤ dat i ∧ dat i ≤ 57 then decG f (n * 10 + dat i - 48) (i + 1) else none

theorem decG_le : ∀ (f n i r j : Nat), decG f n i = some (r, j) → n ≤ r ∧ i ≤ j
  | 0, _, _, _, _, h => by cases h
  | f + 1, n, i, r, j, h => by
    unfold decG at h
    split at h
    · simp at h
      omega
    · split at h
      · have := decG_le f _ _ r j h
        omega
      · cases h

/-- The kind of a row. -/
def Fact.kind (r : Fact) : Nat := if r.compat then 107 else if r.parts = [] then 45 else 99

/-- A line that reads as a row; the line behind it begins at the second place. -/
def lineIs2 (o : Nat) (r : Fact) (nx : Nat) : Bool :=
  match hexG 8 0 o with
  | none => false
  | some (p, k) => decide (p ≤ 1114111 ∧ k + 1 < 1276 ∧ (p : Int) = r.cp) && match decG 8 0 (k + 1) with
    | none => false
    | some (cl, i) => decide (cl ≤ 255 ∧ i + 3 < 1276 ∧ (cl : Int) = r.cls ∧ dat (i + 1) = r.kind) && match listAt (i + 3) with
      | none => false
      | some (a, m) => decide (a = r.parts ∧ m + 1 < 1276) && match listAt (m + 1) with
        | none => false
        | some (b, n) => decide (b = r.fold ∧ n + 1 = nx ∧ nx ≤ 1276 ∧ o < nx)

/-- Where the lines begin. -/
def nextOf (o : Nat) : Nat := match hexG 8 0 o with
  | none => 0
  | some (_, k) => match decG 8 0 (k + 1) with
    | none => 0
    | some (_, i) => match listAt (i + 3) with
      | none => 0
      | some (_, m) => match listAt (m + 1) with
        | none => 0
        | some (_, n) => n + 1

def chainIs : Nat → List Fact → Bool
  | o, [] => decide (o = 1276)
  | o, r :: rs => decide (o < 1276) && lineIs2 o r (nextOf o) && chainIs (nextOf o) rs

theorem chain_facts : chainIs 0 facts = true := by decide +kernel

theorem facts_rise : facts.Pairwise (fun a b => a.cp < b.cp) := by
  have h : (facts.map fun r => r.cp).Pairwise (· < ·) := by decide +kernel
  exact List.pairwise_map.1 h

theorem look_skip (c : Int) : ∀ (l : List Fact) (acc : Option Fact), (∀ q ∈ l, q.cp ≠ c) → l.foldl (fun acc r => if r.cp = c then some r else acc) acc = acc
  | [], _, _ => rfl
  | q :: l, acc, h => by
    rw [List.foldl_cons, if_neg (h q (by simp))]
    exact look_skip c l acc (fun q hq => h q (by simp [hq]))

theorem look_miss {c : Int} (h : ∀ q ∈ facts, q.cp ≠ c) : look facts c = none := look_skip c facts none h

theorem look_hit {pre post : List Fact} {r : Fact} (h : facts = pre ++ r :: post) : look facts r.cp = some r := by
  have hr := facts_rise
  rw [h] at hr
  have h1 := List.pairwise_append.1 hr
  have h2 := List.pairwise_cons.1 h1.2.1
  unfold look
  rw [h, List.foldl_append, List.foldl_cons, if_pos rfl]
  refine look_skip _ _ _ (fun q hq => ?_)
  have := h2.1 q hq
  omega

theorem look_gap {c : Int} {pre post : List Fact} {r : Fact} (h : facts = pre ++ r :: post) (hp : ∀ q ∈ pre, q.cp < c) (hc : c < r.cp) : look facts c = none := by
  have hr := facts_rise
  rw [h] at hr
  have h1 := List.pairwise_append.1 hr
  have h2 := List.pairwise_cons.1 h1.2.1
  refine look_miss (fun q hq => ?_)
  rw [h] at hq
  rcases List.mem_append.1 hq with hq | hq
  · have := hp q hq
    omega
  · rcases List.mem_cons.1 hq with rfl | hq
    · omega
    · have := h2.1 q hq
      omega

/-- The kind of a code point; 0: the table does not speak of it. -/
def kindOf (c : Int) : Nat := match look facts c with | some r => r.kind | none => 0

theorem line_parts {o : Nat} {r : Fact} {nx : Nat} (h : lineIs2 o r nx = true) : ∃ p k cl i m n, hexG 8 0 o = some (p, k) ∧ decG 8 0 (k + 1) = some (cl, i) ∧ listAt (i + 3) = some (r.parts, m) ∧ listAt (m + 1) = some (r.fold, n) ∧ p ≤ 1114111 ∧ k + 1 < 1276 ∧ (p : Int) = r.cp ∧ cl ≤ 255 ∧ i + 3 < 1276 ∧ (cl : Int) = r.cls ∧ dat (i + 1) = r.kind ∧ m + 1 < 1276 ∧ n + 1 = nx ∧ nx ≤ 1276 ∧ o < nx := by
  unfold lineIs2 at h
  split at h
  · cases h
  · rename_i p k hk
    rw [Bool.and_eq_true, decide_eq_true_eq] at h
    obtain ⟨⟨a1, a2, a3⟩, h⟩ := h
    split at h
    · cases h
    · rename_i cl i hi
      rw [Bool.and_eq_true, decide_eq_true_eq] at h
      obtain ⟨⟨b1, b2, b3, b4⟩, h⟩ := h
      split at h
      · cases h
      · rename_i a m hm
        rw [Bool.and_eq_true, decide_eq_true_eq] at h
        obtain ⟨⟨rfl, c2⟩, h⟩ := h
        split at h
        · cases h
        · rename_i b n hn
          rw [decide_eq_true_eq] at h
          obtain ⟨rfl, d2, d3, d4⟩ := h
          exact ⟨p, k, cl, i, m, n, hk, hi, hm, hn, a1, a2, a3, b1, b2, b3, b4, c2, d2, d3, d4⟩

end Go.Proofs.YtmhaknejeobfgabGreatDoor

/- Ref8. -/
namespace Go.Proofs.YtmhaknejeobfgabGreatDoor
open Go.RowKit Go.Proofs.YtmhaknejeobfgabGreatDoor.Stable Go.Proofs.YtmhaknejeobfgabGreatDoor.Order Go.Proofs.YtmhaknejeobfgabGreatDoor.Points
attribute [local go_sem ↓] Go.wp_at_zero Go.wp_at_succ

def zeroFact : Array Value := #[.int .i64 0, .int .u8 0, .slice none 0 0, .slice none 0 0]

/-- Where the loop over the lines stands. -/
structure OfAt (w wr : World) (c : Int) (o : Nat) (pre rs : List Fact) : Prop where
  res : wr.heap[w.heap.size]? = some (.cells zeroFact 160 (0, 0))
  zer : wr.heap[w.heap.size + 1]? = some (.cells zeroFact 160 (0, 0))
  fr : Fr (fun _ => False) w wr
  cut : facts = pre ++ rs
  low : ∀ q ∈ pre, q.cp < c
  chain : chainIs o rs = true
  le : o ≤ 1276

/-- What Of tells. -/
structure FactIs (w' : World) (base : Nat) (c : Int) (a : Option Addr) (ca : Nat) (b : Option Addr) (cb : Nat) : Prop where
  ra : Row w' base a ca (rawParts c)
  rb : Row w' base b cb (rawFold c)

def factV (c : Int) (a : Option Addr) (ca : Nat) (b : Option Addr) (cb : Nat) : Value := .agg #[.int .i64 (clsOf c), .int .u8 (kindOf c), .slice a (rawParts c).length ca, .slice b (rawFold c).length cb]

theorem zero_at {w : World} {b : Nat} (h : w.heap[b]? = some (.cells zeroFact 160 (0, 0))) : w.cell? ⟨b, 0, none⟩ = some (.int .i64 0) ∧ w.cell? ⟨b, 1, none⟩ = some (.int .u8 0) ∧ w.cell? ⟨b, 2, none⟩ = some (.slice none 0 0) ∧ w.cell? ⟨b, 3, none⟩ = some (.slice none 0 0) := ⟨cell_of h rfl, cell_of h rfl, cell_of h rfl, cell_of h rfl⟩

theorem OfAt.kept {w wr w' : World} {c : Int} {o : Nat} {pre rs : List Fact} (h : OfAt w wr c o pre rs) (f : Fr (fun _ => False) wr w') : OfAt w w' c o pre rs := by
  have h1 := lt_of h.res
  have h2 := lt_of h.zer
  exact ⟨(f.block _ h1 id).trans h.res, (f.block _ h2 id).trans h.zer, h.fr.trans f (fun _ _ h => h), h.cut, h.low, h.chain, h.le⟩

theorem OfAt.start (w : World) (c : Int) : OfAt w ((w.alloc (Obj.cells zeroFact 160)).alloc (Obj.cells zeroFact 160)) c 0 [] facts := by
  obtain ⟨A, hA⟩ : ∃ A, A = w.alloc (Obj.cells zeroFact 160) := ⟨_, rfl⟩
  rw [← hA]
  have sA : A.heap.size = w.heap.size + 1 := by rw [hA]; simp
  have rA : A.heap[w.heap.size]? = some (.cells zeroFact 160 (0, 0)) := by rw [hA]; exact heap_alloc_new w _
  have fA : Fr (fun _ => False) w A := by rw [hA]; exact (Fr.refl _ _).alloc _
  have fB : Fr (fun _ => False) A (A.alloc (Obj.cells zeroFact 160)) := (Fr.refl _ _).alloc _
  refine ⟨(fB.block _ (by omega) id).trans rA, ?_, fA.trans fB (fun _ _ h => h), rfl, ?_, chain_facts, Nat.zero_le _⟩
  · rw [← sA]
    exact heap_alloc_new A _
  · intro q hq
    cases hq

/-- The result's block, written. -/
theorem res_set {w : World} {b : Nat} (h : w.heap[b]? = some (.cells zeroFact 160 (0, 0))) (x0 x1 x2 x3 : Value) : ((((w.setCell ⟨b, 0, none⟩ x0).setCell ⟨b, 1, none⟩ x1).setCell ⟨b, 2, none⟩ x2).setCell ⟨b, 3, none⟩ x3).heap[b]? = some (.cells #[x0, x1, x2, x3] 160 (0, 0)) := by
  have h3 := set_of (set_of (set_of (set_of h 0 x0) 1 x1) 2 x2) 3 x3
  exact h3

theorem fact_none {w' : World} {base : Nat} {c : Int} (h : look facts c = none) : factV c none 0 none 0 = .agg #[.int .i64 0, .int .u8 0, .slice none 0 0, .slice none 0 0] ∧ FactIs w' base c none 0 none 0 := by
  have e1 : rawParts c = [] := by unfold rawParts; rw [h]
  have e2 : rawFold c = [] := by unfold rawFold; rw [h]
  have e3 : clsOf c = 0 := by unfold clsOf; rw [h]
  have e4 : kindOf c = 0 := by unfold kindOf; rw [h]
  refine ⟨?_, ?_, ?_⟩
  · unfold factV
    rw [e1, e2, e3, e4]
    rfl
  · rw [e1]; exact Row.none _ _
  · rw [e2]; exact Row.none _ _

theorem fr_four {w w' : World} {b : Nat} (f : Fr (fun _ => False) w w') (hb : w.heap.size ≤ b) (x0 x1 x2 x3 : Value) : Fr (fun _ => False) w ((((w'.setCell ⟨b, 0, none⟩ x0).setCell ⟨b, 1, none⟩ x1).setCell ⟨b, 2, none⟩ x2).setCell ⟨b, 3, none⟩ x3) :=
  (((f.setCell _ _ (fun h => absurd h (Nat.not_lt.2 hb))).setCell _ _ (fun h => absurd h (Nat.not_lt.2 hb))).setCell _ _ (fun h => absurd h (Nat.not_lt.2 hb))).setCell _ _ (fun h => absurd h (Nat.not_lt.2 hb))

theorem fact_some {w wq w1 w2 : World} {c : Int} {r : Fact} {u kd : Nat} {a bb : Option Addr} {ca cb : Nat} (hl : look facts c = some r) (hu : (u : Int) = r.cls) (hk : kd = r.kind) (hf : Fr (fun _ => False) w w2) (hs : w.heap.size ≤ wq.heap.size) (hlt : w.heap.size < wq.heap.size) (ra : Row w1 wq.heap.size a ca r.parts) (fa : Fr (fun _ => False) wq w1) (rb : Row w2 w1.heap.size bb cb r.fold) (fb : Fr (fun _ => False) w1 w2) :
    ∃ a' ca' b' cb', Ending.returned (.agg #[.int .i64 u, .int .u8 kd, .slice a r.parts.length ca, .slice bb r.fold.length cb]) = .returned (factV c a' ca' b' cb') ∧ FactIs ((((w2.setCell ⟨w.heap.size, 0, none⟩ (.int .i64 u)).setCell ⟨w.heap.size, 1, none⟩ (.int .u8 kd)).setCell ⟨w.heap.size, 2, none⟩ (.slice a r.parts.length ca)).setCell ⟨w.heap.size, 3, none⟩ (.slice bb r.fold.length cb)) w.heap.size c a' ca' b' cb' ∧ Fr (fun _ => False) w ((((w2.setCell ⟨w.heap.size, 0, none⟩ (.int .i64 u)).setCell ⟨w.heap.size, 1, none⟩ (.int .u8 kd)).setCell ⟨w.heap.size, 2, none⟩ (.slice a r.parts.length ca)).setCell ⟨w.heap.size, 3, none⟩ (.slice bb r.fold.length cb)) := by
  have e1 : rawParts c = r.parts := by unfold rawParts; rw [hl]
  have e2 : rawFold c = r.fold := by unfold rawFold; rw [hl]
  have e3 : clsOf c = r.cls := by unfold clsOf; rw [hl]
  have e4 : kindOf c = r.kind := by unfold kindOf; rw [hl]
  have f4 : Fr (fun x => x = w.heap.size) w2 ((((w2.setCell ⟨w.heap.size, 0, none⟩ (.int .i64 u)).setCell ⟨w.heap.size, 1, none⟩ (.int .u8 kd)).setCell ⟨w.heap.size, 2, none⟩ (.slice a r.parts.length ca)).setCell ⟨w.heap.size, 3, none⟩ (.slice bb r.fold.length cb)) := (((((Fr.refl (fun x => x = w.heap.size) w2).setCell ⟨w.heap.size, 0, none⟩ _ (fun _ => rfl)).setCell ⟨w.heap.size, 1, none⟩ _ (fun _ => rfl)).setCell ⟨w.heap.size, 2, none⟩ _ (fun _ => rfl)).setCell ⟨w.heap.size, 3, none⟩ _ (fun _ => rfl))
  have h1 := fa.size
  refine ⟨a, ca, bb, cb, ?_, ⟨?_, ?_⟩, fr_four hf (Nat.le_refl _) _ _ _ _⟩
  · unfold factV
    rw [e1, e2, e3, e4, hu, hk]
  · rw [e1]
    exact ((ra.keep fb).kept f4 (fun x hx e => by have := (ra.lt hx).1; omega)).low hs
  · rw [e2]
    exact (rb.kept f4 (fun x hx e => by have := (rb.lt hx).1; omega)).low (by omega)

set_option maxRecDepth 100000 in
set_option maxHeartbeats 3200000 in
theorem fact_calls (c : Int) (w : World) (_h0 : 0 ≤ c) (_h1 : c ≤ 1114111) :
    Calls Tryz.prog 94 #[.int .i64 c] w fun e w' => ∃ a ca b cb, e = .returned (factV c a ca b cb) ∧ FactIs w' w.heap.size c a ca b cb ∧ Fr (fun _ => False) w w' := by
  obtain ⟨D, hD⟩ : ∃ D : ByteArray, D.data.toList = dataText := ⟨⟨dataText.toArray⟩, rfl⟩
  have HD : Hid (D.data.toList = dataText) := hD
  clear hD
  go_enter Tryz.func94, Tryz.ntmps94
  rw [lit_D HD.out (by kernel_rfl)]
  go_wp2
  go_loopw [4] (fun v4 wr => ∃ (o : Nat) (pre rs : List Fact), v4 = .int .i64 o ∧ Hid (OfAt w wr c o pre rs)) (fun v4 _ => 1277 - (intOf v4).toNat)
  case atStart =>
    exact ⟨0, [], facts, rfl, hid (OfAt.start w c)⟩
  case round =>
    obtain ⟨o, pre, rs, rfl, HW⟩ := hrel
    have o0 : (0 : Int) ≤ (o : Int) := by omega
    have o1 : (o : Int) ≤ 1276 := by have := HW.out.le; omega
    cases rs with
    | nil =>
      have ho : o = 1276 := by
        have h := HW.out.chain
        unfold chainIs at h
        exact of_decide_eq_true h
      subst ho
      have HN : Hid (look facts c = none) := hid (look_miss (fun q hq => by
        have h := HW.out.cut
        rw [List.append_nil] at h
        rw [h] at hq
        have := HW.out.low q hq
        omega))
      obtain ⟨z0, z1, z2, z3⟩ := zero_at HW.out.zer
      obtain ⟨y0, y1, y2, y3⟩ := zero_at HW.out.res
      have g0 := frozen_of HW.out.res 0
      have g1 := frozen_of HW.out.res 1
      have g2 := frozen_of HW.out.res 2
      have g3 := frozen_of HW.out.res 3
      go_wp2
      have rb := res_set HW.out.res (.int .i64 0) (.int .u8 0) (.slice none 0 0) (.slice none 0 0)
      have e0 := cell_of rb (o := 0) rfl
      have e1 := cell_of rb (o := 1) rfl
      have e2 := cell_of rb (o := 2) rfl
      have e3 := cell_of rb (o := 3) rfl
      try simp only [Exit.inBlock, Exit.then]
      refine bodyPost_ret (by simp [results, Tryz.results94, go_sem, e0, e1, e2, e3]; try rfl) rfl ?_
      obtain ⟨e4, e5⟩ := fact_none (w' := ((((wr.setCell ⟨w.heap.size, 0, none⟩ (.int .i64 0)).setCell ⟨w.heap.size, 1, none⟩ (.int .u8 0)).setCell ⟨w.heap.size, 2, none⟩ (.slice none 0 0)).setCell ⟨w.heap.size, 3, none⟩ (.slice none 0 0))) (base := w.heap.size) HN.out
      exact ⟨none, 0, none, 0, by rw [e4], e5, fr_four HW.out.fr (Nat.le_refl _) _ _ _ _⟩
    | cons r rs =>
      have hch := HW.out.chain
      unfold chainIs at hch
      rw [Bool.and_eq_true, Bool.and_eq_true, decide_eq_true_eq] at hch
      obtain ⟨⟨hlt, hline⟩, hrest⟩ := hch
      obtain ⟨nx, hnx⟩ : ∃ nx, nx = nextOf o := ⟨_, rfl⟩
      rw [← hnx] at hline hrest
      obtain ⟨p, k, cl, i, m, n, L1, L2, L3, L4, q1, q2, q3, q4, q5, q6, q7, q8, q9, q10, q11⟩ := line_parts hline
      have HL : Hid (hexG 8 0 o = some (p, k) ∧ decG 8 0 (k + 1) = some (cl, i) ∧ listAt (i + 3) = some (r.parts, m) ∧ listAt (m + 1) = some (r.fold, n) ∧ (p : Int) = r.cp ∧ (cl : Int) = r.cls ∧ n + 1 = nx ∧ o < nx ∧ chainIs nx rs = true ∧ k < 1276 ∧ p ≤ 1114111 ∧ i + 3 < 1276 ∧ m + 1 < 1276 ∧ nx ≤ 1276 ∧ cl ≤ 255) := ⟨L1, L2, L3, L4, q3, q6, q9, q11, hrest, by omega, q1, q5, q8, q10, q4⟩
      obtain ⟨kd, hkd⟩ : ∃ kd, kd = r.kind := ⟨_, rfl⟩
      rw [← hkd] at q7
      have hxk : ∀ w, (Instr.index 9 (.string D) (.int .i64 ((i : Int) + 1))).run Tryz.prog w = .ok (.int .u8 kd) w := fun w => by rw [← q7]; exact dat_index HD.out (by omega) (by omega) w
      have HK : Hid (kd = r.kind) := hkd
      have o2 : (o : Int) < 1276 := by omega
      have k0 : (0 : Int) ≤ (k : Int) := by omega
      have k1 : (k : Int) + 1 < 1276 := by omega
      have n0 : (0 : Int) ≤ (n : Int) := by omega
      have n1 : (n : Int) + 1 ≤ 1276 := by omega
      have m0 : (0 : Int) ≤ (m : Int) := by omega
      have m1 : (m : Int) + 1 < 1276 := by omega
      have i0 : (0 : Int) ≤ (i : Int) := by omega
      have i1 : (i : Int) + 3 < 1276 := by omega
      have p0 : (0 : Int) ≤ (p : Int) := by omega
      have p1 : (p : Int) ≤ 1114111 := by omega
      clear hlt hline hrest hnx L1 L2 L3 L4 q1 q2 q3 q4 q5 q6 q7 q8 q9 q10 q11 hkd
      by_cases hpc : c < (p : Int)
      · have HN : Hid (look facts c = none) := hid (look_gap HW.out.cut HW.out.low (by rw [← HL.out.2.2.2.2.1]; exact hpc))
        obtain ⟨z0, z1, z2, z3⟩ := zero_at HW.out.zer
        obtain ⟨y0, y1, y2, y3⟩ := zero_at HW.out.res
        have g0 := frozen_of HW.out.res 0
        have g1 := frozen_of HW.out.res 1
        have g2 := frozen_of HW.out.res 2
        have g3 := frozen_of HW.out.res 3
        go_wp2_with (go_at_call 116; refine (sixteens_calls o p k _ HL.out.1 HL.out.2.2.2.2.2.2.2.2.2.1 HL.out.2.2.2.2.2.2.2.2.2.2.1).mono ?_; rintro e w' ⟨rfl, hw⟩; have hw' := hw.symm; subst hw'; clear hw)
        have rb := res_set HW.out.res (.int .i64 0) (.int .u8 0) (.slice none 0 0) (.slice none 0 0)
        have e0 := cell_of rb (o := 0) rfl
        have e1 := cell_of rb (o := 1) rfl
        have e2 := cell_of rb (o := 2) rfl
        have e3 := cell_of rb (o := 3) rfl
        try simp only [Exit.inBlock, Exit.then]
        refine bodyPost_ret (by simp [results, Tryz.results94, go_sem, e0, e1, e2, e3]; try rfl) rfl ?_
        obtain ⟨e4, e5⟩ := fact_none (w' := ((((wr.setCell ⟨w.heap.size, 0, none⟩ (.int .i64 0)).setCell ⟨w.heap.size, 1, none⟩ (.int .u8 0)).setCell ⟨w.heap.size, 2, none⟩ (.slice none 0 0)).setCell ⟨w.heap.size, 3, none⟩ (.slice none 0 0))) (base := w.heap.size) HN.out
        exact ⟨none, 0, none, 0, by rw [e4], e5, fr_four HW.out.fr (Nat.le_refl _) _ _ _ _⟩
      have hpc' : (p : Int) ≤ c := by omega
      have dpc : decide (c < (p : Int)) = false := decide_eq_false hpc
      clear hpc
      go_wp2_with (go_at_call 116; refine (sixteens_calls o p k _ HL.out.1 HL.out.2.2.2.2.2.2.2.2.2.1 HL.out.2.2.2.2.2.2.2.2.2.2.1).mono ?_; rintro e w' ⟨rfl, hw⟩; have hw' := hw.symm; subst hw'; clear hw)
      go_loopw [4, 7] (fun v4 v7 wq => ∃ (x n f : Nat), v4 = .int .i64 x ∧ v7 = .int .i64 n ∧ wq = wr ∧ Hid (decG f n x = some (cl, i))) (fun v4 _ _ => 1277 - (intOf v4).toNat)
      case atStart => exact ⟨k + 1, 0, 8, by go_num, rfl, rfl, HL.out.2.1⟩
      case round =>
        obtain ⟨x, u, f, rfl, rfl, rfl, HX⟩ := hrel
        have hle := decG_le _ _ _ _ _ HX.out
        have hh := HL.out
        have x0 : (0 : Int) ≤ (x : Int) := by omega
        have x1 : (x : Int) < 1276 := by omega
        have u0 : (0 : Int) ≤ (u : Int) := by omega
        have u1 : (u : Int) ≤ 255 := by omega
        obtain ⟨b, hb⟩ : ∃ b, b = dat x := ⟨_, rfl⟩
        have hx : ∀ w, (Instr.index 9 (.string D) (.int .i64 x)).run Tryz.prog w = .ok (.int .u8 b) w := fun w => by rw [hb]; exact dat_index HD.out rfl (by omega) w
        have hst := HX.out
        clear hle hh
        cases f with
        | zero => exact absurd hst (by unfold decG; simp)
        | succ f =>
          unfold decG at hst
          rw [← hb] at hst
          clear hb
          by_cases c1 : b = 32
          · rw [if_pos c1] at hst
            have hxi : u = cl ∧ x = i := by simpa using hst
            obtain ⟨rfl, rfl⟩ := hxi
            have e1 : ((b : Int) == 32) = true := by simp; omega
            clear hst c1
            by_cases hpe : (p : Int) = c
            · have ee : ((p : Int) == c) = true := by simp [hpe]
              have HR : Hid (look facts c = some r) := hid (by
                have h := look_hit HW.out.cut
                rw [← HL.out.2.2.2.2.1, hpe] at h
                exact h)
              clear hpe
              go_wp2_with (first
                | (go_at_call 117; refine (list_calls _ (x + 3) m r.parts _ (by omega) HL.out.2.2.1 HL.out.2.2.2.2.2.2.2.2.2.2.2.1).mono ?_; rintro e w1 ⟨a, ca, rfl, hra, hfa⟩; have HA : Hid (Row w1 wr.heap.size a ca r.parts ∧ Fr (fun _ => False) wr w1) := (And.intro hra hfa); clear hra hfa)
                | (go_at_call 117; refine (list_calls _ (m + 1) n r.fold _ (by omega) HL.out.2.2.2.1 HL.out.2.2.2.2.2.2.2.2.2.2.2.2.1).mono ?_; rintro e w2 ⟨bb, cb, rfl, hrb, hfb⟩; have HB : Hid (Row w2 w1.heap.size bb cb r.fold ∧ Fr (fun _ => False) w1 w2) := (And.intro hrb hfb); have hk2 := HW.out.kept (HA.out.2.trans hfb (fun _ _ h => h)); obtain ⟨y0, y1, y2, y3⟩ := zero_at hk2.res; have g0 := frozen_of hk2.res 0; have g1 := frozen_of hk2.res 1; have g2 := frozen_of hk2.res 2; have g3 := frozen_of hk2.res 3; have HW2 : Hid (OfAt w w2 c o pre (r :: rs)) := hk2; clear hrb hfb hk2))
              have rb := res_set HW2.out.res (.int .i64 u) (.int .u8 kd) (.slice a r.parts.length ca) (.slice bb r.fold.length cb)
              have e0 := cell_of rb (o := 0) rfl
              have e1 := cell_of rb (o := 1) rfl
              have e2 := cell_of rb (o := 2) rfl
              have e3 := cell_of rb (o := 3) rfl
              try simp only [Exit.inBlock, Exit.then]
              refine bodyPost_ret (by simp [results, Tryz.results94, go_sem, e0, e1, e2, e3]; try rfl) rfl ?_
              exact fact_some HR.out HL.out.2.2.2.2.2.1 HK.out HW2.out.fr HW.out.fr.size (lt_of HW.out.res) HA.out.1 HA.out.2 HB.out.1 HB.out.2
            · have ee : ((p : Int) == c) = false := by rw [beq_eq_false_iff_ne]; exact hpe
              have HP : Hid ((p : Int) < c) := hid (by omega)
              clear hpe
              go_wp2_with (first
                | (go_at_call 117; refine (list_calls _ (x + 3) m r.parts _ (by omega) HL.out.2.2.1 HL.out.2.2.2.2.2.2.2.2.2.2.2.1).mono ?_; rintro e w1 ⟨a, ca, rfl, hra, hfa⟩; have HA : Hid (Row w1 wr.heap.size a ca r.parts ∧ Fr (fun _ => False) wr w1) := (And.intro hra hfa); clear hra hfa)
                | (go_at_call 117; refine (list_calls _ (m + 1) n r.fold _ (by omega) HL.out.2.2.2.1 HL.out.2.2.2.2.2.2.2.2.2.2.2.2.1).mono ?_; rintro e w2 ⟨bb, cb, rfl, hrb, hfb⟩; have HB : Hid (Row w2 w1.heap.size bb cb r.fold ∧ Fr (fun _ => False) w1 w2) := (And.intro hrb hfb); have hk2 := HW.out.kept (HA.out.2.trans hfb (fun _ _ h => h)); obtain ⟨y0, y1, y2, y3⟩ := zero_at hk2.res; have g0 := frozen_of hk2.res 0; have g1 := frozen_of hk2.res 1; have g2 := frozen_of hk2.res 2; have g3 := frozen_of hk2.res 3; have HW2 : Hid (OfAt w w2 c o pre (r :: rs)) := hk2; clear hrb hfb hk2))
              go_roundw
              case rel =>
                have h := HW2.out
                have hl := HL.out
                refine ⟨nx, pre ++ [r], rs, by go_num, hid ⟨h.res, h.zer, h.fr, by rw [h.cut]; simp, ?_, hl.2.2.2.2.2.2.2.2.1, hl.2.2.2.2.2.2.2.2.2.2.2.2.2.1⟩⟩
                intro q hq
                rcases List.mem_append.1 hq with hq | hq
                · exact h.low q hq
                · simp at hq
                  subst hq
                  rw [← hl.2.2.2.2.1]
                  exact HP.out
              case measure =>
                have hl := HL.out
                simp [intOf]
                omega
          · rw [if_neg c1] at hst
            by_cases c2 : 48 ≤ b ∧ b ≤ 57
            · rw [if_pos c2] at hst
              have HS : Hid (decG f (u * 10 + b - 48) (x + 1) = some (cl, i)) := hst
              have e1 : ((b : Int) == 32) = false := by rw [beq_eq_false_iff_ne]; omega
              have b0 : (48 : Int) ≤ (b : Int) := by omega
              have b1 : (b : Int) ≤ 57 := by omega
              clear hst c1 c2
              go_wp2
              go_roundw
              case rel => exact ⟨x + 1, u * 10 + b - 48, f, by go_num, by congr 1; omega, trivial, HS⟩
              case measure => simp [intOf]; omega
            · rw [if_neg c2] at hst
              cases hst

end Go.Proofs.YtmhaknejeobfgabGreatDoor

/- Ref9. -/
namespace Go.Proofs.YtmhaknejeobfgabGreatDoor
open Go.RowKit Go.Proofs.YtmhaknejeobfgabGreatDoor.Stable Go.Proofs.YtmhaknejeobfgabGreatDoor.Order Go.Proofs.YtmhaknejeobfgabGreatDoor.Points

/-- How deep it is taken apart. -/
def rk (k : Bool) (c : Int) : Nat := if partsOf k c = [] then 0 else if (partsOf k c).all (fun x => (partsOf k x).isEmpty) then 1 else 2

theorem rows_rk : facts.all (fun r => both fun k => (partsOf k r.cp).all (fun x => decide (rk k x < rk k r.cp) && isValid x)) = true := by decide +kernel

theorem rows_kind : facts.all (fun r => (!r.compat || !r.parts.isEmpty) && decide (r.parts.length ≤ 100 ∧ r.fold.length ≤ 100) && r.fold.all isValid) = true := by decide +kernel

theorem rk_parts {k : Bool} {c : Int} (hs : ¬ (44032 ≤ c ∧ c ≤ 55203)) (x : Int) (hx : x ∈ partsOf k c) : rk k x < rk k c ∧ Valid x := by
  rcases look_cases c with h | ⟨r, hr, rfl⟩
  · rw [parts_none k h hs] at hx
    cases hx
  · have h := both_all (List.all_eq_true.1 rows_rk r hr) k
    have h2 := List.all_eq_true.1 h x hx
    rw [Bool.and_eq_true, decide_eq_true_eq] at h2
    refine ⟨h2.1, ?_⟩
    have h3 := h2.2
    unfold isValid at h3
    unfold Valid
    simpa using h3

theorem look_mem {c : Int} {r : Fact} (h : look facts c = some r) : r ∈ facts ∧ r.cp = c := by
  rcases look_some facts c none _ rfl with h2 | ⟨q, h2, h3, h4⟩
  · unfold look at h
    rw [h2] at h
    cases h
  · unfold look at h
    rw [h2] at h
    cases h
    exact ⟨h3, h4⟩

/-- Its kind decides. -/
theorem kind_parts (k : Bool) (c : Int) (hs : ¬ (44032 ≤ c ∧ c ≤ 55203)) : (partsOf k c = [] ∧ kindOf c ≠ 99 ∧ (kindOf c ≠ 107 ∨ k = false)) ∨ (partsOf k c = rawParts c ∧ rawParts c ≠ [] ∧ (kindOf c = 99 ∨ (kindOf c ≠ 99 ∧ kindOf c = 107 ∧ k = true))) := by
  unfold partsOf kindOf compatOf rawParts
  rw [if_neg hs]
  cases h : look facts c with
  | none => exact .inl ⟨by simp, by simp, by simp⟩
  | some r =>
    have hk := List.all_eq_true.1 rows_kind r (look_mem h).1
    rw [Bool.and_eq_true, Bool.and_eq_true] at hk
    simp only
    unfold Fact.kind
    cases hc : r.compat with
    | true =>
      rw [hc] at hk
      have hp : r.parts ≠ [] := by simpa using hk.1.1
      cases k with
      | true => exact .inr ⟨by simp, hp, .inr ⟨by simp, by simp, rfl⟩⟩
      | false => exact .inl ⟨by simp, by simp, .inr rfl⟩
    | false =>
      by_cases hp : r.parts = []
      · exact .inl ⟨by simp [hp], by simp [hp], .inl (by simp [hp])⟩
      · exact .inr ⟨by simp, hp, .inl (by simp [hp])⟩

theorem raw_len (c : Int) : (rawParts c).length ≤ 100 ∧ (rawFold c).length ≤ 100 ∧ ∀ x ∈ rawFold c, Valid x := by
  unfold rawParts rawFold
  cases h : look facts c with
  | none => simp
  | some r =>
    have hk := List.all_eq_true.1 rows_kind r (look_mem h).1
    rw [Bool.and_eq_true, Bool.and_eq_true, decide_eq_true_eq] at hk
    refine ⟨hk.1.2.1, hk.1.2.2, fun x hx => ?_⟩
    have h3 := List.all_eq_true.1 hk.2 x hx
    unfold isValid at h3
    unfold Valid
    simpa using h3

theorem kind_le (c : Int) : kindOf c ≤ 255 := by
  unfold kindOf
  split
  · unfold Fact.kind
    split
    · omega
    · split <;> omega
  · omega

theorem Row.news {w : World} {base : Nat} {a : Option Addr} {cp : Nat} {l : List Int} (h : Row w base a cp l) (hne : l ≠ []) : ∃ g, a = some ⟨g, 0, Option.none⟩ ∧ ∀ j u, (YtmhaknejeobfgabGreatDoor.ints l)[j]? = some u → w.cell? ((⟨g, 0, Option.none⟩ : Addr).add j) = some u := by
  have hl : 0 < l.length := List.length_pos_iff.2 hne
  rcases h.2 with ⟨_, hn⟩ | ⟨g, cap, cur, hs, hb, hgg, h1, h2, h3, h4⟩
  · omega
  · cases hs
    refine ⟨g, rfl, fun j u hu => ?_⟩
    have hj : j < l.length := by
      have := (List.getElem?_eq_some_iff.1 hu).1
      rw [ints_length] at this
      exact this
    obtain ⟨g', e, hc⟩ := row_cell h hj hu
    cases e
    rw [show (⟨g, 0, Option.none⟩ : Addr).add j = ⟨g, j, Option.none⟩ by unfold Addr.add; split <;> simp_all]
    exact hc

/-- A list that was just laid. -/
theorem Row.new (w : World) (xs : List Int) {cs : Array Value} (hc : cs.toList = YtmhaknejeobfgabGreatDoor.ints xs) {n : Nat} (hn : xs.length = n) (hm : n ≤ 1000) : Row (w.alloc (.cells cs 3)) w.heap.size (some ⟨w.heap.size, 0, Option.none⟩) n xs := by
  have hs : cs.size = n := by rw [← Array.length_toList, hc, ints_length, hn]
  refine ⟨by rw [ints_length, Nat.mul_one], .inr ⟨w.heap.size, n, cs, rfl, Nat.le_refl _, heap_alloc_new w _, by omega, by unfold maxLen; omega, by omega, ?_⟩⟩
  rw [hc, List.take_of_length_le (by rw [ints_length]; omega)]

end Go.Proofs.YtmhaknejeobfgabGreatDoor
