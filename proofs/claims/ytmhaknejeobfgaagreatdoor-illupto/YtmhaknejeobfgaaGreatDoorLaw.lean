/- The law Ordered, walked: it answers true. How many bytes a code point has, by its bytes; a text in which U+FFFD stands for each byte that is no part of one: plain lists. The law's own size. The law Ill, walked: it answers true. What the listed variables give at the call's first world, and a world that holds them. What the law Ill asks of its arguments, and what its walk gives. -/
import Derived.Test.YtmhaknejeobfgaaGreatDoorKeys
import Derived.Test.YtmhaknejeobfgaaGreatDoorComparing
import Derived.Test.YtmhaknejeobfgaaGreatDoorBase
import Derived.Test.YtmhaknejeobfgaaGreatDoorQueues
import Derived.Deep.CutBlock
import Derived.Deep.DeepCutAuto
import Derived.Laws.Concat
import Derived.Laws.Slices
import Derived.Test.YtmhaknejeobfgaaGreatDoorTables
import Derived.Test.YtmhaknejeobfgaaGreatDoorShelf
import Derived.Test.YtmhaknejeobfgaaGreatDoorRows
import Derived.Deep.DeepHandedRow
import Derived.Deep.DeepWitnessRowRef
import Derived.Lib.LaidTab
import Derived.Lib.LaidU8
import Derived.ProofKit
import Derived.Deep.DeepLaidRun
import Derived.OpenShut

/- Ordered1. -/
namespace Go.Proofs.YtmhaknejeobfgaaGreatDoor
open Go.RowKit Go.Proofs.YtmhaknejeobfgaaGreatDoor.Stable Go.Proofs.YtmhaknejeobfgaaGreatDoor.Order Go.Proofs.YtmhaknejeobfgaaGreatDoor.Points
attribute [local go_sem ↓] Go.wp_at_zero Go.wp_at_succ

/-- How two texts stand by their bytes. -/
def lessL (x y : List UInt8) : Int := if Op.bytesLess x y = true then -1 else if x = y then 0 else 1

theorem gtr_strings (x y : ByteArray) (w : World) : (binOp .gtr 9 (.string x) (.string y)).run Tryz.prog w = .ok (.bool (!(Op.bytesLess x.toList y.toList || x.toList == y.toList))) w := by kernel_rfl

set_option maxRecDepth 100000 in
theorem less_calls (x y : ByteArray) (w : World) : Calls Tryz.prog 29 #[.string x, .string y] w fun e w' => e = .returned (.int .i64 (lessL x.data.toList y.data.toList)) ∧ w' = w := by
  obtain ⟨v, hv⟩ : ∃ v, v = lessL x.data.toList y.data.toList := ⟨_, rfl⟩
  rw [← hv]
  unfold lessL at hv
  by_cases h1 : Op.bytesLess x.data.toList y.data.toList = true
  · rw [if_pos h1] at hv
    subst hv
    have b1 : Op.bytesLess x.toList y.toList = true := by rw [Lib.toList_data, Lib.toList_data]; exact h1
    clear h1
    go_enter Tryz.func29, Tryz.ntmps29
    go_wp2
    go_ret
    exact ⟨rfl, rfl⟩
  · rw [if_neg h1] at hv
    have b1 : Op.bytesLess x.toList y.toList = false := by rw [Lib.toList_data, Lib.toList_data]; simpa using h1
    by_cases h2 : x.data.toList = y.data.toList
    · rw [if_pos h2] at hv
      subst hv
      have b2 : (x.toList == y.toList) = true := by rw [Lib.toList_data, Lib.toList_data, h2]; simp
      have hg := gtr_strings x y
      simp only [b1, b2] at hg
      clear h1 h2
      go_enter Tryz.func29, Tryz.ntmps29
      go_wp2
      go_ret
      exact ⟨rfl, rfl⟩
    · rw [if_neg h2] at hv
      subst hv
      have b2 : (x.toList == y.toList) = false := by rw [Lib.toList_data, Lib.toList_data, beq_eq_false_iff_ne]; exact h2
      have hg := gtr_strings x y
      simp only [b1, b2] at hg
      clear h1 h2
      go_enter Tryz.func29, Tryz.ntmps29
      go_wp2
      go_ret
      exact ⟨rfl, rfl⟩

/-- The order of two texts is that of their Keys by their bytes. -/
theorem cmp_less (m : Int) (a b : List UInt8) : lessL (keyL m a) (keyL m b) = cmpL m a b := by
  have hF : ∀ c ∈ form m (codes a), Valid c := form_valid (codes_valid _)
  have hG : ∀ c ∈ form m (codes b), Valid c := form_valid (codes_valid _)
  unfold lessL cmpL keyL
  rcases sign_bytes _ _ hF hG with ⟨h1, h2⟩ | ⟨h1, h2⟩ | ⟨h1, h2⟩
  · rw [if_pos h2, h1]
  · rw [h2, if_neg (by rw [bl_irrefl]; simp), if_pos rfl, signL_self]
  · have h3 := bl_asymm _ _ h2
    have h4 : utf8 (form m (codes a)) ≠ utf8 (form m (codes b)) := by
      intro e
      rw [e, bl_irrefl] at h2
      cases h2
    rw [if_neg (by rw [h3]; simp), if_neg h4, h1]

theorem cmp_swap (m : Int) (a b : List UInt8) : cmpL m b a = - cmpL m a b := signL_swap _ _

theorem cmp_key {m : Int} (h0 : 0 ≤ m) (h3 : m ≤ 3) (a : List UInt8) : cmpL m a (keyL m a) = 0 := by
  unfold cmpL keyL
  rw [codes_of_utf8 _ (form_valid (codes_valid a)), form_fixed h0 h3]
  exact signL_self _

theorem cmp_range (m : Int) (a b : List UInt8) : cmpL m a b = -1 ∨ cmpL m a b = 0 ∨ cmpL m a b = 1 := by
  unfold cmpL
  rcases sign_bytes _ _ (form_valid (m := m) (codes_valid a)) (form_valid (m := m) (codes_valid b)) with h | h | h
  · exact .inl h.1
  · exact .inr (.inl h.1)
  · exact .inr (.inr h.1)

set_option maxRecDepth 100000 in
set_option maxHeartbeats 800000 in
theorem ordered_walk (raw : Int) (a b : ByteArray) (w : World) (h0 : -9223372036854775808 ≤ raw) (h1 : raw ≤ 9223372036854775807) (hE : Env w) (ha : a.size ≤ 1048576) (hb : b.size ≤ 1048576) :
    Calls Tryz.prog 10 #[.int .i64 raw, .string a, .string b] w fun e w' => e = .returned (.bool true) ∧ Fr (fun _ => False) w w' := by
  have hsa := Lib.size_eq a
  have hsb := Lib.size_eq b
  have HB : Hid (a.data.toList.length ≤ 1048576 ∧ b.data.toList.length ≤ 1048576) := by rw [hsa] at ha; rw [hsb] at hb; exact ⟨ha, hb⟩
  have HE : Hid (Env w) := hE
  have HKS : Hid (∀ m : Int, 0 ≤ m → m ≤ 3 → 432 * (keyL m a.data.toList).length ≤ 1099511627776) := Hid.to (fun m p q => by have := key_size p q a.data.toList; have := HB.out; omega)
  clear hsa hsb ha hb hE
  go_enter Tryz.func10, Tryz.ntmps10
  go_wp2_with (first
    | (go_at_call 19; refine (pick_calls raw 4 _ h0 h1 (by omega) (by omega)).mono ?_; rintro e w' ⟨m, rfl, hm, hw⟩; have hw' := hw.symm; subst hw'; clear hw)
    | (go_at_call 20; refine (known_calls m _ (by omega) (by omega) HE.out).mono ?_; rintro e w1 ⟨rfl, hf1⟩; have HF1 : Hid (Fr (fun _ => False) w w1) := hf1; clear hf1))
  refine (key_calls m a _ (by omega) (by omega) (HE.out.kept HF1.out (fun _ _ => id)) (by have := HB.out; omega)).mono ?_
  obtain ⟨k, hk⟩ : ∃ k : ByteArray, k = ⟨(keyL m a.data.toList).toArray⟩ := ⟨_, rfl⟩
  rw [← hk]
  have HK : Hid (k.data.toList = keyL m a.data.toList) := Hid.to (by rw [hk])
  clear hk
  rintro e w2 ⟨rfl, hf2⟩
  have HF2 : Hid (Fr (fun _ => False) w w2) := HF1.out.trans hf2 (fun _ _ h => h)
  clear hf2
  go_wp2_with fail
  refine (key_calls m b _ (by omega) (by omega) (HE.out.kept HF2.out (fun _ _ => id)) (by have := HB.out; omega)).mono ?_
  obtain ⟨l, hl⟩ : ∃ l : ByteArray, l = ⟨(keyL m b.data.toList).toArray⟩ := ⟨_, rfl⟩
  rw [← hl]
  have HL : Hid (l.data.toList = keyL m b.data.toList) := Hid.to (by rw [hl])
  clear hl
  rintro e w3 ⟨rfl, hf3⟩
  have HF3 : Hid (Fr (fun _ => False) w w3) := HF2.out.trans hf3 (fun _ _ h => h)
  clear hf3
  obtain ⟨n, hn⟩ : ∃ n, n = cmpL m a.data.toList b.data.toList := ⟨_, rfl⟩
  have HN : Hid (n = cmpL m a.data.toList b.data.toList) := hn
  have n0 : -1 ≤ n := by rcases cmp_range m a.data.toList b.data.toList with h | h | h <;> omega
  have n1 : n ≤ 1 := by rcases cmp_range m a.data.toList b.data.toList with h | h | h <;> omega
  clear hn
  go_wp2_with fail
  refine (compare_calls m a b _ (by omega) (by omega) (HE.out.kept HF3.out (fun _ _ => id)) (by have := HB.out; omega) (by have := HB.out; omega)).mono ?_
  rw [← HN.out]
  rintro e w4 ⟨rfl, hf4⟩
  have HF4 : Hid (Fr (fun _ => False) w w4) := HF3.out.trans hf4 (fun _ _ h => h)
  clear hf4
  go_wp2_with fail
  refine (compare_calls m b a _ (by omega) (by omega) (HE.out.kept HF4.out (fun _ _ => id)) (by have := HB.out; omega) (by have := HB.out; omega)).mono ?_
  rw [cmp_swap, ← HN.out]
  rintro e w5 ⟨rfl, hf5⟩
  have HF5 : Hid (Fr (fun _ => False) w w5) := HF4.out.trans hf5 (fun _ _ h => h)
  clear hf5
  go_wp2_with fail
  refine (compare_calls m a k _ (by omega) (by omega) (HE.out.kept HF5.out (fun _ _ => id)) (by have := HB.out; omega) (by rw [HK.out]; exact HKS.out m (by omega) (by omega))).mono ?_
  rw [HK.out, cmp_key (by omega) (by omega)]
  rintro e w6 ⟨rfl, hf6⟩
  have HF6 : Hid (Fr (fun _ => False) w w6) := HF5.out.trans hf6 (fun _ _ h => h)
  clear hf6
  go_wp2_with fail
  refine (less_calls k l _).mono ?_
  rw [HK.out, HL.out, cmp_less, ← HN.out]
  rintro e w7 ⟨rfl, hw⟩
  have hw' := hw.symm
  subst hw'
  clear hw
  go_wp2
  go_ret
  exact ⟨rfl, HF6.out⟩

end Go.Proofs.YtmhaknejeobfgaaGreatDoor

/- Ill0. -/
namespace Go.Proofs.YtmhaknejeobfgaaGreatDoor
open Go.RowKit Go.Proofs.YtmhaknejeobfgaaGreatDoor.Stable Go.Proofs.YtmhaknejeobfgaaGreatDoor.Order Go.Proofs.YtmhaknejeobfgaaGreatDoor.Points
open Go.Lib (decodeL decodeL_width decodeN encodeRune)

def needOf (b0 : Nat) : Nat := if b0 < 224 then 2 else if b0 < 240 then 3 else 4
def lowOf (b0 : Nat) : Nat := if b0 = 224 then 160 else if b0 = 240 then 144 else 128
def topOf (b0 : Nat) : Nat := if b0 = 237 then 159 else if b0 = 244 then 143 else 191

/-- How many bytes it has, by its bytes; 0: none begins here. -/
def sizeB (b0 b1 b2 b3 : Nat) : Nat :=
  if b0 < 128 then 1 else if b0 < 194 ∨ 244 < b0 then 0 else if b1 < lowOf b0 ∨ topOf b0 < b1 then 0 else if 3 ≤ needOf b0 ∧ (b2 < 128 ∨ 191 < b2) then 0 else if 4 ≤ needOf b0 ∧ (b3 < 128 ∨ 191 < b3) then 0 else needOf b0

/-- The bounds of the second byte. -/
theorem second (b0 b1 : Nat) : (b1 < lowOf b0 ∨ topOf b0 < b1) ↔ (b1 < 128 ∨ 191 < b1 ∨ (b0 = 224 ∧ b1 < 160) ∨ (b0 = 240 ∧ b1 < 144) ∨ (b0 = 237 ∧ 159 < b1) ∨ (b0 = 244 ∧ 143 < b1)) := by
  unfold lowOf topOf
  by_cases c1 : b0 = 224
  · subst c1; simp; omega
  by_cases c2 : b0 = 240
  · subst c2; simp; omega
  by_cases c3 : b0 = 237
  · subst c3; simp; omega
  by_cases c4 : b0 = 244
  · subst c4; simp; omega
  simp [c1, c2, c3, c4]

theorem none_of {b0 b1 b2 b3 : Nat} (hs : sizeB b0 b1 b2 b3 = 0) (hd : decB b0 b1 b2 b3 = (65533, 1)) : sizeB b0 b1 b2 b3 = if decB b0 b1 b2 b3 = (65533, 1) then 0 else (decB b0 b1 b2 b3).2 := by rw [hd, if_pos rfl, hs]

theorem some_of {b0 b1 b2 b3 v n : Nat} (hs : sizeB b0 b1 b2 b3 = n) (hd : decB b0 b1 b2 b3 = (v, n)) (hn : n ≠ 1 ∨ v ≠ 65533) : sizeB b0 b1 b2 b3 = if decB b0 b1 b2 b3 = (65533, 1) then 0 else (decB b0 b1 b2 b3).2 := by
  rw [hd, if_neg, hs]
  intro e
  cases e
  omega

theorem size_dec (b0 b1 b2 b3 : Nat) (h0 : b0 ≤ 255) (h1 : b1 ≤ 255) (h2 : b2 ≤ 255) (h3 : b3 ≤ 255) : sizeB b0 b1 b2 b3 = if decB b0 b1 b2 b3 = (65533, 1) then 0 else (decB b0 b1 b2 b3).2 := by
  have sec := second b0 b1
  by_cases c0 : b0 < 128
  · refine some_of (n := 1) (v := b0) ?_ ?_ (by omega)
    · unfold sizeB; rw [if_pos c0]
    · unfold decB decodeN; rw [if_pos c0]
  by_cases c1 : b0 < 192 ∨ 247 < b0
  · refine none_of ?_ ?_
    · unfold sizeB; rw [if_neg c0, if_pos (by omega)]
    · unfold decB decodeN; rw [if_neg c0, if_neg (by omega), if_neg (by omega), if_neg (by omega)]
  by_cases c2 : b0 < 224
  · by_cases d1 : b1 / 64 = 2
    · by_cases c3 : b0 < 194
      · refine none_of ?_ ?_
        · unfold sizeB; rw [if_neg c0, if_pos (by omega)]
        · unfold decB decodeN; rw [if_neg c0, if_pos (by omega), if_neg (by omega)]
      · refine some_of (n := 2) (v := b0 % 32 * 64 + b1 % 64) ?_ ?_ (by omega)
        · have en : needOf b0 = 2 := by unfold needOf; rw [if_pos c2]
          unfold sizeB; rw [if_neg c0, if_neg (by omega), if_neg (by rw [sec]; omega), en, if_neg (by omega), if_neg (by omega)]
        · unfold decB decodeN; rw [if_neg c0, if_pos (by omega), if_pos (by omega)]
    · refine none_of ?_ ?_
      · unfold sizeB; rw [if_neg c0]
        by_cases c3 : b0 < 194
        · rw [if_pos (by omega)]
        · rw [if_neg (by omega), if_pos (by rw [sec]; omega)]
      · unfold decB decodeN; rw [if_neg c0, if_neg (by omega), if_neg (by omega), if_neg (by omega)]
  by_cases c3 : b0 < 240
  · have en : needOf b0 = 3 := by unfold needOf; rw [if_neg c2, if_pos c3]
    by_cases d1 : b1 / 64 = 2 ∧ b2 / 64 = 2
    · by_cases d2 : b0 % 16 * 4096 + b1 % 64 * 64 + b2 % 64 ≥ 2048 ∧ (b0 % 16 * 4096 + b1 % 64 * 64 + b2 % 64 < 55296 ∨ (57344 ≤ b0 % 16 * 4096 + b1 % 64 * 64 + b2 % 64 ∧ b0 % 16 * 4096 + b1 % 64 * 64 + b2 % 64 ≤ 1114111))
      · refine some_of (n := 3) (v := b0 % 16 * 4096 + b1 % 64 * 64 + b2 % 64) ?_ ?_ (by omega)
        · unfold sizeB; rw [if_neg c0, if_neg (by omega), if_neg (by rw [sec]; omega), en, if_neg (by omega), if_neg (by omega)]
        · unfold decB decodeN; rw [if_neg c0, if_neg (by omega), if_pos (by omega), if_pos d2]
      · refine none_of ?_ ?_
        · unfold sizeB; rw [if_neg c0, if_neg (by omega), if_pos (by rw [sec]; omega)]
        · unfold decB decodeN; rw [if_neg c0, if_neg (by omega), if_pos (by omega), if_neg d2]
    · refine none_of ?_ ?_
      · unfold sizeB; rw [if_neg c0, if_neg (by omega), en]
        by_cases d3 : b1 / 64 = 2
        · by_cases d4 : b1 < lowOf b0 ∨ topOf b0 < b1
          · rw [if_pos d4]
          · rw [if_neg d4, if_pos (by omega)]
        · rw [if_pos (by rw [sec]; omega)]
      · unfold decB decodeN; rw [if_neg c0, if_neg (by omega), if_neg (by omega), if_neg (by omega)]
  · have en : needOf b0 = 4 := by unfold needOf; rw [if_neg c2, if_neg c3]
    by_cases d1 : b1 / 64 = 2 ∧ b2 / 64 = 2 ∧ b3 / 64 = 2
    · by_cases d2 : b0 % 8 * 262144 + b1 % 64 * 4096 + b2 % 64 * 64 + b3 % 64 ≥ 65536 ∧ (b0 % 8 * 262144 + b1 % 64 * 4096 + b2 % 64 * 64 + b3 % 64 < 55296 ∨ (57344 ≤ b0 % 8 * 262144 + b1 % 64 * 4096 + b2 % 64 * 64 + b3 % 64 ∧ b0 % 8 * 262144 + b1 % 64 * 4096 + b2 % 64 * 64 + b3 % 64 ≤ 1114111))
      · refine some_of (n := 4) (v := b0 % 8 * 262144 + b1 % 64 * 4096 + b2 % 64 * 64 + b3 % 64) ?_ ?_ (by omega)
        · unfold sizeB; rw [if_neg c0, if_neg (by omega), if_neg (by rw [sec]; omega), en, if_neg (by omega), if_neg (by omega)]
        · unfold decB decodeN; rw [if_neg c0, if_neg (by omega), if_neg (by omega), if_pos (by omega), if_pos d2]
      · refine none_of ?_ ?_
        · unfold sizeB; rw [if_neg c0]
          by_cases d3 : 244 < b0
          · rw [if_pos (by omega)]
          · rw [if_neg (by omega), if_pos (by rw [sec]; omega)]
        · unfold decB decodeN; rw [if_neg c0, if_neg (by omega), if_neg (by omega), if_pos (by omega), if_neg d2]
    · refine none_of ?_ ?_
      · unfold sizeB; rw [if_neg c0, en]
        by_cases d2 : 244 < b0
        · rw [if_pos (by omega)]
        rw [if_neg (by omega)]
        by_cases d3 : b1 / 64 = 2
        · by_cases d4 : b1 < lowOf b0 ∨ topOf b0 < b1
          · rw [if_pos d4]
          · rw [if_neg d4]
            by_cases d5 : b2 / 64 = 2
            · rw [if_neg (by omega), if_pos (by omega)]
            · rw [if_pos (by omega)]
        · rw [if_pos (by rw [sec]; omega)]
      · unfold decB decodeN; rw [if_neg c0, if_neg (by omega), if_neg (by omega), if_neg (by omega)]

/-- The text's step. -/
theorem plain_step {l : List UInt8} (h : l ≠ []) : utf8 (codes l) = (if decodeL l = (65533, 1) then [239, 191, 189] else l.take (decodeL l).2) ++ utf8 (codes (l.drop (decodeL l).2)) := by
  rw [codes_step l h, utf8_cons]
  congr 1
  by_cases hd : decodeL l = (65533, 1)
  · rw [if_pos hd, hd]
    decide
  · rw [if_neg hd]
    refine Lib.encode_decode l h (fun e => hd ?_)
    exact Prod.ext e.1 e.2

theorem plain_key (m : Int) (l : List UInt8) : keyL m (utf8 (codes l)) = keyL m l := by
  unfold keyL
  rw [codes_of_utf8 _ (codes_valid l)]

end Go.Proofs.YtmhaknejeobfgaaGreatDoor

/- Ill1. -/
namespace Go.Proofs.YtmhaknejeobfgaaGreatDoor
open Go.RowKit Go.Proofs.YtmhaknejeobfgaaGreatDoor.Stable Go.Proofs.YtmhaknejeobfgaaGreatDoor.Order Go.Proofs.YtmhaknejeobfgaaGreatDoor.Points
attribute [local go_sem ↓] Go.wp_at_zero Go.wp_at_succ

theorem size_second {b0 b1 b2 b3 : Nat} (h0 : 194 ≤ b0) (h1 : b0 ≤ 244) (h : b1 < lowOf b0 ∨ topOf b0 < b1) : sizeB b0 b1 b2 b3 = 0 := by
  unfold sizeB
  rw [if_neg (by omega), if_neg (by omega), if_pos h]

theorem size_tail {b0 b1 b2 b3 : Nat} (h0 : 194 ≤ b0) (h1 : b0 ≤ 244) (h : (3 ≤ needOf b0 ∧ (b2 < 128 ∨ 191 < b2)) ∨ (4 ≤ needOf b0 ∧ (b3 < 128 ∨ 191 < b3))) : sizeB b0 b1 b2 b3 = 0 := by
  unfold sizeB
  rw [if_neg (by omega), if_neg (by omega)]
  by_cases hs : b1 < lowOf b0 ∨ topOf b0 < b1
  · rw [if_pos hs]
  · rw [if_neg hs]
    by_cases h2 : 3 ≤ needOf b0 ∧ (b2 < 128 ∨ 191 < b2)
    · rw [if_pos h2]
    · rw [if_neg h2, if_pos (by omega)]

theorem size_third {s : ByteArray} {b0 b1 i k : Nat} (h0 : 194 ≤ b0) (h1 : b0 ≤ 244) (hk : k < needOf b0) (hn : needOf b0 ≤ 4) (h2 : 2 ≤ k) (h : byt s (i + k) < 128 ∨ 191 < byt s (i + k)) : sizeB b0 b1 (byt s (i + 2)) (byt s (i + 3)) = 0 := by
  refine size_tail h0 h1 ?_
  have hk2 : k = 2 ∨ k = 3 := by omega
  rcases hk2 with rfl | rfl
  · exact .inl ⟨by omega, h⟩
  · exact .inr ⟨by omega, h⟩

theorem size_full {b0 b1 b2 b3 : Nat} (h0 : 194 ≤ b0) (h1 : b0 ≤ 244) (hs : ¬ (b1 < lowOf b0 ∨ topOf b0 < b1)) (h2 : 3 ≤ needOf b0 → 128 ≤ b2 ∧ b2 ≤ 191) (h3 : 4 ≤ needOf b0 → 128 ≤ b3 ∧ b3 ≤ 191) : sizeB b0 b1 b2 b3 = needOf b0 := by
  unfold sizeB
  rw [if_neg (by omega), if_neg (by omega), if_neg hs, if_neg (by omega), if_neg (by omega)]

theorem size_short {b0 b1 b2 b3 r : Nat} (hn : 2 ≤ needOf b0) (hn4 : needOf b0 ≤ 4) (h0 : 194 ≤ b0) (h1 : b0 ≤ 244) (e1 : r ≤ 1 → b1 = 0) (e2 : r ≤ 2 → b2 = 0) (e3 : r ≤ 3 → b3 = 0) (hr : r < needOf b0) : sizeB b0 b1 b2 b3 = 0 := by
  by_cases c1 : r ≤ 1
  · refine size_second h0 h1 ((second b0 b1).2 (.inl ?_))
    rw [e1 c1]
    omega
  · refine size_tail h0 h1 ?_
    by_cases c2 : r ≤ 2
    · exact .inl ⟨by omega, .inl (by rw [e2 c2]; omega)⟩
    · exact .inr ⟨by omega, .inl (by rw [e3 (by omega)]; omega)⟩

set_option maxRecDepth 100000 in
set_option maxHeartbeats 1600000 in
theorem size_calls (s : ByteArray) (i : Nat) (w : World) (hi : i < s.size) (hs : s.size ≤ 1099511627776) :
    Calls Tryz.prog 46 #[.string s, .int .i64 i] w fun e w' => e = .returned (.int .i64 (sizeB (byt s i) (byt s (i + 1)) (byt s (i + 2)) (byt s (i + 3)))) ∧ w' = w := by
  have i0 : (0 : Int) ≤ (i : Int) := by omega
  have i1 : (i : Int) < (s.size : Int) := by omega
  have s1 : (s.size : Int) ≤ 1099511627776 := by omega
  obtain ⟨b0, hb⟩ : ∃ b0, b0 = byt s i := ⟨_, rfl⟩
  have hx0 : ∀ w, (Instr.index 9 (.string s) (.int .i64 i)).run Tryz.prog w = .ok (.int .u8 b0) w := fun w => by rw [hb]; exact byt_index rfl hi w
  obtain ⟨z, hz⟩ : ∃ z, z = sizeB (byt s i) (byt s (i + 1)) (byt s (i + 2)) (byt s (i + 3)) := ⟨_, rfl⟩
  rw [← hz]
  have hb255 := byt_le s i
  rw [← hb] at hz hb255
  have HZ : Hid (z = sizeB b0 (byt s (i + 1)) (byt s (i + 2)) (byt s (i + 3)) ∧ i < s.size) := ⟨hz, hi⟩
  clear hb hz hi hs
  go_enter Tryz.func46, Tryz.ntmps46
  go_upto_block 0 with fail
  go_cut [6] (fun v6 wc => ∃ n : Nat, v6 = .int .i64 n ∧ wc = w ∧ 2 ≤ n ∧ n ≤ 4 ∧ Hid (n = needOf b0 ∧ 194 ≤ b0 ∧ b0 ≤ 244))
  case first =>
    by_cases c0 : b0 < 128
    · have k0 : (b0 : Int) < 128 := by omega
      have HR : Hid (z = 1) := Hid.to (by rw [HZ.out.1]; simp [sizeB, c0])
      clear c0
      go_wp2
      go_ret
      rw [HR.out]
      exact ⟨rfl, rfl⟩
    have k0 : (128 : Int) ≤ (b0 : Int) := by omega
    by_cases c1 : b0 < 194
    · have k1 : (b0 : Int) < 194 := by omega
      have HR : Hid (z = 0) := Hid.to (by rw [HZ.out.1]; simp [sizeB, c0, c1])
      clear c0 c1
      go_wp2
      go_ret
      rw [HR.out]
      exact ⟨rfl, rfl⟩
    have k1 : (194 : Int) ≤ (b0 : Int) := by omega
    by_cases c2 : 244 < b0
    · have k2 : (244 : Int) < (b0 : Int) := by omega
      have HR : Hid (z = 0) := Hid.to (by rw [HZ.out.1]; simp [sizeB, c0, c2])
      clear c0 c1 c2
      go_wp2
      go_ret
      rw [HR.out]
      exact ⟨rfl, rfl⟩
    have k2 : (b0 : Int) ≤ 244 := by omega
    by_cases c3 : b0 < 224
    · have k3 : (b0 : Int) < 224 := by omega
      have HR : Hid (2 = needOf b0 ∧ 194 ≤ b0 ∧ b0 ≤ 244) := Hid.to ⟨by simp [needOf, c3], by omega, by omega⟩
      clear c0 c1 c2 c3
      go_wp2
      go_meet
      case rel => exact ⟨2, rfl, rfl, by omega, by omega, HR⟩
    have k3 : (224 : Int) ≤ (b0 : Int) := by omega
    by_cases c4 : b0 < 240
    · have k4 : (b0 : Int) < 240 := by omega
      have HR : Hid (3 = needOf b0 ∧ 194 ≤ b0 ∧ b0 ≤ 244) := Hid.to ⟨by simp [needOf, c3, c4], by omega, by omega⟩
      clear c0 c1 c2 c3 c4
      go_wp2
      go_meet
      case rel => exact ⟨3, rfl, rfl, by omega, by omega, HR⟩
    have k4 : (240 : Int) ≤ (b0 : Int) := by omega
    have HR : Hid (4 = needOf b0 ∧ 194 ≤ b0 ∧ b0 ≤ 244) := Hid.to ⟨by simp [needOf, c3, c4], by omega, by omega⟩
    clear c0 c1 c2 c3 c4
    go_wp2
    go_meet
    case rel => exact ⟨4, rfl, rfl, by omega, by omega, HR⟩
  case rest =>
    obtain ⟨n, rfl, rfl, n2, n4, HN⟩ := hcut
    have m2 : (2 : Int) ≤ (n : Int) := by omega
    have m4 : (n : Int) ≤ 4 := by omega
    go_upto_block 1 with fail
    go_cut [7, 8] (fun v7 v8 wd => ∃ lo hi : Nat, v7 = .int .u8 lo ∧ v8 = .int .u8 hi ∧ wd = wc ∧ Hid (lo = lowOf b0 ∧ hi = topOf b0))
    case first =>
      by_cases c1 : b0 = 224
      · have k1 : ((b0 : Int) == 224) = true := by simp; omega
        have HR : Hid (160 = lowOf b0 ∧ 191 = topOf b0) := Hid.to ⟨by simp [lowOf, c1], by simp [topOf, c1]⟩
        clear c1
        go_wp2
        go_meet
        case rel => exact ⟨160, 191, rfl, rfl, rfl, HR⟩
      have k1 : ((b0 : Int) == 224) = false := by rw [beq_eq_false_iff_ne]; omega
      by_cases c2 : b0 = 237
      · have k2 : ((b0 : Int) == 237) = true := by simp; omega
        have HR : Hid (128 = lowOf b0 ∧ 159 = topOf b0) := Hid.to ⟨by simp [lowOf, c2], by simp [topOf, c2]⟩
        clear c1 c2
        go_wp2
        go_meet
        case rel => exact ⟨128, 159, rfl, rfl, rfl, HR⟩
      have k2 : ((b0 : Int) == 237) = false := by rw [beq_eq_false_iff_ne]; omega
      by_cases c3 : b0 = 240
      · have k3 : ((b0 : Int) == 240) = true := by simp; omega
        have HR : Hid (144 = lowOf b0 ∧ 191 = topOf b0) := Hid.to ⟨by simp [lowOf, c3], by simp [topOf, c3]⟩
        clear c1 c2 c3
        go_wp2
        go_meet
        case rel => exact ⟨144, 191, rfl, rfl, rfl, HR⟩
      have k3 : ((b0 : Int) == 240) = false := by rw [beq_eq_false_iff_ne]; omega
      by_cases c4 : b0 = 244
      · have k4 : ((b0 : Int) == 244) = true := by simp; omega
        have HR : Hid (128 = lowOf b0 ∧ 143 = topOf b0) := Hid.to ⟨by simp [lowOf, c4], by simp [topOf, c4]⟩
        clear c1 c2 c3 c4
        go_wp2
        go_meet
        case rel => exact ⟨128, 143, rfl, rfl, rfl, HR⟩
      have k4 : ((b0 : Int) == 244) = false := by rw [beq_eq_false_iff_ne]; omega
      have HR : Hid (128 = lowOf b0 ∧ 191 = topOf b0) := Hid.to ⟨by simp [lowOf, c1, c3], by simp [topOf, c2, c4]⟩
      clear c1 c2 c3 c4
      go_wp2
      go_meet
      case rel => exact ⟨128, 191, rfl, rfl, rfl, HR⟩
    case rest =>
      obtain ⟨lo, hi, rfl, rfl, rfl, HL⟩ := hcut
      by_cases c1 : s.size < i + n
      · have k1 : (s.size : Int) < (i : Int) + (n : Int) := by omega
        have HR : Hid (z = 0) := Hid.to (by
          rw [HZ.out.1]
          obtain ⟨e1, e2, e3⟩ := HN.out
          exact size_short (HN.out.1 ▸ n2) (by omega) e2 e3 (fun h => byt_none (by omega)) (fun h => byt_none (by omega)) (fun h => byt_none (by omega)) (r := s.size - i) (by omega))
        clear c1
        go_wp2
        go_ret
        rw [HR.out]
        exact ⟨rfl, rfl⟩
      have k1 : (i : Int) + (n : Int) ≤ (s.size : Int) := by omega
      obtain ⟨b1, hb1⟩ : ∃ b1, b1 = byt s (i + 1) := ⟨_, rfl⟩
      have hx1 : ∀ w, (Instr.index 9 (.string s) (.int .i64 ((i : Int) + 1))).run Tryz.prog w = .ok (.int .u8 b1) w := fun w => by rw [hb1]; exact byt_index (by omega) (by omega) w
      have HZ1 : Hid (z = sizeB b0 b1 (byt s (i + 2)) (byt s (i + 3))) := Hid.to (by rw [hb1]; exact HZ.out.1)
      have HI : Hid (i + n ≤ s.size) := Hid.to (by omega)
      clear c1 hb1
      by_cases c2 : b1 < lo
      · have k2 : (b1 : Int) < (lo : Int) := by omega
        have HR : Hid (z = 0) := Hid.to (by
          rw [HZ1.out]
          exact size_second HN.out.2.1 HN.out.2.2 (.inl (HL.out.1 ▸ c2)))
        clear c2
        go_wp2
        go_ret
        rw [HR.out]
        exact ⟨rfl, rfl⟩
      have k2 : (lo : Int) ≤ (b1 : Int) := by omega
      by_cases c3 : hi < b1
      · have k3 : (hi : Int) < (b1 : Int) := by omega
        have HR : Hid (z = 0) := Hid.to (by
          rw [HZ1.out]
          exact size_second HN.out.2.1 HN.out.2.2 (.inr (HL.out.2 ▸ c3)))
        clear c2 c3
        go_wp2
        go_ret
        rw [HR.out]
        exact ⟨rfl, rfl⟩
      have k3 : (b1 : Int) ≤ (hi : Int) := by omega
      have d1 : decide ((s.size : Int) < (i : Int) + (n : Int)) = false := decide_eq_false (by omega)
      have d2 : decide (b1 < lo) = false := decide_eq_false (by omega)
      have d3 : decide (hi < b1) = false := decide_eq_false (by omega)
      have HS : Hid (¬ (b1 < lowOf b0 ∨ topOf b0 < b1)) := Hid.to (by rw [← HL.out.1, ← HL.out.2]; omega)
      clear c2 c3
      go_wp2
      go_loopw [9] (fun vk wr => ∃ k : Nat, vk = .int .i64 k ∧ 2 ≤ k ∧ k ≤ n ∧ wr = wc ∧ Hid (∀ j, 2 ≤ j → j < k → 128 ≤ byt s (i + j) ∧ byt s (i + j) ≤ 191)) (fun vk _ => n - (intOf vk).toNat)
      case atStart => exact ⟨2, rfl, Nat.le_refl _, n2, rfl, Hid.to (fun j h1 h2 => by omega)⟩
      case round =>
        obtain ⟨k, rfl, q2, qn, rfl, HK⟩ := hrel
        by_cases hlt : k < n
        · have j0 : (0 : Int) ≤ (k : Int) := by omega
          have j1 : (k : Int) < (n : Int) := by omega
          obtain ⟨bk, hbk⟩ : ∃ bk, bk = byt s (i + k) := ⟨_, rfl⟩
          have hxk : ∀ w, (Instr.index 9 (.string s) (.int .i64 ((i : Int) + (k : Int)))).run Tryz.prog w = .ok (.int .u8 bk) w := fun w => by rw [hbk]; exact byt_index (by omega) (by have := HI.out; omega) w
          have HBK : Hid (bk = byt s (i + k)) := hbk
          clear hbk
          by_cases c4 : bk < 128
          · have k4 : (bk : Int) < 128 := by omega
            have HR : Hid (z = 0) := Hid.to (by
              rw [HZ1.out]
              exact size_third (s := s) HN.out.2.1 HN.out.2.2 (HN.out.1 ▸ hlt) (by rw [← HN.out.1]; exact n4) q2 (.inl (HBK.out ▸ c4)))
            clear c4
            go_wp2
            go_ret
            rw [HR.out]
            exact ⟨rfl, rfl⟩
          have k4 : (128 : Int) ≤ (bk : Int) := by omega
          by_cases c5 : 191 < bk
          · have k5 : (191 : Int) < (bk : Int) := by omega
            have HR : Hid (z = 0) := Hid.to (by
              rw [HZ1.out]
              exact size_third (s := s) HN.out.2.1 HN.out.2.2 (HN.out.1 ▸ hlt) (by rw [← HN.out.1]; exact n4) q2 (.inr (HBK.out ▸ c5)))
            clear c4 c5
            go_wp2
            go_ret
            rw [HR.out]
            exact ⟨rfl, rfl⟩
          have k5 : (bk : Int) ≤ 191 := by omega
          have HK2 : Hid (∀ j, 2 ≤ j → j < k + 1 → 128 ≤ byt s (i + j) ∧ byt s (i + j) ≤ 191) := Hid.to (fun j h1 h2 => by
            by_cases e : j = k
            · subst e
              rw [← HBK.out]
              omega
            · exact HK.out j h1 (by omega))
          clear c4 c5
          go_wp2
          go_roundw
          case rel => exact ⟨k + 1, by go_num, by omega, by omega, trivial, HK2⟩
          case measure => simp [intOf]; omega
        · obtain rfl : k = n := by omega
          have HR : Hid (z = k) := Hid.to (by
            rw [HZ1.out, HN.out.1]
            exact size_full HN.out.2.1 HN.out.2.2 HS.out (fun h => HK.out 2 (Nat.le_refl _) (by rw [HN.out.1]; omega)) (fun h => HK.out 3 (by omega) (by rw [HN.out.1]; omega)))
          go_wp2
          go_ret
          rw [HR.out]
          exact ⟨rfl, rfl⟩

end Go.Proofs.YtmhaknejeobfgaaGreatDoor

/- Ill2. -/
namespace Go.Proofs.YtmhaknejeobfgaaGreatDoor
open Go.RowKit Go.Proofs.YtmhaknejeobfgaaGreatDoor.Stable Go.Proofs.YtmhaknejeobfgaaGreatDoor.Order Go.Proofs.YtmhaknejeobfgaaGreatDoor.Points
attribute [local go_sem ↓] Go.wp_at_zero Go.wp_at_succ
open Go.Lib (decodeL decodeL_width)

theorem drop_getD (l : List UInt8) (i j : Nat) : (l.drop i).getD j 0 = l.getD (i + j) 0 := by
  rw [List.getD_eq_getElem?_getD, List.getD_eq_getElem?_getD, List.getElem?_drop]

theorem size_at (s : ByteArray) (i : Nat) : sizeB (byt s i) (byt s (i + 1)) (byt s (i + 2)) (byt s (i + 3)) = if decodeL (s.data.toList.drop i) = (65533, 1) then 0 else (decodeL (s.data.toList.drop i)).2 := by
  rw [size_dec _ _ _ _ (byt_le s _) (byt_le s _) (byt_le s _) (byt_le s _), decodeL_B]
  simp only [drop_getD, Nat.add_zero]
  rfl

theorem add_is2 {a b c : ByteArray} (h : c.data.toList = a.data.toList ++ b.data.toList) (hs : c.data.toList.length ≤ 1099511627776) (w : World) : (Op.stringOp .add a b).run Tryz.prog w = .ok (.string c) w := by
  have e : a ++ b = c := by
    have e : (a ++ b).data = c.data := Array.toList_inj.1 (by rw [h]; simp)
    cases hab : a ++ b; cases c
    rw [hab] at e
    simp at e
    rw [e]
  rw [run_string_add_sum w a b ?_, e]
  rw [Lib.size_eq, Lib.size_eq]
  rw [h, List.length_append] at hs
  omega

theorem text_is (l : List UInt8) : ∃ a : ByteArray, a.data.toList = l := ⟨⟨l.toArray⟩, rfl⟩

theorem plain_length (l : List UInt8) : (utf8 (codes l)).length ≤ 4 * l.length := by
  have h1 := utf8_length (codes l)
  have h2 := codes_length l.length l (Nat.le_refl _)
  omega

/-- Where the loop of text stands. -/
def TextAt (s : ByteArray) (i : Nat) (t : ByteArray) : Prop := t.data.toList ++ utf8 (codes (s.data.toList.drop i)) = utf8 (codes s.data.toList) ∧ i ≤ s.size

/-- A byte that is none. -/
theorem TextAt.ill {s : ByteArray} {i : Nat} {t : ByteArray} (h : TextAt s i t) (hi : i < s.size) (hd : decodeL (s.data.toList.drop i) = (65533, 1)) (hs : s.data.toList.length ≤ 1048576) : ∃ t2, TextAt s (i + 1) t2 ∧ ∀ w : World, (Op.stringOp .add t ⟨#[239, 191, 189]⟩).run Tryz.prog w = .ok (.string t2) w := by
  obtain ⟨t2, h2⟩ := text_is (t.data.toList ++ [239, 191, 189])
  have hne : s.data.toList.drop i ≠ [] := fun e => by
    have := congrArg List.length e
    rw [List.length_drop, ← Lib.size_eq] at this
    simp at this
    omega
  have e := plain_step hne
  rw [if_pos hd, hd, List.drop_drop] at e
  have hT : TextAt s (i + 1) t2 := ⟨by rw [h2, List.append_assoc, ← e]; exact h.1, by omega⟩
  refine ⟨t2, hT, fun w => add_is2 h2 ?_ w⟩
  have h3 := congrArg List.length hT.1
  rw [List.length_append] at h3
  have h4 := plain_length s.data.toList
  omega

theorem TextAt.fits {s : ByteArray} {i : Nat} {t : ByteArray} (h : TextAt s i t) (hi : i < s.size) (hd : decodeL (s.data.toList.drop i) ≠ (65533, 1)) (hs : s.data.toList.length ≤ 1048576) : ∃ t2, TextAt s (i + (decodeL (s.data.toList.drop i)).2) t2 ∧ 1 ≤ (decodeL (s.data.toList.drop i)).2 ∧ i + (decodeL (s.data.toList.drop i)).2 ≤ s.size ∧ ∀ w : World, (Op.stringOp .add t (s.extract i (i + (decodeL (s.data.toList.drop i)).2))).run Tryz.prog w = .ok (.string t2) w := by
  have hne : s.data.toList.drop i ≠ [] := fun e => by
    have := congrArg List.length e
    rw [List.length_drop, ← Lib.size_eq] at this
    simp at this
    omega
  have hw := decodeL_width (s.data.toList.drop i)
  have hle := Lib.decodeL_le _ hne
  have e := plain_step hne
  rw [if_neg hd, List.drop_drop] at e
  rw [List.length_drop, ← Lib.size_eq] at hle
  obtain ⟨d, hdd⟩ : ∃ d, d = (decodeL (s.data.toList.drop i)).2 := ⟨_, rfl⟩
  rw [← hdd] at e hw hle ⊢
  obtain ⟨t2, h2⟩ := text_is (t.data.toList ++ (s.data.toList.drop i).take d)
  have hT : TextAt s (i + d) t2 := ⟨by rw [h2, List.append_assoc, ← e]; exact h.1, by omega⟩
  refine ⟨t2, hT, hw, by omega, fun w => add_is2 ?_ ?_ w⟩
  · rw [h2, Lib.extract_data, Nat.add_sub_cancel_left]
  · have h3 := congrArg List.length hT.1
    rw [List.length_append] at h3
    have h4 := plain_length s.data.toList
    omega

set_option maxRecDepth 100000 in
set_option maxHeartbeats 1600000 in
theorem text_calls (s : ByteArray) (w : World) (hs : s.data.toList.length ≤ 1048576) :
    Calls Tryz.prog 25 #[.string s] w fun e w' => ∃ t : ByteArray, e = .returned (.string t) ∧ t.data.toList = utf8 (codes s.data.toList) ∧ w' = w := by
  have s1 : (s.size : Int) ≤ 1048576 := by rw [Lib.size_eq]; omega
  have HS : Hid (s.data.toList.length ≤ 1048576) := hs
  clear hs
  go_enter Tryz.func25, Tryz.ntmps25
  go_wp2
  go_loopw [3, 4] (fun vt vi wr => ∃ (i : Nat) (t : ByteArray), vi = .int .i64 i ∧ vt = .string t ∧ Hid (TextAt s i t) ∧ wr = w) (fun _ vi _ => s.size - (intOf vi).toNat)
  case atStart => exact ⟨0, ⟨#[]⟩, rfl, rfl, Hid.to ⟨rfl, Nat.zero_le _⟩, rfl⟩
  case round =>
    obtain ⟨i, t, rfl, rfl, HT, rfl⟩ := hrel
    by_cases hlt : i < s.size
    · have i0 : (0 : Int) ≤ (i : Int) := by omega
      have i1 : (i : Int) < (s.size : Int) := by omega
      by_cases hd : decodeL (s.data.toList.drop i) = (65533, 1)
      · obtain ⟨t2, hT2, ha⟩ := HT.out.ill hlt hd HS.out
        have HC : Hid (TextAt s (i + 1) t2 ∧ sizeB (byt s i) (byt s (i + 1)) (byt s (i + 2)) (byt s (i + 3)) = 0) := Hid.to ⟨hT2, by rw [size_at, if_pos hd]⟩
        clear hd hT2
        go_wp2_with (go_at_call 46; refine (size_calls s i _ (by omega) (by omega)).mono ?_; rw [HC.out.2]; rintro e w' ⟨rfl, hw⟩; have hw' := hw.symm; subst hw'; clear hw)
        go_roundw
        case rel => exact ⟨i + 1, t2, by go_num, rfl, HC.out.1, trivial⟩
        case measure => simp [intOf]; omega
      · obtain ⟨t2, hT2, hd1, hd2, ha⟩ := HT.out.fits hlt hd HS.out
        obtain ⟨d, hdd⟩ : ∃ d, d = (decodeL (s.data.toList.drop i)).2 := ⟨_, rfl⟩
        have HC : Hid (TextAt s (i + d) t2 ∧ sizeB (byt s i) (byt s (i + 1)) (byt s (i + 2)) (byt s (i + 3)) = d) := Hid.to ⟨hdd ▸ hT2, by rw [size_at, if_neg hd, hdd]⟩
        rw [← hdd] at hd1 hd2 ha
        have j0 : (1 : Int) ≤ (d : Int) := by omega
        have j1 : (i : Int) + (d : Int) ≤ (s.size : Int) := by omega
        have j2 : ((d : Int) == 0) = false := by rw [beq_eq_false_iff_ne]; omega
        have j3 : ((i : Int) + (d : Int)).toNat = i + d := by omega
        clear hd hT2 hdd
        go_wp2_with (go_at_call 46; refine (size_calls s i _ (by omega) (by omega)).mono ?_; rw [HC.out.2]; rintro e w' ⟨rfl, hw⟩; have hw' := hw.symm; subst hw'; clear hw)
        go_roundw
        case rel => exact ⟨i + d, t2, by go_num, rfl, HC.out.1, trivial⟩
        case measure => simp [intOf]; omega
    · have HD : Hid (t.data.toList = utf8 (codes s.data.toList)) := Hid.to (by
        have h := HT.out
        rw [← h.1, List.drop_eq_nil_of_le (by rw [← Lib.size_eq]; omega), codes_nil]
        simp [utf8])
      have i1 : (s.size : Int) ≤ (i : Int) := by omega
      go_wp2
      go_ret
      exact ⟨t, rfl, HD.out, rfl⟩

theorem plain_cmp (m : Int) (a b : List UInt8) : cmpL m (utf8 (codes a)) (utf8 (codes b)) = cmpL m a b := by
  unfold cmpL
  rw [codes_of_utf8 _ (codes_valid a), codes_of_utf8 _ (codes_valid b)]

set_option maxRecDepth 100000 in
set_option maxHeartbeats 1600000 in
theorem ill_walk (raw : Int) (s t : ByteArray) (w : World) (h0 : -9223372036854775808 ≤ raw) (h1 : raw ≤ 9223372036854775807) (hE : Env w) (hs : s.size ≤ 1048576) (ht : t.size ≤ 1048576) :
    Calls Tryz.prog 8 #[.int .i64 raw, .string s, .string t] w fun e w' => e = .returned (.bool true) ∧ Fr (fun _ => False) w w' := by
  have HB : Hid (s.data.toList.length ≤ 1048576 ∧ t.data.toList.length ≤ 1048576) := by rw [Lib.size_eq] at hs ht; exact ⟨hs, ht⟩
  have HE : Hid (Env w) := hE
  clear hE hs ht
  go_enter Tryz.func8, Tryz.ntmps8
  go_wp2_with fail
  refine (pick_calls raw 4 _ h0 h1 (by omega) (by omega)).mono ?_
  rintro e w' ⟨m, rfl, hm, hw⟩
  have hw' := hw.symm
  subst hw'
  clear hw
  have hm0 : (0 : Int) ≤ (m : Int) := by omega
  have hm3 : (m : Int) ≤ 3 := by omega
  go_wp2_with fail
  refine (known_calls m _ hm0 hm3 HE.out).mono ?_
  rintro e w1 ⟨rfl, hf1⟩
  have HF1 : Hid (Fr (fun _ => False) w w1) := hf1
  clear hf1
  obtain ⟨k, hk⟩ : ∃ k : ByteArray, k = ⟨(keyL m s.data.toList).toArray⟩ := ⟨_, rfl⟩
  have HK : Hid (k = ⟨(keyL m s.data.toList).toArray⟩) := hk
  clear hk
  obtain ⟨n, hn⟩ : ∃ n, n = cmpL m s.data.toList t.data.toList := ⟨_, rfl⟩
  have HN : Hid (n = cmpL m s.data.toList t.data.toList) := hn
  clear hn
  go_wp2_with fail
  refine (key_calls m s _ hm0 hm3 (HE.out.kept HF1.out (fun _ _ => id)) (by have := HB.out; omega)).mono ?_
  rw [← HK.out]
  rintro e w2 ⟨rfl, hf2⟩
  have HF2 : Hid (Fr (fun _ => False) w w2) := HF1.out.trans hf2 (fun _ _ h => h)
  clear hf2
  go_wp2_with fail
  refine (text_calls s _ HB.out.1).mono ?_
  rintro e w' ⟨x, rfl, hx, hw⟩
  have hw' := hw.symm
  subst hw'
  clear hw
  have HX : Hid (x.data.toList = utf8 (codes s.data.toList) ∧ 432 * x.data.toList.length ≤ 1099511627776) := Hid.to ⟨hx, by rw [hx]; have := plain_length s.data.toList; have := HB.out; omega⟩
  clear hx
  go_wp2_with fail
  refine (key_calls m x _ hm0 hm3 (HE.out.kept HF2.out (fun _ _ => id)) HX.out.2).mono ?_
  rw [HX.out.1, plain_key, ← HK.out]
  rintro e w3 ⟨rfl, hf3⟩
  have HF3 : Hid (Fr (fun _ => False) w w3) := HF2.out.trans hf3 (fun _ _ h => h)
  clear hf3
  go_wp2_with fail
  refine (compare_calls m s t _ hm0 hm3 (HE.out.kept HF3.out (fun _ _ => id)) (by have := HB.out; omega) (by have := HB.out; omega)).mono ?_
  rw [← HN.out]
  rintro e w4 ⟨rfl, hf4⟩
  have HF4 : Hid (Fr (fun _ => False) w w4) := HF3.out.trans hf4 (fun _ _ h => h)
  clear hf4
  go_wp2_with fail
  refine (text_calls s _ HB.out.1).mono ?_
  rintro e w' ⟨y, rfl, hy, hw⟩
  have hw' := hw.symm
  subst hw'
  clear hw
  have HY : Hid (y.data.toList = utf8 (codes s.data.toList) ∧ 432 * y.data.toList.length ≤ 1099511627776) := Hid.to ⟨hy, by rw [hy]; have := plain_length s.data.toList; have := HB.out; omega⟩
  clear hy
  go_wp2_with fail
  refine (text_calls t _ HB.out.2).mono ?_
  rintro e w' ⟨z, rfl, hz, hw⟩
  have hw' := hw.symm
  subst hw'
  clear hw
  have HZ : Hid (z.data.toList = utf8 (codes t.data.toList) ∧ 432 * z.data.toList.length ≤ 1099511627776) := Hid.to ⟨hz, by rw [hz]; have := plain_length t.data.toList; have := HB.out; omega⟩
  clear hz
  go_wp2_with fail
  refine (compare_calls m y z _ hm0 hm3 (HE.out.kept HF4.out (fun _ _ => id)) HY.out.2 HZ.out.2).mono ?_
  rw [HY.out.1, HZ.out.1, plain_cmp, ← HN.out]
  rintro e w5 ⟨rfl, hf5⟩
  have HF5 : Hid (Fr (fun _ => False) w w5) := HF4.out.trans hf5 (fun _ _ h => h)
  clear hf5
  go_wp2
  go_ret
  exact ⟨rfl, HF5.out⟩

end Go.Proofs.YtmhaknejeobfgaaGreatDoor

/- Frame. -/
namespace Go.Proofs.YtmhaknejeobfgaaGreatDoor
open Go.RowKit Go.ChangeShapes Go.WideShapes Go.ChangeAt

theorem own : ownKnob Tryz.prog.godebug = none := by kernel_rfl

theorem int_range {raw : Int} (h : (Lit.int .i64 raw).wf = true) : -9223372036854775808 ≤ raw ∧ raw ≤ 9223372036854775807 := by
  have h' : (decide (IntKind.i64.min ≤ raw) && decide (raw ≤ IntKind.i64.max)) = true := h
  rw [Bool.and_eq_true, decide_eq_true_eq, decide_eq_true_eq] at h'
  have e1 : IntKind.i64.min = -9223372036854775808 := by decide
  have e2 : IntKind.i64.max = 9223372036854775807 := by decide
  rw [e1, e2] at h'
  exact h'

/-- What the rows list. -/
def laidL : List (String × DataW Unit) := Rows.summedUptoRow.laid

theorem laid_first : ("unicode/utf8.first", Lib.firstData) ∈ laidL := by
  have : laidL[8]? = some ("unicode/utf8.first", Lib.firstData) := by kernel_rfl
  exact List.mem_of_getElem? this

theorem laid_accept : ("unicode/utf8.acceptRanges", Lib.acceptData) ∈ laidL := by
  have : laidL[3]? = some ("unicode/utf8.acceptRanges", Lib.acceptData) := by kernel_rfl
  exact List.mem_of_getElem? this

theorem laid_space : ("strings.asciiSpace", Lib.tabData .u8 Lib.asciiSpaceTab) ∈ laidL := by
  have : laidL[7]? = some ("strings.asciiSpace", Lib.tabData .u8 Lib.asciiSpaceTab) := by kernel_rfl
  exact List.mem_of_getElem? this

theorem gSpace : Tryz.prog.globalNamed "strings.asciiSpace" = some 2 := by kernel_rfl
theorem gSpaceType : (Tryz.prog.globals[2]?).map (·.type) = some 171 := by kernel_rfl
theorem cellsTab : Tryz.prog.cellsOf 171 = 256 := by kernel_rfl
theorem cellsByte : Tryz.prog.cellsOf 5 = 1 := by kernel_rfl

theorem tabIs_of_reads {P : Program} {W : World} {name : String} {k : IntKind} {zs : List Int} {g : Nat} {t e : TypeId} {n : Nat}
    (hg : P.globalNamed name = some g) (hty : (P.globals[g]?).map (·.type) = some t) (ht : P.underlying t = some (.array n e)) (he : P.underlying e = some (.int k)) (hce : P.cellsOf e = 1) (hct : P.cellsOf t = n)
    (h : Lib.VarReads P W name (Lib.tabData k zs)) : Lib.TabIs P W name k zs := by
  obtain ⟨g', t', cs, fuel, p, hg', ht', hvar, hd⟩ := h
  obtain rfl := Option.some.inj (hg.symm.trans hg')
  obtain rfl := Option.some.inj (hty.symm.trans ht')
  unfold Lib.TabIs
  rw [hvar, ← Lib.cells_of_tab ht he hce hct hd]

/-- WHAT THE LIST AND THE WORLD'S SHAPE GIVE: all that the walks ask of the globals. -/
theorem env_of {W : World} (hL : laidMetH Tryz.prog laidL W) (hsh : W.ShapedOpen Tryz.prog) : Env W := by
  have hM : laidMet Tryz.prog laidL W := hL
  refine ⟨?_, Tryz.laysM219.s1_3 W hsh, ?_, ?_⟩
  · obtain ⟨cs, h, _⟩ := hsh.1 10 #[.pointer none] 192 (by decide +kernel) (by kernel_rfl)
    exact lt_of h
  · exact tabIs_of_reads gSpace gSpaceType Tryz.underlying171 Tryz.underlying5 cellsByte cellsTab (Lib.laidMet.reads hM laid_space)
  · exact utf8Tabs_of_reads { Tryz.lays260 with } ⟨by kernel_rfl, by kernel_rfl, by kernel_rfl, by kernel_rfl, by kernel_rfl, by kernel_rfl, by kernel_rfl⟩ (Lib.laidMet.reads hM laid_first) (Lib.laidMet.reads hM laid_accept)

/-- The bytes of a listed text. -/
def laidBytes : DataW Unit → List UInt8
  | .iface _ (.ptr (.agg [.lit (.string l)])) => l
  | _ => []

def intsOf : DataW Unit → List Value
  | .agg l => l.map fun | .lit (.int k z) => .int k z | _ => .bool false
  | _ => []

/-- A WORLD FOR THE WITNESS: the settled one with four blocks more (the texts of two errors; a table's ranges; the table), the nine listed variables holding what their initialisers lay. -/
def laidWorld (P : Program) (os : Os) : World :=
  let N := (World.settled P os).heap.size
  let w0 := World.holding P os ⟨#[.cells #[.string ⟨(laidBytes Rows.laid_strconv_ErrRange).toArray⟩] 226, .cells #[.string ⟨(laidBytes Rows.laid_strconv_ErrSyntax).toArray⟩] 226,
    .cells (Lib.whiteT.map fun (z : Nat) => Value.int .u16 (z : Int)).toArray 206, .cells #[.slice (some ⟨N + 2, 0, none⟩) 7 7, .slice none 0 0, .int .i64 2] 203], #[], []⟩
  let put (h : Array Obj) (g : Nat) (cs : Array Value) : Array Obj := h.modify g fun
    | .cells _ t frozen => .cells cs t frozen
    | o => o
  let h1 := put w0.heap 2 (Lib.asciiSpaceTab.map fun z => Value.int .u8 z).toArray
  let h2 := put h1 0 (Lib.firstTab.map fun z => Value.int .u8 z).toArray
  let h3 := put h2 1 ((List.range 16).flatMap fun i => [Value.int .u8 (Lib.accLo i), Value.int .u8 (Lib.accHi i)]).toArray
  let h4 := put h3 3 #[.pointer (some ⟨N + 3, 0, none⟩)]
  let h5 := put h4 5 #[.iface 224 (.pointer (some ⟨N, 0, none⟩))]
  let h6 := put h5 4 #[.iface 224 (.pointer (some ⟨N + 1, 0, none⟩))]
  let h7 := put h6 8 (intsOf Rows.laid_math_bits_deBruijn32tab).toArray
  let h8 := put h7 9 (intsOf Rows.laid_math_bits_deBruijn64tab).toArray
  let h9 := put h8 7 (intsOf Rows.laid_internal_strconv_uint64pow10).toArray
  { w0 with heap := h9 }

theorem laid_met (os : Os) (args : Array Value) : laidMet Tryz.prog laidL ((laidWorld Tryz.prog os).forCall (fun _ _ => 0) ⟨#[], args, []⟩).memory :=
  laidMet_of_run3 8 (by kernel_rfl) (by kernel_rfl) (by kernel_rfl)

end Go.Proofs.YtmhaknejeobfgaaGreatDoor

/- ConIll. -/
namespace Go.Proofs.YtmhaknejeobfgaaGreatDoor.illProof
open Go.ChangeShapes Go.WideShapes Go.ChangeAt Go.RowKit
open Go.ChangeMaps (open_string shut_string)

theorem bound {x0 : Int} {x1 : ByteArray} {x2 : ByteArray} {H : Type} (h : Rows.uptoSmall H [.lit (.int .i64 x0), .lit (.string x1.data.toList), .lit (.string x2.data.toList)] = true) : x1.size ≤ 1048576 ∧ x2.size ≤ 1048576 ∧ x1.size + x2.size ≤ 1048576 := by
  have h := of_decide_eq_true h
  simp only [Rows.uptoBulkAll, Rows.uptoBulk] at h
  have s1 := Lib.size_eq x1
  have s2 := Lib.size_eq x2
  omega

set_option maxRecDepth 100000 in
theorem contract (H : Type) (enc : TypeId × Value → H) (F : Stop.Interp) (W : World) (base : Nat) (args : Array Value) (ds gs : List (DataW H)) (before : List MemPlace)
    (hval : ∀ (j : Nat) t v, Tryz.f8.params[j]? = some t → args[j]? = some v → Value.okWide Tryz.prog W .any base t v)
    (hW : DataW.Whole enc Tryz.prog Tryz.f8.params.toList (Rows.OpenSpec.upto Rows.illSpec).vars false W args.toList ds gs before)
    (hcond : ∀ k, (Rows.OpenSpec.upto Rows.illSpec).cond = some k → k H (ds ++ gs) = true) (hL : laidMetH Tryz.prog laidL W) (hsh : W.ShapedOpen Tryz.prog) :
    Calls Tryz.prog 8 args W fun e W' => ∃ v, e = .returned v ∧ ((Rows.OpenSpec.upto Rows.illSpec).at F).post enc Tryz.prog Tryz.f8 false true false false W args v W' := by
  have hW' := hW
  obtain ⟨p, q, hA0, hV0, rfl, _, _⟩ := hW
  have hA : DataW.TrodAll enc Tryz.prog W 0 (fun _ => true) true Tryz.f8.params.toList args.toList ds p := hA0
  rw [Tryz.params8] at hA hval
  obtain ⟨v0, vs0, d0, ds0, p0, q0, hargs, rfl, rfl, h0, t0⟩ := trodAll_cons hA
  obtain ⟨v1, vs1, d1, ds1, p1, q1, rfl, rfl, rfl, h1, t1⟩ := trodAll_cons t0
  obtain ⟨v2, vs2, d2, ds2, p2, q2, rfl, rfl, rfl, h2, t2⟩ := trodAll_cons t1
  obtain ⟨rfl, rfl, rfl⟩ := trodAll_nil t2
  obtain rfl : args = #[v0, v1, v2] := by cases args; simp_all
  obtain ⟨rfl, rfl⟩ := trodVars_none hV0
  obtain ⟨x0, rfl, rfl, rfl, w0⟩ := open_int Tryz.underlying3 (hval 0 3 v0 rfl rfl) h0
  obtain ⟨x1, rfl, rfl, rfl, w1⟩ := open_string Tryz.underlying9 (hval 1 9 v1 rfl rfl) h1
  obtain ⟨x2, rfl, rfl, rfl, w2⟩ := open_string Tryz.underlying9 (hval 2 9 v2 rfl rfl) h2
  clear hA0
  simp only [List.append_nil] at hW' hcond
  have hk := hcond Rows.uptoSmall rfl
  have hb := bound hk
  have r0 := int_range w0
  refine (ill_walk x0 x1 x2 W r0.1 r0.2 (env_of hL hsh) hb.1 hb.2.1).mono ?_
  rintro e W' ⟨rfl, hf⟩
  have bel := hf.below
  refine ⟨_, rfl, [.lit (.int .i64 x0), .lit (.string x1.data.toList), .lit (.string x2.data.toList)], [], [], [], [], [], hW', ?_, ?_, ?_, bel.frame _, fun h => by cases h⟩
  · exact trodAll_mk1 (shut_bool Tryz.underlying4 _)
  · exact (trodAll_cons_mk (shut_int Tryz.underlying3 w0) (trodAll_cons_mk (shut_string Tryz.underlying9 w1) (trodAll_cons_mk (shut_string Tryz.underlying9 w2) trodAll_mk0)))
  · rfl

end Go.Proofs.YtmhaknejeobfgaaGreatDoor.illProof
