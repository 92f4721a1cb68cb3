/- How many bytes a code point has, by its bytes; a text in which U+FFFD stands for each byte that is no part of one: plain lists. A code point at a place, as the document's answer reads it; plain numbers. Bytes that are still coming: the code points that are sure, and the bytes that wait. No program is named here. -/
import Derived.Test.YtmhaknejeobfgaaGreatDoorBase

/- Ill0. -/
namespace Go.Proofs.YtmhaknejeobfgaaGreatDoor
open Go.RowKit Go.Proofs.YtmhaknejeobfgaaGreatDoor.Stable Go.Proofs.YtmhaknejeobfgaaGreatDoor.Order Go.Proofs.YtmhaknejeobfgaaGreatDoor.Points
open Go.Lib (decodeL decodeL_width decodeN encodeRune)

def needOf (b0 : Nat) : Nat := if b0 < 224 then 2 else if b0 < 240 then 3 else 4
def lowOf (b0 : Nat) : Nat := if b0 = 224 then 160 else if b0 = 240 then 144 else 128
def topOf (b0 : Nat) : Nat := if b0 = 237 then 159 else if b0 = 244 then 143 else 191

/-- How many bytes it has, by its bytes; 0: none begins here. -/
def sizeB (b0 b1 b2 b3 : Nat) : Nat :=
  if b0 < 128 then 1 else if b0 < 194 ∨ 244 < b0 then 0 else if b1 < lowOf b0 ∨ topOf b0 < b1 then 0 else if 3 ≤ needOf b0 ∧ (b2 < 128 ∨ 191 < b2) then 0 else if 4 ≤ needOf b0 ∧ (b3 < 128 ∨ 191 < b3) then 0 else needOf b0

/-- The bounds of the second byte. -/
theorem second (b0 b1 : Nat) : (b1 < lowOf b0 ∨ topOf b0 < b1) ↔ (b1 < 128 ∨ 191 < b1 ∨ (b0 = 224 ∧ b1 < 160) ∨ (b0 = 240 ∧ b1 < 144) ∨ (b0 = 237 ∧ 159 < b1) ∨ (b0 = 244 ∧ 143 < b1)) := by
  unfold lowOf topOf
  by_cases c1 : b0 = 224
  · subst c1; simp; omega
  by_cases c2 : b0 = 240
  · subst c2; simp; omega
  by_cases c3 : b0 = 237
  · subst c3; simp; omega
  by_cases c4 : b0 = 244
  · subst c4; simp; omega
  simp [c1, c2, c3, c4]

theorem none_of {b0 b1 b2 b3 : Nat} (hs : sizeB b0 b1 b2 b3 = 0) (hd : decB b0 b1 b2 b3 = (65533, 1)) : sizeB b0 b1 b2 b3 = if decB b0 b1 b2 b3 = (65533, 1) then 0 else (decB b0 b1 b2 b3).2 := by rw [hd, if_pos rfl, hs]

theorem some_of {b0 b1 b2 b3 v n : Nat} (hs : sizeB b0 b1 b2 b3 = n) (hd : decB b0 b1 b2 b3 = (v, n)) (hn : n ≠ 1 ∨ v ≠ 65533) : sizeB b0 b1 b2 b3 = if decB b0 b1 b2 b3 = (65533, 1) then 0 else (decB b0 b1 b2 b3).2 := by
  rw [hd, if_neg, hs]
  intro e
  cases e
  omega

theorem size_dec (b0 b1 b2 b3 : Nat) (h0 : b0 ≤ 255) (h1 : b1 ≤ 255) (h2 : b2 ≤ 255) (h3 : b3 ≤ 255) : sizeB b0 b1 b2 b3 = if decB b0 b1 b2 b3 = (65533, 1) then 0 else (decB b0 b1 b2 b3).2 := by
  have sec := second b0 b1
  by_cases c0 : b0 < 128
  · refine some_of (n := 1) (v := b0) ?_ ?_ (by omega)
    · unfold sizeB; rw [if_pos c0]
    · unfold decB decodeN; rw [if_pos c0]
  by_cases c1 : b0 < 192 ∨ 247 < b0
  · refine none_of ?_ ?_
    · unfold sizeB; rw [if_neg c0, if_pos (by omega)]
    · unfold decB decodeN; rw [if_neg c0, if_neg (by omega), if_neg (by omega), if_neg (by omega)]
  by_cases c2 : b0 < 224
  · by_cases d1 : b1 / 64 = 2
    · by_cases c3 : b0 < 194
      · refine none_of ?_ ?_
        · unfold sizeB; rw [if_neg c0, if_pos (by omega)]
        · unfold decB decodeN; rw [if_neg c0, if_pos (by omega), if_neg (by omega)]
      · refine some_of (n := 2) (v := b0 % 32 * 64 + b1 % 64) ?_ ?_ (by omega)
        · have en : needOf b0 = 2 := by unfold needOf; rw [if_pos c2]
          unfold sizeB; rw [if_neg c0, if_neg (by omega), if_neg (by rw [sec]; omega), en, if_neg (by omega), if_neg (by omega)]
        · unfold decB decodeN; rw [if_neg c0, if_pos (by omega), if_pos (by omega)]
    · refine none_of ?_ ?_
      · unfold sizeB; rw [if_neg c0]
        by_cases c3 : b0 < 194
        · rw [if_pos (by omega)]
        · rw [if_neg (by omega), if_pos (by rw [sec]; omega)]
      · unfold decB decodeN; rw [if_neg c0, if_neg (by omega), if_neg (by omega), if_neg (by omega)]
  by_cases c3 : b0 < 240
  · have en : needOf b0 = 3 := by unfold needOf; rw [if_neg c2, if_pos c3]
    by_cases d1 : b1 / 64 = 2 ∧ b2 / 64 = 2
    · by_cases d2 : b0 % 16 * 4096 + b1 % 64 * 64 + b2 % 64 ≥ 2048 ∧ (b0 % 16 * 4096 + b1 % 64 * 64 + b2 % 64 < 55296 ∨ (57344 ≤ b0 % 16 * 4096 + b1 % 64 * 64 + b2 % 64 ∧ b0 % 16 * 4096 + b1 % 64 * 64 + b2 % 64 ≤ 1114111))
      · refine some_of (n := 3) (v := b0 % 16 * 4096 + b1 % 64 * 64 + b2 % 64) ?_ ?_ (by omega)
        · unfold sizeB; rw [if_neg c0, if_neg (by omega), if_neg (by rw [sec]; omega), en, if_neg (by omega), if_neg (by omega)]
        · unfold decB decodeN; rw [if_neg c0, if_neg (by omega), if_pos (by omega), if_pos d2]
      · refine none_of ?_ ?_
        · unfold sizeB; rw [if_neg c0, if_neg (by omega), if_pos (by rw [sec]; omega)]
        · unfold decB decodeN; rw [if_neg c0, if_neg (by omega), if_pos (by omega), if_neg d2]
    · refine none_of ?_ ?_
      · unfold sizeB; rw [if_neg c0, if_neg (by omega), en]
        by_cases d3 : b1 / 64 = 2
        · by_cases d4 : b1 < lowOf b0 ∨ topOf b0 < b1
          · rw [if_pos d4]
          · rw [if_neg d4, if_pos (by omega)]
        · rw [if_pos (by rw [sec]; omega)]
      · unfold decB decodeN; rw [if_neg c0, if_neg (by omega), if_neg (by omega), if_neg (by omega)]
  · have en : needOf b0 = 4 := by unfold needOf; rw [if_neg c2, if_neg c3]
    by_cases d1 : b1 / 64 = 2 ∧ b2 / 64 = 2 ∧ b3 / 64 = 2
    · by_cases d2 : b0 % 8 * 262144 + b1 % 64 * 4096 + b2 % 64 * 64 + b3 % 64 ≥ 65536 ∧ (b0 % 8 * 262144 + b1 % 64 * 4096 + b2 % 64 * 64 + b3 % 64 < 55296 ∨ (57344 ≤ b0 % 8 * 262144 + b1 % 64 * 4096 + b2 % 64 * 64 + b3 % 64 ∧ b0 % 8 * 262144 + b1 % 64 * 4096 + b2 % 64 * 64 + b3 % 64 ≤ 1114111))
      · refine some_of (n := 4) (v := b0 % 8 * 262144 + b1 % 64 * 4096 + b2 % 64 * 64 + b3 % 64) ?_ ?_ (by omega)
        · unfold sizeB; rw [if_neg c0, if_neg (by omega), if_neg (by rw [sec]; omega), en, if_neg (by omega), if_neg (by omega)]
        · unfold decB decodeN; rw [if_neg c0, if_neg (by omega), if_neg (by omega), if_pos (by omega), if_pos d2]
      · refine none_of ?_ ?_
        · unfold sizeB; rw [if_neg c0]
          by_cases d3 : 244 < b0
          · rw [if_pos (by omega)]
          · rw [if_neg (by omega), if_pos (by rw [sec]; omega)]
        · unfold decB decodeN; rw [if_neg c0, if_neg (by omega), if_neg (by omega), if_pos (by omega), if_neg d2]
    · refine none_of ?_ ?_
      · unfold sizeB; rw [if_neg c0, en]
        by_cases d2 : 244 < b0
        · rw [if_pos (by omega)]
        rw [if_neg (by omega)]
        by_cases d3 : b1 / 64 = 2
        · by_cases d4 : b1 < lowOf b0 ∨ topOf b0 < b1
          · rw [if_pos d4]
          · rw [if_neg d4]
            by_cases d5 : b2 / 64 = 2
            · rw [if_neg (by omega), if_pos (by omega)]
            · rw [if_pos (by omega)]
        · rw [if_pos (by rw [sec]; omega)]
      · unfold decB decodeN; rw [if_neg c0, if_neg (by omega), if_neg (by omega), if_neg (by omega)]

/-- The text's step. -/
theorem plain_step {l : List UInt8} (h : l ≠ []) : utf8 (codes l) = (if decodeL l = (65533, 1) then [239, 191, 189] else l.take (decodeL l).2) ++ utf8 (codes (l.drop (decodeL l).2)) := by
  rw [codes_step l h, utf8_cons]
  congr 1
  by_cases hd : decodeL l = (65533, 1)
  · rw [if_pos hd, hd]
    decide
  · rw [if_neg hd]
    refine Lib.encode_decode l h (fun e => hd ?_)
    exact Prod.ext e.1 e.2

theorem plain_key (m : Int) (l : List UInt8) : keyL m (utf8 (codes l)) = keyL m l := by
  unfold keyL
  rw [codes_of_utf8 _ (codes_valid l)]

end Go.Proofs.YtmhaknejeobfgaaGreatDoor

/- Ref0. -/
namespace Go.Proofs.YtmhaknejeobfgaaGreatDoor
open Go.RowKit Go.Proofs.YtmhaknejeobfgaaGreatDoor.Stable Go.Proofs.YtmhaknejeobfgaaGreatDoor.Order Go.Proofs.YtmhaknejeobfgaaGreatDoor.Points
open Go.Lib (decodeL decodeL_width decodeN encodeRune)

/-- How many bytes are wanted by the first. -/
def wantB (b : Nat) : Nat := if b < 128 then 1 else if b < 194 ∨ 244 < b then 0 else needOf b

/-- May the second stand behind the first (its six bits)? -/
def mayB (c b : Nat) : Bool := if c = 224 then decide (32 ≤ b) else if c = 237 then decide (b < 32) else if c = 240 then decide (16 ≤ b) else if c = 244 then decide (b < 16) else true

/-- The code point, and how many bytes it has; 0 bytes: a beginning alone. (r: how many bytes there are.) -/
def atB (r b0 b1 b2 b3 : Nat) : Nat × Nat :=
  if b0 < 128 then (b0, 1) else if b0 < 194 ∨ 244 < b0 then (65533, 1)
  else if r ≤ 1 then (0, 0) else if b1 < lowOf b0 ∨ topOf b0 < b1 then (65533, 1)
  else if needOf b0 = 2 then ((b0 - 192) * 64 + (b1 - 128), 2)
  else if r ≤ 2 then (0, 0) else if b2 < 128 ∨ 191 < b2 then (65533, 1)
  else if needOf b0 = 3 then (((b0 - 224) * 64 + (b1 - 128)) * 64 + (b2 - 128), 3)
  else if r ≤ 3 then (0, 0) else if b3 < 128 ∨ 191 < b3 then (65533, 1)
  else ((((b0 - 240) * 64 + (b1 - 128)) * 64 + (b2 - 128)) * 64 + (b3 - 128), 4)

/-- A beginning at the end is read byte by byte. -/
def fixA (p : Nat × Nat) : Nat × Nat := if p.2 = 0 then (65533, 1) else p

theorem fix_is {v u n : Nat} (hn : n ≠ 0) (h : v = u) : fixA (v, n) = (u, n) := by
  unfold fixA
  rw [if_neg hn, h]

theorem need_cases {b : Nat} (h0 : 194 ≤ b) (h1 : b ≤ 244) : (needOf b = 2 ∧ b < 224) ∨ (needOf b = 3 ∧ 224 ≤ b ∧ b < 240) ∨ (needOf b = 4 ∧ 240 ≤ b) := by
  unfold needOf
  by_cases c1 : b < 224
  · rw [if_pos c1]; omega
  · rw [if_neg c1]
    by_cases c2 : b < 240
    · rw [if_pos c2]; omega
    · rw [if_neg c2]; omega

theorem may_low {c b : Nat} (h0 : 128 ≤ b) (h1 : b ≤ 191) : mayB c (b - 128) = true ↔ ¬ (b < lowOf c ∨ topOf c < b) := by
  rw [second]
  unfold mayB
  by_cases c1 : c = 224
  · subst c1; simp; omega
  by_cases c2 : c = 237
  · subst c2; simp; omega
  by_cases c3 : c = 240
  · subst c3; simp; omega
  by_cases c4 : c = 244
  · subst c4; simp; omega
  simp [c1, c2, c3, c4]; omega

theorem dec_none {b0 b1 b2 b3 : Nat} (h0 : b0 ≤ 255) (h1 : b1 ≤ 255) (h2 : b2 ≤ 255) (h3 : b3 ≤ 255) (h : sizeB b0 b1 b2 b3 = 0) : decB b0 b1 b2 b3 = (65533, 1) := by
  have e := size_dec b0 b1 b2 b3 h0 h1 h2 h3
  rw [h] at e
  by_cases hd : decB b0 b1 b2 b3 = (65533, 1)
  · exact hd
  · rw [if_neg hd] at e
    exfalso
    revert e
    unfold decB decodeN
    repeat' split
    all_goals simp

theorem at_dec (r b0 b1 b2 b3 : Nat) (h0 : b0 ≤ 255) (h1 : b1 ≤ 255) (h2 : b2 ≤ 255) (h3 : b3 ≤ 255) (e1 : r ≤ 1 → b1 = 0) (e2 : r ≤ 2 → b2 = 0) (e3 : r ≤ 3 → b3 = 0) : fixA (atB r b0 b1 b2 b3) = decB b0 b1 b2 b3 := by
  have sec := second b0 b1
  by_cases c0 : b0 < 128
  · unfold atB decB decodeN
    rw [if_pos c0, if_pos c0]
    rfl
  by_cases c1 : b0 < 194 ∨ 244 < b0
  · rw [dec_none h0 h1 h2 h3 (by unfold sizeB; rw [if_neg c0, if_pos c1])]
    unfold atB
    rw [if_neg c0, if_pos c1]
    rfl
  have hn := need_cases (b := b0) (by omega) (by omega)
  unfold atB
  rw [if_neg c0, if_neg c1]
  by_cases c2 : b1 < lowOf b0 ∨ topOf b0 < b1
  · rw [dec_none h0 h1 h2 h3 (by unfold sizeB; rw [if_neg c0, if_neg c1, if_pos c2])]
    by_cases r1 : r ≤ 1
    · rw [if_pos r1]; rfl
    · rw [if_neg r1, if_pos c2]; rfl
  rw [if_neg (fun r1 => c2 (sec.2 (.inl (by rw [e1 r1]; omega)))), if_neg c2]
  rw [sec] at c2
  rcases hn with ⟨n2, m1⟩ | ⟨n3, m1, m2⟩ | ⟨n4, m1⟩
  · rw [if_pos n2]
    unfold decB decodeN
    rw [if_neg c0, if_pos (by omega), if_pos (by omega)]
    exact fix_is (by omega) (by omega)
  · rw [n3, if_neg (by omega)]
    by_cases c3 : b2 < 128 ∨ 191 < b2
    · rw [dec_none h0 h1 h2 h3 (by unfold sizeB; rw [if_neg c0, if_neg c1, if_neg (by rw [sec]; exact c2), n3, if_pos (by omega)])]
      by_cases r1 : r ≤ 2
      · rw [if_pos r1]; rfl
      · rw [if_neg r1, if_pos c3]; rfl
    · rw [if_neg (fun r1 => c3 (.inl (by rw [e2 r1]; omega))), if_neg c3, if_pos rfl]
      unfold decB decodeN
      rw [if_neg c0, if_neg (by omega), if_pos (by omega), if_pos (by omega)]
      exact fix_is (by omega) (by omega)
  · rw [n4, if_neg (by omega), if_neg (by omega : ¬ (4 = 3))]
    by_cases c3 : b2 < 128 ∨ 191 < b2
    · rw [dec_none h0 h1 h2 h3 (by unfold sizeB; rw [if_neg c0, if_neg c1, if_neg (by rw [sec]; exact c2), n4, if_pos (by omega)])]
      by_cases r1 : r ≤ 2
      · rw [if_pos r1]; rfl
      · rw [if_neg r1, if_pos c3]; rfl
    · rw [if_neg (fun r1 => c3 (.inl (by rw [e2 r1]; omega))), if_neg c3]
      by_cases c4 : b3 < 128 ∨ 191 < b3
      · rw [dec_none h0 h1 h2 h3 (by unfold sizeB; rw [if_neg c0, if_neg c1, if_neg (by rw [sec]; exact c2), n4, if_neg (by omega), if_pos (by omega)])]
        by_cases r1 : r ≤ 3
        · rw [if_pos r1]; rfl
        · rw [if_neg r1, if_pos c4]; rfl
      · rw [if_neg (fun r1 => c4 (.inl (by rw [e3 r1]; omega))), if_neg c4]
        unfold decB decodeN
        rw [if_neg c0, if_neg (by omega), if_neg (by omega), if_pos (by omega), if_pos (by omega)]
        exact fix_is (by omega) (by omega)

end Go.Proofs.YtmhaknejeobfgaaGreatDoor

/- Sure. -/
namespace Go.Proofs.YtmhaknejeobfgaaGreatDoor
open Go.Proofs.YtmhaknejeobfgaaGreatDoor.Stable Go.Proofs.YtmhaknejeobfgaaGreatDoor.Order Go.Proofs.YtmhaknejeobfgaaGreatDoor.Points
open Go.Lib (decodeL decodeL_width decodeN)

/-- A code point at the head of bytes; 0 bytes: a beginning alone. -/
def atL (l : List UInt8) : Nat × Nat := atB l.length (l.getD 0 0).toNat (l.getD 1 0).toNat (l.getD 2 0).toNat (l.getD 3 0).toNat

theorem getD_none {l : List UInt8} {k : Nat} (h : l.length ≤ k) : (l.getD k 0).toNat = 0 := by
  rw [List.getD_eq_getElem?_getD, List.getElem?_eq_none h]
  rfl

theorem getD_le (l : List UInt8) (k : Nat) : (l.getD k 0).toNat ≤ 255 := by
  have := (l.getD k 0).toNat_lt
  omega

theorem atL_dec (l : List UInt8) : fixA (atL l) = decodeL l := by
  rw [decodeL_B]
  exact at_dec _ _ _ _ _ (getD_le _ _) (getD_le _ _) (getD_le _ _) (getD_le _ _) (fun h => getD_none h) (fun h => getD_none h) (fun h => getD_none h)

/-- What is sure stays, whatever comes behind it. -/
theorem atB_more {r r' b0 b1 b2 b3 c1 c2 c3 : Nat} (h : (atB r b0 b1 b2 b3).2 ≠ 0) (hr : r ≤ r') (e1 : 1 < r → c1 = b1) (e2 : 2 < r → c2 = b2) (e3 : 3 < r → c3 = b3) : atB r' b0 c1 c2 c3 = atB r b0 b1 b2 b3 := by
  unfold atB at h ⊢
  by_cases k0 : b0 < 128
  · rw [if_pos k0, if_pos k0]
  rw [if_neg k0] at h
  rw [if_neg k0, if_neg k0]
  by_cases k1 : b0 < 194 ∨ 244 < b0
  · rw [if_pos k1, if_pos k1]
  rw [if_neg k1] at h
  rw [if_neg k1, if_neg k1]
  by_cases k2 : r ≤ 1
  · rw [if_pos k2] at h; exact absurd rfl h
  rw [if_neg k2] at h
  rw [if_neg k2, if_neg (by omega : ¬ r' ≤ 1), e1 (by omega)]
  by_cases k3 : b1 < lowOf b0 ∨ topOf b0 < b1
  · rw [if_pos k3, if_pos k3]
  rw [if_neg k3] at h
  rw [if_neg k3, if_neg k3]
  by_cases k4 : needOf b0 = 2
  · rw [if_pos k4, if_pos k4]
  rw [if_neg k4] at h
  rw [if_neg k4, if_neg k4]
  by_cases k5 : r ≤ 2
  · rw [if_pos k5] at h; exact absurd rfl h
  rw [if_neg k5] at h
  rw [if_neg k5, if_neg (by omega : ¬ r' ≤ 2), e2 (by omega)]
  by_cases k6 : b2 < 128 ∨ 191 < b2
  · rw [if_pos k6, if_pos k6]
  rw [if_neg k6] at h
  rw [if_neg k6, if_neg k6]
  by_cases k7 : needOf b0 = 3
  · rw [if_pos k7, if_pos k7]
  rw [if_neg k7] at h
  rw [if_neg k7, if_neg k7]
  by_cases k8 : r ≤ 3
  · rw [if_pos k8] at h; exact absurd rfl h
  rw [if_neg k8, if_neg (by omega : ¬ r' ≤ 3), e3 (by omega)]

/-- Is there a code point for sure? -/
def fullL (l : List UInt8) : Bool := decide (l ≠ [] ∧ (atL l).2 ≠ 0)

theorem full_iff {l : List UInt8} : fullL l = true ↔ l ≠ [] ∧ (atL l).2 ≠ 0 := by unfold fullL; rw [decide_eq_true_eq]

theorem getD_app {a : List UInt8} (x : List UInt8) {k : Nat} (h : k < a.length) : (a ++ x).getD k 0 = a.getD k 0 := by
  rw [List.getD_eq_getElem?_getD, List.getElem?_append_left h, ← List.getD_eq_getElem?_getD]

theorem full_app {a : List UInt8} (h : fullL a = true) (x : List UInt8) : fullL (a ++ x) = true ∧ decodeL (a ++ x) = decodeL a := by
  obtain ⟨h1, h2⟩ := full_iff.1 h
  have hl : 0 < a.length := List.length_pos_iff.2 h1
  have e : atL (a ++ x) = atL a := by
    unfold atL at h2 ⊢
    rw [getD_app x hl]
    exact atB_more h2 (by simp) (fun k => by rw [getD_app x k]) (fun k => by rw [getD_app x k]) (fun k => by rw [getD_app x k])
  refine ⟨full_iff.2 ⟨by simp [h1], by rw [e]; exact h2⟩, ?_⟩
  rw [← atL_dec, ← atL_dec, e]

def sureF : Nat → List UInt8 → List Int
  | 0, _ => []
  | n + 1, l => if fullL l = true then ((decodeL l).1 : Int) :: sureF n (l.drop (decodeL l).2) else []

def leftF : Nat → List UInt8 → List UInt8
  | 0, l => l
  | n + 1, l => if fullL l = true then leftF n (l.drop (decodeL l).2) else l

/-- The code points that are sure. -/
def sure (l : List UInt8) : List Int := sureF l.length l

/-- The bytes that wait. -/
def left (l : List UInt8) : List UInt8 := leftF l.length l

theorem drop_shorter {l : List UInt8} (h : fullL l = true) : (l.drop (decodeL l).2).length < l.length := by
  have hw := decodeL_width l
  have hl : 0 < l.length := List.length_pos_iff.2 (full_iff.1 h).1
  rw [List.length_drop]
  omega

theorem sure_fuel : ∀ (n m : Nat) (l : List UInt8), l.length ≤ n → l.length ≤ m → sureF n l = sureF m l ∧ leftF n l = leftF m l
  | 0, 0, _, _, _ => ⟨rfl, rfl⟩
  | 0, m + 1, l, hn, _ => by
    have : l = [] := List.eq_nil_of_length_eq_zero (by omega)
    subst this
    exact ⟨rfl, rfl⟩
  | n + 1, 0, l, _, hm => by
    have : l = [] := List.eq_nil_of_length_eq_zero (by omega)
    subst this
    exact ⟨rfl, rfl⟩
  | n + 1, m + 1, l, hn, hm => by
    unfold sureF leftF
    by_cases h : fullL l = true
    · have hd := drop_shorter h
      have ih := sure_fuel n m (l.drop (decodeL l).2) (by omega) (by omega)
      rw [if_pos h, if_pos h, if_pos h, if_pos h, ih.1, ih.2]
      exact ⟨rfl, rfl⟩
    · rw [if_neg h, if_neg h, if_neg h, if_neg h]
      exact ⟨rfl, rfl⟩

theorem sure_step {l : List UInt8} (h : fullL l = true) : sure l = ((decodeL l).1 : Int) :: sure (l.drop (decodeL l).2) ∧ left l = left (l.drop (decodeL l).2) := by
  have hd := drop_shorter h
  obtain ⟨n, hn⟩ : ∃ n, l.length = n + 1 := ⟨l.length - 1, by omega⟩
  have ih := sure_fuel n (l.drop (decodeL l).2).length (l.drop (decodeL l).2) (by omega) (Nat.le_refl _)
  unfold sure left
  rw [hn, sureF, leftF, if_pos h, if_pos h, ih.1, ih.2]
  exact ⟨rfl, rfl⟩

theorem sure_stop {l : List UInt8} (h : fullL l = false) : sure l = [] ∧ left l = l := by
  unfold sure left
  cases l.length with
  | zero => exact ⟨rfl, rfl⟩
  | succ n => rw [sureF, leftF, if_neg (by rw [h]; simp), if_neg (by rw [h]; simp)]; exact ⟨rfl, rfl⟩

theorem sure_nil : sure [] = [] ∧ left [] = [] := sure_stop rfl

theorem left_stop_n : ∀ (n : Nat) (l : List UInt8), l.length ≤ n → fullL (left l) = false
  | n, l, hn => by
    cases h : fullL l with
    | false => rw [(sure_stop h).2]; exact h
    | true =>
      have hd := drop_shorter h
      rw [(sure_step h).2]
      cases n with
      | zero => omega
      | succ n => exact left_stop_n n _ (by omega)

theorem left_stop (l : List UInt8) : fullL (left l) = false := left_stop_n l.length l (Nat.le_refl _)

theorem drop_app {a : List UInt8} (x : List UInt8) {k : Nat} (h : k ≤ a.length) : (a ++ x).drop k = a.drop k ++ x := List.drop_append_of_le_length h

theorem full_width {l : List UInt8} (h : fullL l = true) : (decodeL l).2 ≤ l.length := Go.Lib.decodeL_le l (full_iff.1 h).1

theorem sure_app_n : ∀ (n : Nat) (a x : List UInt8), a.length ≤ n → (sure (a ++ x) = sure a ++ sure (left a ++ x) ∧ left (a ++ x) = left (left a ++ x)) ∧ codes (a ++ x) = sure a ++ codes (left a ++ x)
  | n, a, x, hn => by
    cases h : fullL a with
    | false =>
      rw [(sure_stop h).1, (sure_stop h).2]
      exact ⟨⟨rfl, rfl⟩, rfl⟩
    | true =>
      have hd := drop_shorter h
      have hw := full_width h
      obtain ⟨f1, f2⟩ := full_app h x
      cases n with
      | zero => omega
      | succ n =>
        have ih := sure_app_n n (a.drop (decodeL a).2) x (by omega)
        rw [(sure_step f1).1, (sure_step f1).2, (sure_step h).1, (sure_step h).2, f2, drop_app x hw, ih.1.1, ih.1.2, codes_step (a ++ x) (full_iff.1 f1).1, f2, drop_app x hw, ih.2]
        exact ⟨⟨rfl, rfl⟩, rfl⟩

theorem sure_app (a x : List UInt8) : sure (a ++ x) = sure a ++ sure (left a ++ x) := (sure_app_n a.length a x (Nat.le_refl _)).1.1
theorem left_app (a x : List UInt8) : left (a ++ x) = left (left a ++ x) := (sure_app_n a.length a x (Nat.le_refl _)).1.2
theorem codes_sure (a x : List UInt8) : codes (a ++ x) = sure a ++ codes (left a ++ x) := (sure_app_n a.length a x (Nat.le_refl _)).2
theorem codes_left (a : List UInt8) : codes a = sure a ++ codes (left a) := by
  have := codes_sure a []
  simpa using this

theorem sure_valid (a : List UInt8) : ∀ c ∈ sure a, Valid c := fun c hc => codes_valid a c (by rw [codes_left]; simp [hc])

theorem sure_length_n : ∀ (n : Nat) (l : List UInt8), l.length ≤ n → (sure l).length + (left l).length ≤ l.length
  | n, l, hn => by
    cases h : fullL l with
    | false => rw [(sure_stop h).1, (sure_stop h).2]; simp
    | true =>
      have hd := drop_shorter h
      rw [(sure_step h).1, (sure_step h).2]
      cases n with
      | zero => omega
      | succ n =>
        have := sure_length_n n _ (by omega : (l.drop (decodeL l).2).length ≤ n)
        simp only [List.length_cons]
        omega

theorem sure_length (l : List UInt8) : (sure l).length + (left l).length ≤ l.length := sure_length_n l.length l (Nat.le_refl _)

theorem codes_len_n : ∀ (n : Nat) (l : List UInt8), l.length ≤ n → (codes l).length ≤ l.length
  | 0, l, hn => by
    have : l = [] := List.eq_nil_of_length_eq_zero (by omega)
    subst this
    simp [codes_nil]
  | n + 1, l, hn => by
    by_cases hne : l = []
    · subst hne; simp [codes_nil]
    · have hw := decodeL_width l
      have hl : 0 < l.length := List.length_pos_iff.2 hne
      rw [codes_step l hne, List.length_cons]
      have := codes_len_n n (l.drop (decodeL l).2) (by rw [List.length_drop]; omega)
      rw [List.length_drop] at this
      omega

theorem codes_len (l : List UInt8) : (codes l).length ≤ l.length := codes_len_n l.length l (Nat.le_refl _)

end Go.Proofs.YtmhaknejeobfgaaGreatDoor
