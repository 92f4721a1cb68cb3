/- How many bytes a code point has, by its bytes; a text in which U+FFFD stands for each byte that is no part of one: plain lists. A code point at a place, as the document's answer reads it; plain numbers. Bytes that are still coming: the code points that are sure, and the bytes that wait. No program is named here. What comes chunk by chunk, in plain lists: what is released behind so many reads; where a source gives up; the next code point; two sources compared. No program is named here. What Fetch gives of chunks, told whole; what is released is a beginning of the form. Plain lists. Two sources that do not give up compare as their forms do. Plain lists. Where two sources give up; what was not read does not matter. Plain lists. unicode/utf8 over bytes in memory: FullRune and DecodeRune. A line into which bytes go: its block, the bytes that wait in it, its stages; one code point of the bytes goes in. A line's Put: bytes go in, as far as they are code points for sure. A line's End: the bytes that wait go in, one by one, then the stages end. -/
import Derived.Test.YtmhaknejeobfgabGreatDoorBase
import Derived.Test.YtmhaknejeobfgabGreatDoorLining
import Derived.Test.YtmhaknejeobfgabGreatDoorShelf7
import Derived.Test.YtmhaknejeobfgabGreatDoorTables
import Derived.Deep.QuietTactic
import Derived.BigQuiet
import Derived.BigRegion
import Derived.Deep.RegionWith
import Derived.Deep.DrawnRows
import Derived.Test.YtmhaknejeobfgabGreatDoorQueues
import Derived.Laws.IdiomStrings
import Derived.Deep.LoopGhost

/- Ill0. -/
namespace Go.Proofs.YtmhaknejeobfgabGreatDoor
open Go.RowKit Go.Proofs.YtmhaknejeobfgabGreatDoor.Stable Go.Proofs.YtmhaknejeobfgabGreatDoor.Order Go.Proofs.YtmhaknejeobfgabGreatDoor.Points
open Go.Lib (decodeL decodeL_width decodeN encodeRune)

def needOf (b0 : Nat) : Nat := if b0 < 224 then 2 else if b0 < 240 then 3 else 4
def lowOf (b0 : Nat) : Nat := if b0 = 224 then 160 else if b0 = 240 then 144 else 128
def topOf (b0 : Nat) : Nat := if b0 = 237 then 159 else if b0 = 244 then 143 else 191

/-- How many bytes it has, by its bytes; 0: none begins here. -/
def sizeB (b0 b1 b2 b3 : Nat) : Nat :=
  if b0 < 128 then 1 else if b0 < 194 ∨ 244 < b0 then 0 else if b1 < lowOf b0 ∨ topOf b0 < b1 then 0 else if 3 ≤ needOf b0 ∧ (b2 < 128 ∨ 191 < b2) then 0 else if 4 ≤ needOf b0 ∧ (b3 < 128 ∨ 191 < b3) then 0 else needOf b0

/-- The bounds of the second byte. -/
theorem second (b0 b1 : Nat) : (b1 < lowOf b0 ∨ topOf b0 < b1) ↔ (b1 < 128 ∨ 191 < b1 ∨ (b0 = 224 ∧ b1 < 160) ∨ (b0 = 240 ∧ b1 < 144) ∨ (b0 = 237 ∧ 159 < b1) ∨ (b0 = 244 ∧ 143 < b1)) := by
  unfold lowOf topOf
  by_cases c1 : b0 = 224
  · subst c1; simp; omega
  by_cases c2 : b0 = 240
  · subst c2; simp; omega
  by_cases c3 : b0 = 237
  · subst c3; simp; omega
  by_cases c4 : b0 = 244
  · subst c4; simp; omega
  simp [c1, c2, c3, c4]

theorem none_of {b0 b1 b2 b3 : Nat} (hs : sizeB b0 b1 b2 b3 = 0) (hd : decB b0 b1 b2 b3 = (65533, 1)) : sizeB b0 b1 b2 b3 = if decB b0 b1 b2 b3 = (65533, 1) then 0 else (decB b0 b1 b2 b3).2 := by rw [hd, if_pos rfl, hs]

theorem some_of {b0 b1 b2 b3 v n : Nat} (hs : sizeB b0 b1 b2 b3 = n) (hd : decB b0 b1 b2 b3 = (v, n)) (hn : n ≠ 1 ∨ v ≠ 65533) : sizeB b0 b1 b2 b3 = if decB b0 b1 b2 b3 = (65533, 1) then 0 else (decB b0 b1 b2 b3).2 := by
  rw [hd, if_neg, hs]
  intro e
  cases e
  omega

theorem size_dec (b0 b1 b2 b3 : Nat) (h0 : b0 ≤ 255) (h1 : b1 ≤ 255) (h2 : b2 ≤ 255) (h3 : b3 ≤ 255) : sizeB b0 b1 b2 b3 = if decB b0 b1 b2 b3 = (65533, 1) then 0 else (decB b0 b1 b2 b3).2 := by
  have sec := second b0 b1
  by_cases c0 : b0 < 128
  · refine some_of (n := 1) (v := b0) ?_ ?_ (by omega)
    · unfold sizeB; rw [if_pos c0]
    · unfold decB decodeN; rw [if_pos c0]
  by_cases c1 : b0 < 192 ∨ 247 < b0
  · refine none_of ?_ ?_
    · unfold sizeB; rw [if_neg c0, if_pos (by omega)]
    · unfold decB decodeN; rw [if_neg c0, if_neg (by omega), if_neg (by omega), if_neg (by omega)]
  by_cases c2 : b0 < 224
  · by_cases d1 : b1 / 64 = 2
    · by_cases c3 : b0 < 194
      · refine none_of ?_ ?_
        · unfold sizeB; rw [if_neg c0, if_pos (by omega)]
        · unfold decB decodeN; rw [if_neg c0, if_pos (by omega), if_neg (by omega)]
      · refine some_of (n := 2) (v := b0 % 32 * 64 + b1 % 64) ?_ ?_ (by omega)
        · have en : needOf b0 = 2 := by unfold needOf; rw [if_pos c2]
          unfold sizeB; rw [if_neg c0, if_neg (by omega), if_neg (by rw [sec]; omega), en, if_neg (by omega), if_neg (by omega)]
        · unfold decB decodeN; rw [if_neg c0, if_pos (by omega), if_pos (by omega)]
    · refine none_of ?_ ?_
      · unfold sizeB; rw [if_neg c0]
        by_cases c3 : b0 < 194
        · rw [if_pos (by omega)]
        · rw [if_neg (by omega), if_pos (by rw [sec]; omega)]
      · unfold decB decodeN; rw [if_neg c0, if_neg (by omega), if_neg (by omega), if_neg (by omega)]
  by_cases c3 : b0 < 240
  · have en : needOf b0 = 3 := by unfold needOf; rw [if_neg c2, if_pos c3]
    by_cases d1 : b1 / 64 = 2 ∧ b2 / 64 = 2
    · by_cases d2 : b0 % 16 * 4096 + b1 % 64 * 64 + b2 % 64 ≥ 2048 ∧ (b0 % 16 * 4096 + b1 % 64 * 64 + b2 % 64 < 55296 ∨ (57344 ≤ b0 % 16 * 4096 + b1 % 64 * 64 + b2 % 64 ∧ b0 % 16 * 4096 + b1 % 64 * 64 + b2 % 64 ≤ 1114111))
      · refine some_of (n := 3) (v := b0 % 16 * 4096 + b1 % 64 * 64 + b2 % 64) ?_ ?_ (by omega)
        · unfold sizeB; rw [if_neg c0, if_neg (by omega), if_neg (by rw [sec]; omega), en, if_neg (by omega), if_neg (by omega)]
        · unfold decB decodeN; rw [if_neg c0, if_neg (by omega), if_pos (by omega), if_pos d2]
      · refine none_of ?_ ?_
        · unfold sizeB; rw [if_neg c0, if_neg (by omega), if_pos (by rw [sec]; omega)]
        · unfold decB decodeN; rw [if_neg c0, if_neg (by omega), if_pos (by omega), if_neg d2]
    · refine none_of ?_ ?_
      · unfold sizeB; rw [if_neg c0, if_neg (by omega), en]
        by_cases d3 : b1 / 64 = 2
        · by_cases d4 : b1 < lowOf b0 ∨ topOf b0 < b1
          · rw [if_pos d4]
          · rw [if_neg d4, if_pos (by omega)]
        · rw [if_pos (by rw [sec]; omega)]
      · unfold decB decodeN; rw [if_neg c0, if_neg (by omega), if_neg (by omega), if_neg (by omega)]
  · have en : needOf b0 = 4 := by unfold needOf; rw [if_neg c2, if_neg c3]
    by_cases d1 : b1 / 64 = 2 ∧ b2 / 64 = 2 ∧ b3 / 64 = 2
    · by_cases d2 : b0 % 8 * 262144 + b1 % 64 * 4096 + b2 % 64 * 64 + b3 % 64 ≥ 65536 ∧ (b0 % 8 * 262144 + b1 % 64 * 4096 + b2 % 64 * 64 + b3 % 64 < 55296 ∨ (57344 ≤ b0 % 8 * 262144 + b1 % 64 * 4096 + b2 % 64 * 64 + b3 % 64 ∧ b0 % 8 * 262144 + b1 % 64 * 4096 + b2 % 64 * 64 + b3 % 64 ≤ 1114111))
      · refine some_of (n := 4) (v := b0 % 8 * 262144 + b1 % 64 * 4096 + b2 % 64 * 64 + b3 % 64) ?_ ?_ (by omega)
        · unfold sizeB; rw [if_neg c0, if_neg (by omega), if_neg (by rw [sec]; omega), en, if_neg (by omega), if_neg (by omega)]
        · unfold decB decodeN; rw [if_neg c0, if_neg (by omega), if_neg (by omega), if_pos (by omega), if_pos d2]
      · refine none_of ?_ ?_
        · unfold sizeB; rw [if_neg c0]
          by_cases d3 : 244 < b0
          · rw [if_pos (by omega)]
          · rw [if_neg (by omega), if_pos (by rw [sec]; omega)]
        · unfold decB decodeN; rw [if_neg c0, if_neg (by omega), if_neg (by omega), if_pos (by omega), if_neg d2]
    · refine none_of ?_ ?_
      · unfold sizeB; rw [if_neg c0, en]
        by_cases d2 : 244 < b0
        · rw [if_pos (by omega)]
        rw [if_neg (by omega)]
        by_cases d3 : b1 / 64 = 2
        · by_cases d4 : b1 < lowOf b0 ∨ topOf b0 < b1
          · rw [if_pos d4]
          · rw [if_neg d4]
            by_cases d5 : b2 / 64 = 2
            · rw [if_neg (by omega), if_pos (by omega)]
            · rw [if_pos (by omega)]
        · rw [if_pos (by rw [sec]; omega)]
      · unfold decB decodeN; rw [if_neg c0, if_neg (by omega), if_neg (by omega), if_neg (by omega)]

end Go.Proofs.YtmhaknejeobfgabGreatDoor

/- Ref0. -/
namespace Go.Proofs.YtmhaknejeobfgabGreatDoor
open Go.RowKit Go.Proofs.YtmhaknejeobfgabGreatDoor.Stable Go.Proofs.YtmhaknejeobfgabGreatDoor.Order Go.Proofs.YtmhaknejeobfgabGreatDoor.Points
open Go.Lib (decodeL decodeL_width decodeN encodeRune)

/-- How many bytes are wanted by the first. -/
def wantB (b : Nat) : Nat := if b < 128 then 1 else if b < 194 ∨ 244 < b then 0 else needOf b

/-- May the second stand behind the first (its six bits)? -/
def mayB (c b : Nat) : Bool := if c = 224 then decide (32 ≤ b) else if c = 237 then decide (b < 32) else if c = 240 then decide (16 ≤ b) else if c = 244 then decide (b < 16) else true

/-- The code point, and how many bytes it has; 0 bytes: a beginning alone. (r: how many bytes there are.) -/
def atB (r b0 b1 b2 b3 : Nat) : Nat × Nat :=
  if b0 < 128 then (b0, 1) else if b0 < 194 ∨ 244 < b0 then (65533, 1)
  else if r ≤ 1 then (0, 0) else if b1 < lowOf b0 ∨ topOf b0 < b1 then (65533, 1)
  else if needOf b0 = 2 then ((b0 - 192) * 64 + (b1 - 128), 2)
  else if r ≤ 2 then (0, 0) else if b2 < 128 ∨ 191 < b2 then (65533, 1)
  else if needOf b0 = 3 then (((b0 - 224) * 64 + (b1 - 128)) * 64 + (b2 - 128), 3)
  else if r ≤ 3 then (0, 0) else if b3 < 128 ∨ 191 < b3 then (65533, 1)
  else ((((b0 - 240) * 64 + (b1 - 128)) * 64 + (b2 - 128)) * 64 + (b3 - 128), 4)

/-- A beginning at the end is read byte by byte. -/
def fixA (p : Nat × Nat) : Nat × Nat := if p.2 = 0 then (65533, 1) else p

theorem fix_is {v u n : Nat} (hn : n ≠ 0) (h : v = u) : fixA (v, n) = (u, n) := by
  unfold fixA
  rw [if_neg hn, h]

theorem need_cases {b : Nat} (h0 : 194 ≤ b) (h1 : b ≤ 244) : (needOf b = 2 ∧ b < 224) ∨ (needOf b = 3 ∧ 224 ≤ b ∧ b < 240) ∨ (needOf b = 4 ∧ 240 ≤ b) := by
  unfold needOf
  by_cases c1 : b < 224
  · rw [if_pos c1]; omega
  · rw [if_neg c1]
    by_cases c2 : b < 240
    · rw [if_pos c2]; omega
    · rw [if_neg c2]; omega

theorem may_low {c b : Nat} (h0 : 128 ≤ b) (h1 : b ≤ 191) : mayB c (b - 128) = true ↔ ¬ (b < lowOf c ∨ topOf c < b) := by
  rw [second]
  unfold mayB
  by_cases c1 : c = 224
  · subst c1; simp; omega
  by_cases c2 : c = 237
  · subst c2; simp; omega
  by_cases c3 : c = 240
  · subst c3; simp; omega
  by_cases c4 : c = 244
  · subst c4; simp; omega
  simp [c1, c2, c3, c4]; omega

theorem dec_none {b0 b1 b2 b3 : Nat} (h0 : b0 ≤ 255) (h1 : b1 ≤ 255) (h2 : b2 ≤ 255) (h3 : b3 ≤ 255) (h : sizeB b0 b1 b2 b3 = 0) : decB b0 b1 b2 b3 = (65533, 1) := by
  have e := size_dec b0 b1 b2 b3 h0 h1 h2 h3
  rw [h] at e
  by_cases hd : decB b0 b1 b2 b3 = (65533, 1)
  · exact hd
  · rw [if_neg hd] at e
    exfalso
    revert e
    unfold decB decodeN
    repeat' split
    all_goals simp

theorem at_dec (r b0 b1 b2 b3 : Nat) (h0 : b0 ≤ 255) (h1 : b1 ≤ 255) (h2 : b2 ≤ 255) (h3 : b3 ≤ 255) (e1 : r ≤ 1 → b1 = 0) (e2 : r ≤ 2 → b2 = 0) (e3 : r ≤ 3 → b3 = 0) : fixA (atB r b0 b1 b2 b3) = decB b0 b1 b2 b3 := by
  have sec := second b0 b1
  by_cases c0 : b0 < 128
  · unfold atB decB decodeN
    rw [if_pos c0, if_pos c0]
    rfl
  by_cases c1 : b0 < 194 ∨ 244 < b0
  · rw [dec_none h0 h1 h2 h3 (by unfold sizeB; rw [if_neg c0, if_pos c1])]
    unfold atB
    rw [if_neg c0, if_pos c1]
    rfl
  have hn := need_cases (b := b0) (by omega) (by omega)
  unfold atB
  rw [if_neg c0, if_neg c1]
  by_cases c2 : b1 < lowOf b0 ∨ topOf b0 < b1
  · rw [dec_none h0 h1 h2 h3 (by unfold sizeB; rw [if_neg c0, if_neg c1, if_pos c2])]
    by_cases r1 : r ≤ 1
    · rw [if_pos r1]; rfl
    · rw [if_neg r1, if_pos c2]; rfl
  rw [if_neg (fun r1 => c2 (sec.2 (.inl (by rw [e1 r1]; omega)))), if_neg c2]
  rw [sec] at c2
  rcases hn with ⟨n2, m1⟩ | ⟨n3, m1, m2⟩ | ⟨n4, m1⟩
  · rw [if_pos n2]
    unfold decB decodeN
    rw [if_neg c0, if_pos (by omega), if_pos (by omega)]
    exact fix_is (by omega) (by omega)
  · rw [n3, if_neg (by omega)]
    by_cases c3 : b2 < 128 ∨ 191 < b2
    · rw [dec_none h0 h1 h2 h3 (by unfold sizeB; rw [if_neg c0, if_neg c1, if_neg (by rw [sec]; exact c2), n3, if_pos (by omega)])]
      by_cases r1 : r ≤ 2
      · rw [if_pos r1]; rfl
      · rw [if_neg r1, if_pos c3]; rfl
    · rw [if_neg (fun r1 => c3 (.inl (by rw [e2 r1]; omega))), if_neg c3, if_pos rfl]
      unfold decB decodeN
      rw [if_neg c0, if_neg (by omega), if_pos (by omega), if_pos (by omega)]
      exact fix_is (by omega) (by omega)
  · rw [n4, if_neg (by omega), if_neg (by omega : ¬ (4 = 3))]
    by_cases c3 : b2 < 128 ∨ 191 < b2
    · rw [dec_none h0 h1 h2 h3 (by unfold sizeB; rw [if_neg c0, if_neg c1, if_neg (by rw [sec]; exact c2), n4, if_pos (by omega)])]
      by_cases r1 : r ≤ 2
      · rw [if_pos r1]; rfl
      · rw [if_neg r1, if_pos c3]; rfl
    · rw [if_neg (fun r1 => c3 (.inl (by rw [e2 r1]; omega))), if_neg c3]
      by_cases c4 : b3 < 128 ∨ 191 < b3
      · rw [dec_none h0 h1 h2 h3 (by unfold sizeB; rw [if_neg c0, if_neg c1, if_neg (by rw [sec]; exact c2), n4, if_neg (by omega), if_pos (by omega)])]
        by_cases r1 : r ≤ 3
        · rw [if_pos r1]; rfl
        · rw [if_neg r1, if_pos c4]; rfl
      · rw [if_neg (fun r1 => c4 (.inl (by rw [e3 r1]; omega))), if_neg c4]
        unfold decB decodeN
        rw [if_neg c0, if_neg (by omega), if_neg (by omega), if_pos (by omega), if_pos (by omega)]
        exact fix_is (by omega) (by omega)

end Go.Proofs.YtmhaknejeobfgabGreatDoor

/- Sure. -/
namespace Go.Proofs.YtmhaknejeobfgabGreatDoor
open Go.Proofs.YtmhaknejeobfgabGreatDoor.Stable Go.Proofs.YtmhaknejeobfgabGreatDoor.Order Go.Proofs.YtmhaknejeobfgabGreatDoor.Points
open Go.Lib (decodeL decodeL_width decodeN)

/-- A code point at the head of bytes; 0 bytes: a beginning alone. -/
def atL (l : List UInt8) : Nat × Nat := atB l.length (l.getD 0 0).toNat (l.getD 1 0).toNat (l.getD 2 0).toNat (l.getD 3 0).toNat

theorem getD_none {l : List UInt8} {k : Nat} (h : l.length ≤ k) : (l.getD k 0).toNat = 0 := by
  rw [List.getD_eq_getElem?_getD, List.getElem?_eq_none h]
  rfl

theorem getD_le (l : List UInt8) (k : Nat) : (l.getD k 0).toNat ≤ 255 := by
  have := (l.getD k 0).toNat_lt
  omega

theorem atL_dec (l : List UInt8) : fixA (atL l) = decodeL l := by
  rw [decodeL_B]
  exact at_dec _ _ _ _ _ (getD_le _ _) (getD_le _ _) (getD_le _ _) (getD_le _ _) (fun h => getD_none h) (fun h => getD_none h) (fun h => getD_none h)

/-- What is sure stays, whatever comes behind it. -/
theorem atB_more {r r' b0 b1 b2 b3 c1 c2 c3 : Nat} (h : (atB r b0 b1 b2 b3).2 ≠ 0) (hr : r ≤ r') (e1 : 1 < r → c1 = b1) (e2 : 2 < r → c2 = b2) (e3 : 3 < r → c3 = b3) : atB r' b0 c1 c2 c3 = atB r b0 b1 b2 b3 := by
  unfold atB at h ⊢
  by_cases k0 : b0 < 128
  · rw [if_pos k0, if_pos k0]
  rw [if_neg k0] at h
  rw [if_neg k0, if_neg k0]
  by_cases k1 : b0 < 194 ∨ 244 < b0
  · rw [if_pos k1, if_pos k1]
  rw [if_neg k1] at h
  rw [if_neg k1, if_neg k1]
  by_cases k2 : r ≤ 1
  · rw [if_pos k2] at h; exact absurd rfl h
  rw [if_neg k2] at h
  rw [if_neg k2, if_neg (by omega : ¬ r' ≤ 1), e1 (by omega)]
  by_cases k3 : b1 < lowOf b0 ∨ topOf b0 < b1
  · rw [if_pos k3, if_pos k3]
  rw [if_neg k3] at h
  rw [if_neg k3, if_neg k3]
  by_cases k4 : needOf b0 = 2
  · rw [if_pos k4, if_pos k4]
  rw [if_neg k4] at h
  rw [if_neg k4, if_neg k4]
  by_cases k5 : r ≤ 2
  · rw [if_pos k5] at h; exact absurd rfl h
  rw [if_neg k5] at h
  rw [if_neg k5, if_neg (by omega : ¬ r' ≤ 2), e2 (by omega)]
  by_cases k6 : b2 < 128 ∨ 191 < b2
  · rw [if_pos k6, if_pos k6]
  rw [if_neg k6] at h
  rw [if_neg k6, if_neg k6]
  by_cases k7 : needOf b0 = 3
  · rw [if_pos k7, if_pos k7]
  rw [if_neg k7] at h
  rw [if_neg k7, if_neg k7]
  by_cases k8 : r ≤ 3
  · rw [if_pos k8] at h; exact absurd rfl h
  rw [if_neg k8, if_neg (by omega : ¬ r' ≤ 3), e3 (by omega)]

/-- Is there a code point for sure? -/
def fullL (l : List UInt8) : Bool := decide (l ≠ [] ∧ (atL l).2 ≠ 0)

theorem full_iff {l : List UInt8} : fullL l = true ↔ l ≠ [] ∧ (atL l).2 ≠ 0 := by unfold fullL; rw [decide_eq_true_eq]

theorem getD_app {a : List UInt8} (x : List UInt8) {k : Nat} (h : k < a.length) : (a ++ x).getD k 0 = a.getD k 0 := by
  rw [List.getD_eq_getElem?_getD, List.getElem?_append_left h, ← List.getD_eq_getElem?_getD]

theorem full_app {a : List UInt8} (h : fullL a = true) (x : List UInt8) : fullL (a ++ x) = true ∧ decodeL (a ++ x) = decodeL a := by
  obtain ⟨h1, h2⟩ := full_iff.1 h
  have hl : 0 < a.length := List.length_pos_iff.2 h1
  have e : atL (a ++ x) = atL a := by
    unfold atL at h2 ⊢
    rw [getD_app x hl]
    exact atB_more h2 (by simp) (fun k => by rw [getD_app x k]) (fun k => by rw [getD_app x k]) (fun k => by rw [getD_app x k])
  refine ⟨full_iff.2 ⟨by simp [h1], by rw [e]; exact h2⟩, ?_⟩
  rw [← atL_dec, ← atL_dec, e]

def sureF : Nat → List UInt8 → List Int
  | 0, _ => []
  | n + 1, l => if fullL l = true then ((decodeL l).1 : Int) :: sureF n (l.drop (decodeL l).2) else []

def leftF : Nat → List UInt8 → List UInt8
  | 0, l => l
  | n + 1, l => if fullL l = true then leftF n (l.drop (decodeL l).2) else l

/-- The code points that are sure. -/
def sure (l : List UInt8) : List Int := sureF l.length l

/-- The bytes that wait. -/
def left (l : List UInt8) : List UInt8 := leftF l.length l

theorem drop_shorter {l : List UInt8} (h : fullL l = true) : (l.drop (decodeL l).2).length < l.length := by
  have hw := decodeL_width l
  have hl : 0 < l.length := List.length_pos_iff.2 (full_iff.1 h).1
  rw [List.length_drop]
  omega

theorem sure_fuel : ∀ (n m : Nat) (l : List UInt8), l.length ≤ n → l.length ≤ m → sureF n l = sureF m l ∧ leftF n l = leftF m l
  | 0, 0, _, _, _ => ⟨rfl, rfl⟩
  | 0, m + 1, l, hn, _ => by
    have : l = [] := List.eq_nil_of_length_eq_zero (by omega)
    subst this
    exact ⟨rfl, rfl⟩
  | n + 1, 0, l, _, hm => by
    have : l = [] := List.eq_nil_of_length_eq_zero (by omega)
    subst this
    exact ⟨rfl, rfl⟩
  | n + 1, m + 1, l, hn, hm => by
    unfold sureF leftF
    by_cases h : fullL l = true
    · have hd := drop_shorter h
      have ih := sure_fuel n m (l.drop (decodeL l).2) (by omega) (by omega)
      rw [if_pos h, if_pos h, if_pos h, if_pos h, ih.1, ih.2]
      exact ⟨rfl, rfl⟩
    · rw [if_neg h, if_neg h, if_neg h, if_neg h]
      exact ⟨rfl, rfl⟩

theorem sure_step {l : List UInt8} (h : fullL l = true) : sure l = ((decodeL l).1 : Int) :: sure (l.drop (decodeL l).2) ∧ left l = left (l.drop (decodeL l).2) := by
  have hd := drop_shorter h
  obtain ⟨n, hn⟩ : ∃ n, l.length = n + 1 := ⟨l.length - 1, by omega⟩
  have ih := sure_fuel n (l.drop (decodeL l).2).length (l.drop (decodeL l).2) (by omega) (Nat.le_refl _)
  unfold sure left
  rw [hn, sureF, leftF, if_pos h, if_pos h, ih.1, ih.2]
  exact ⟨rfl, rfl⟩

theorem sure_stop {l : List UInt8} (h : fullL l = false) : sure l = [] ∧ left l = l := by
  unfold sure left
  cases l.length with
  | zero => exact ⟨rfl, rfl⟩
  | succ n => rw [sureF, leftF, if_neg (by rw [h]; simp), if_neg (by rw [h]; simp)]; exact ⟨rfl, rfl⟩

theorem sure_nil : sure [] = [] ∧ left [] = [] := sure_stop rfl

theorem drop_app {a : List UInt8} (x : List UInt8) {k : Nat} (h : k ≤ a.length) : (a ++ x).drop k = a.drop k ++ x := List.drop_append_of_le_length h

theorem full_width {l : List UInt8} (h : fullL l = true) : (decodeL l).2 ≤ l.length := Go.Lib.decodeL_le l (full_iff.1 h).1

theorem sure_app_n : ∀ (n : Nat) (a x : List UInt8), a.length ≤ n → (sure (a ++ x) = sure a ++ sure (left a ++ x) ∧ left (a ++ x) = left (left a ++ x)) ∧ codes (a ++ x) = sure a ++ codes (left a ++ x)
  | n, a, x, hn => by
    cases h : fullL a with
    | false =>
      rw [(sure_stop h).1, (sure_stop h).2]
      exact ⟨⟨rfl, rfl⟩, rfl⟩
    | true =>
      have hd := drop_shorter h
      have hw := full_width h
      obtain ⟨f1, f2⟩ := full_app h x
      cases n with
      | zero => omega
      | succ n =>
        have ih := sure_app_n n (a.drop (decodeL a).2) x (by omega)
        rw [(sure_step f1).1, (sure_step f1).2, (sure_step h).1, (sure_step h).2, f2, drop_app x hw, ih.1.1, ih.1.2, codes_step (a ++ x) (full_iff.1 f1).1, f2, drop_app x hw, ih.2]
        exact ⟨⟨rfl, rfl⟩, rfl⟩

theorem sure_app (a x : List UInt8) : sure (a ++ x) = sure a ++ sure (left a ++ x) := (sure_app_n a.length a x (Nat.le_refl _)).1.1
theorem left_app (a x : List UInt8) : left (a ++ x) = left (left a ++ x) := (sure_app_n a.length a x (Nat.le_refl _)).1.2
theorem codes_sure (a x : List UInt8) : codes (a ++ x) = sure a ++ codes (left a ++ x) := (sure_app_n a.length a x (Nat.le_refl _)).2
theorem codes_left (a : List UInt8) : codes a = sure a ++ codes (left a) := by
  have := codes_sure a []
  simpa using this

theorem sure_valid (a : List UInt8) : ∀ c ∈ sure a, Valid c := fun c hc => codes_valid a c (by rw [codes_left]; simp [hc])

theorem sure_length_n : ∀ (n : Nat) (l : List UInt8), l.length ≤ n → (sure l).length + (left l).length ≤ l.length
  | n, l, hn => by
    cases h : fullL l with
    | false => rw [(sure_stop h).1, (sure_stop h).2]; simp
    | true =>
      have hd := drop_shorter h
      rw [(sure_step h).1, (sure_step h).2]
      cases n with
      | zero => omega
      | succ n =>
        have := sure_length_n n _ (by omega : (l.drop (decodeL l).2).length ≤ n)
        simp only [List.length_cons]
        omega

theorem sure_length (l : List UInt8) : (sure l).length + (left l).length ≤ l.length := sure_length_n l.length l (Nat.le_refl _)

theorem codes_len_n : ∀ (n : Nat) (l : List UInt8), l.length ≤ n → (codes l).length ≤ l.length
  | 0, l, hn => by
    have : l = [] := List.eq_nil_of_length_eq_zero (by omega)
    subst this
    simp [codes_nil]
  | n + 1, l, hn => by
    by_cases hne : l = []
    · subst hne; simp [codes_nil]
    · have hw := decodeL_width l
      have hl : 0 < l.length := List.length_pos_iff.2 hne
      rw [codes_step l hne, List.length_cons]
      have := codes_len_n n (l.drop (decodeL l).2) (by rw [List.length_drop]; omega)
      rw [List.length_drop] at this
      omega

theorem codes_len (l : List UInt8) : (codes l).length ≤ l.length := codes_len_n l.length l (Nat.le_refl _)

end Go.Proofs.YtmhaknejeobfgabGreatDoor

/- Mach. -/
namespace Go.Proofs.YtmhaknejeobfgabGreatDoor
open Go.Proofs.YtmhaknejeobfgabGreatDoor.Stable Go.Proofs.YtmhaknejeobfgabGreatDoor.Order Go.Proofs.YtmhaknejeobfgabGreatDoor.Points

/-- A chunk: its kind, its bytes. -/
abbrev Chk := Int × List UInt8

/-- All bytes of chunks. -/
def bytesOf (L : List Chk) : List UInt8 := L.flatMap (fun c => c.2)

/-- How many chunks without a byte stand side by side at the end. -/
def idleOf (L : List Chk) : Nat := L.foldl (fun n c => if c.2 = [] then n + 1 else 0) 0

theorem idle_snoc (L : List Chk) (c : Chk) : idleOf (L ++ [c]) = if c.2 = [] then idleOf L + 1 else 0 := by
  unfold idleOf
  rw [List.foldl_append]
  rfl

theorem bytes_snoc (L : List Chk) (c : Chk) : bytesOf (L ++ [c]) = bytesOf L ++ c.2 := by simp [bytesOf]

theorem bytes_append (L M : List Chk) : bytesOf (L ++ M) = bytesOf L ++ bytesOf M := by simp [bytesOf]

theorem take_snoc {α : Type} {L : List α} {k : Nat} {c : α} (h : L[k]? = some c) : L.take (k + 1) = L.take k ++ [c] := by
  rw [List.take_add_one, h]
  rfl

/-- Why a source gives up at a chunk, given those ahead of it; 0: it doesn't. -/
def faultBy (L : List Chk) (c : Chk) : Int := if c.1 = 0 then (if idleOf (L ++ [c]) = 64 then 4 else 0) else if c.1 = 1 then 2 else 3

/-- Why a source gives up at the read k (from 0); 0: it doesn't. -/
def faultAt (L : List Chk) (k : Nat) : Int := match L[k]? with
  | none => 0
  | some c => faultBy (L.take k) c

theorem faultAt_some {L : List Chk} {k : Nat} {c : Chk} (h : L[k]? = some c) : faultAt L k = faultBy (L.take k) c := by
  unfold faultAt
  rw [h]

/-- The code points that have gone in behind k reads (e: it has ended). -/
def goneIn (L : List Chk) (k : Nat) (e : Bool) : List Int := if e = true then codes (bytesOf (L.take k)) else sure (bytesOf (L.take k))

/-- What is released then. -/
def relOf (m : Int) (L : List Chk) (k : Nat) (e : Bool) : List Int := inAt (kindAt m) e (goneIn L k e) (stagesOf m)

/-- The most marks that waited in one stage, of the first n. -/
def mostOf (ks : Nat → Bool × Bool) (e : Bool) (h : List Int) : Nat → Nat
  | 0 => 0
  | n + 1 => max (mostOf ks e h n) (heldOf (gotE ks (fun _ => e) h n))

def heldAt (m : Int) (L : List Chk) (k : Nat) (e : Bool) : Nat := mostOf (kindAt m) e (goneIn L k e) (stagesOf m)

/-- Where a source stands behind a Fetch: reads, has it ended, what was fetched, why it gave up. -/
structure Ft where
  k : Nat
  e : Bool
  c : Int
  err : Int

/-- The next code point (t were fetched), -1 behind the last; so many reads are left. -/
def fetchG (m : Int) (L : List Chk) (t : Nat) : Nat → Nat → Bool → Ft
  | 0, k, e => match (relOf m L k e)[t]? with
    | some c => ⟨k, e, c, 0⟩
    | none => ⟨k, e, -1, 0⟩
  | g + 1, k, e => match (relOf m L k e)[t]? with
    | some c => ⟨k, e, c, 0⟩
    | none => if e = true then ⟨k, e, -1, 0⟩ else if k = L.length then fetchG m L t g k true else if faultAt L k = 0 then fetchG m L t g (k + 1) false else ⟨k + 1, e, -1, faultAt L k⟩

/-- How many steps are left. -/
def stepsOf (L : List Chk) (k : Nat) (e : Bool) : Nat := L.length - k + (if e = true then 0 else 1)

def fetchP (m : Int) (L : List Chk) (t k : Nat) (e : Bool) : Ft := fetchG m L t (stepsOf L k e) k e

theorem fetchP_there {m : Int} {L : List Chk} {t k : Nat} {e : Bool} {c : Int} (h : (relOf m L k e)[t]? = some c) : fetchP m L t k e = ⟨k, e, c, 0⟩ := by
  unfold fetchP
  cases stepsOf L k e <;> (unfold fetchG; rw [h])

theorem fetchP_done {m : Int} {L : List Chk} {t k : Nat} (h : (relOf m L k true)[t]? = none) : fetchP m L t k true = ⟨k, true, -1, 0⟩ := by
  unfold fetchP
  cases stepsOf L k true <;> (unfold fetchG; rw [h])
  simp

theorem fetchP_end {m : Int} {L : List Chk} {t k : Nat} (h : (relOf m L k false)[t]? = none) (hk : k = L.length) : fetchP m L t k false = fetchP m L t k true := by
  have e1 : stepsOf L k false = stepsOf L k true + 1 := by simp [stepsOf]
  unfold fetchP
  rw [e1, fetchG, h]
  simp [hk]

theorem fetchP_read {m : Int} {L : List Chk} {t k : Nat} (h : (relOf m L k false)[t]? = none) (hk : k < L.length) (hf : faultAt L k = 0) : fetchP m L t k false = fetchP m L t (k + 1) false := by
  have e1 : stepsOf L k false = stepsOf L (k + 1) false + 1 := by simp [stepsOf]; omega
  unfold fetchP
  rw [e1, fetchG, h]
  have hne : ¬ k = L.length := by omega
  simp only [Bool.false_eq_true, if_false]
  rw [if_neg hne]
  simp [hf]

theorem fetchP_fault {m : Int} {L : List Chk} {t k : Nat} (h : (relOf m L k false)[t]? = none) (hk : k < L.length) (hf : faultAt L k ≠ 0) : fetchP m L t k false = ⟨k + 1, false, -1, faultAt L k⟩ := by
  have e1 : stepsOf L k false = stepsOf L (k + 1) false + 1 := by simp [stepsOf]; omega
  unfold fetchP
  rw [e1, fetchG, h]
  have hne : ¬ k = L.length := by omega
  simp only [Bool.false_eq_true, if_false]
  rw [if_neg hne]
  simp [hf]

/-- How two sources compare: the sign; what was read of each; the most marks that waited; the error. -/
structure Cmp where
  sign : Int
  ra : Nat
  rb : Nat
  ha : Nat
  hb : Nat
  err : Int

/-- The sign of two code points. -/
def signOf (c d : Int) : Int := if c < d then -1 else if d < c then 1 else 0

def strmG (m : Int) (A B : List Chk) : Nat → Nat → Bool → Nat → Bool → Nat → Cmp
  | 0, _, _, _, _, _ => ⟨0, 0, 0, 0, 0, 0⟩
  | g + 1, ka, ea, kb, eb, t =>
    if (fetchP m A t ka ea).err ≠ 0 then ⟨0, (fetchP m A t ka ea).k, kb, 0, 0, (fetchP m A t ka ea).err⟩
    else if (fetchP m B t kb eb).err ≠ 0 then ⟨0, (fetchP m A t ka ea).k, (fetchP m B t kb eb).k, 0, 0, (fetchP m B t kb eb).err⟩
    else if (fetchP m A t ka ea).c = (fetchP m B t kb eb).c ∧ (fetchP m A t ka ea).c ≠ -1 then strmG m A B g (fetchP m A t ka ea).k (fetchP m A t ka ea).e (fetchP m B t kb eb).k (fetchP m B t kb eb).e (t + 1)
    else ⟨signOf (fetchP m A t ka ea).c (fetchP m B t kb eb).c, (fetchP m A t ka ea).k, (fetchP m B t kb eb).k, heldAt m A (fetchP m A t ka ea).k (fetchP m A t ka ea).e, heldAt m B (fetchP m B t kb eb).k (fetchP m B t kb eb).e, 0⟩

/-- More code points than a source can release. -/
def roomOf (A : List Chk) : Nat := 216 * (bytesOf A).length

/-- Two sources compared. -/
def strm (m : Int) (A B : List Chk) : Cmp := strmG m A B (roomOf A + 1) 0 false 0 false 0

/-- The first chunk at which a source gives up, and why. -/
def faultG (L : List Chk) : Nat → Nat → Int
  | 0, _ => 0
  | g + 1, k => if faultAt L k ≠ 0 then faultAt L k else faultG L g (k + 1)

/-- Why a source gives up that is read to its end; 0: it doesn't. -/
def faultOf (L : List Chk) : Int := faultG L L.length 0

end Go.Proofs.YtmhaknejeobfgabGreatDoor

/- MachD. -/
namespace Go.Proofs.YtmhaknejeobfgabGreatDoor
open Go.Proofs.YtmhaknejeobfgabGreatDoor.Stable Go.Proofs.YtmhaknejeobfgabGreatDoor.Order Go.Proofs.YtmhaknejeobfgabGreatDoor.Points

/-- A state that can be. -/
def OkAt (L : List Chk) (k : Nat) (e : Bool) : Prop := k ≤ L.length ∧ (e = true → k = L.length)

/-- What Fetch gives: it reads on as long as nothing is there; then there is a code point, or the end, or a chunk at which the source gives up. -/
structure FetchIs (m : Int) (L : List Chk) (t k : Nat) (e : Bool) (F : Ft) : Prop where
  le : k ≤ F.k
  bare : ∀ j, k ≤ j → j < F.k → (relOf m L j false)[t]? = none ∧ e = false
  calm : ∀ j, k ≤ j → j + 1 < F.k → faultAt L j = 0
  give : (F.err = 0 ∧ OkAt L F.k F.e ∧ (e = true → F.e = true) ∧ (∀ j, k ≤ j → j < F.k → faultAt L j = 0) ∧ (F.e = true → e = false → (relOf m L F.k false)[t]? = none) ∧ ((relOf m L F.k F.e)[t]? = some F.c ∨ (F.e = true ∧ (relOf m L F.k true)[t]? = none ∧ F.c = -1))) ∨ (F.err ≠ 0 ∧ F.c = -1 ∧ F.e = false ∧ k < F.k ∧ F.k ≤ L.length ∧ F.err = faultAt L (F.k - 1))

theorem fetch_is {m : Int} {L : List Chk} {t : Nat} : ∀ (g k : Nat) (e : Bool), stepsOf L k e = g → OkAt L k e → FetchIs m L t k e (fetchP m L t k e) := by
  intro g
  induction g with
  | zero =>
    intro k e hg ho
    have he : e = true := by
      cases e with
      | true => rfl
      | false => simp [stepsOf] at hg
    subst he
    cases hr : (relOf m L k true)[t]? with
    | some c =>
      rw [fetchP_there hr]
      exact ⟨Nat.le_refl _, fun j h1 h2 => absurd h2 (by dsimp only; omega), fun j h1 h2 => absurd h2 (by dsimp only; omega), .inl ⟨rfl, ho, fun _ => rfl, fun j h1 h2 => absurd h2 (by dsimp only; omega), fun _ h => (by cases h), .inl hr⟩⟩
    | none =>
      rw [fetchP_done hr]
      exact ⟨Nat.le_refl _, fun j h1 h2 => absurd h2 (by dsimp only; omega), fun j h1 h2 => absurd h2 (by dsimp only; omega), .inl ⟨rfl, ho, fun _ => rfl, fun j h1 h2 => absurd h2 (by dsimp only; omega), fun _ h => (by cases h), .inr ⟨rfl, hr, rfl⟩⟩⟩
  | succ g ih =>
    intro k e hg ho
    cases hr : (relOf m L k e)[t]? with
    | some c =>
      rw [fetchP_there hr]
      refine ⟨Nat.le_refl _, fun j h1 h2 => absurd h2 (by dsimp only; omega), fun j h1 h2 => absurd h2 (by dsimp only; omega), .inl ⟨rfl, ho, fun h => h, fun j h1 h2 => absurd h2 (by dsimp only; omega), fun h1 h2 => ?_, .inl hr⟩⟩
      dsimp only at h1
      rw [h1] at h2
      cases h2
    | none =>
      cases e with
      | true =>
        rw [fetchP_done hr]
        exact ⟨Nat.le_refl _, fun j h1 h2 => absurd h2 (by dsimp only; omega), fun j h1 h2 => absurd h2 (by dsimp only; omega), .inl ⟨rfl, ho, fun _ => rfl, fun j h1 h2 => absurd h2 (by dsimp only; omega), fun _ h => (by cases h), .inr ⟨rfl, hr, rfl⟩⟩⟩
      | false =>
        by_cases hk : k = L.length
        · rw [fetchP_end hr hk]
          have h1 := ih k true (by simp [stepsOf] at hg ⊢; omega) ⟨by omega, fun _ => hk⟩
          have hle := h1.le
          have hFk : (fetchP m L t k true).k = k := by
            rcases h1.give with ⟨_, h3, _⟩ | ⟨_, _, h3, _, h4, _⟩
            · have := h3.1; omega
            · have := h1.le; omega
          refine ⟨h1.le, fun j a b => absurd b (by omega), h1.calm, ?_⟩
          rcases h1.give with ⟨a1, a2, a3, a4, a5, a6⟩ | ⟨a1, a2, a3, a4, a5, a6⟩
          · exact .inl ⟨a1, a2, fun h => (by cases h), a4, fun _ _ => by rw [hFk]; exact hr, a6⟩
          · omega
        · have hkl : k < L.length := by have := ho.1; omega
          by_cases hf : faultAt L k = 0
          · rw [fetchP_read hr hkl hf]
            have h1 := ih (k + 1) false (by simp [stepsOf] at hg ⊢; omega) ⟨hkl, fun h => by cases h⟩
            have hle := h1.le
            refine ⟨by omega, fun j a b => ?_, fun j a b => ?_, ?_⟩
            · by_cases hj : j = k
              · subst hj; exact ⟨hr, rfl⟩
              · exact h1.bare j (by omega) b
            · by_cases hj : j = k
              · subst hj; exact hf
              · exact h1.calm j (by omega) b
            · rcases h1.give with ⟨a1, a2, a3, a4, a5, a6⟩ | ⟨a1, a2, a3, a4, a5, a6⟩
              · refine .inl ⟨a1, a2, a3, fun j a b => ?_, a5, a6⟩
                by_cases hj : j = k
                · subst hj; exact hf
                · exact a4 j (by omega) b
              · exact .inr ⟨a1, a2, a3, by omega, a5, a6⟩
          · rw [fetchP_fault hr hkl hf]
            refine ⟨by dsimp only; omega, fun j a b => ?_, fun j a b => ?_, .inr ⟨hf, rfl, rfl, by dsimp only; omega, hkl, rfl⟩⟩
            · dsimp only at b
              obtain rfl : j = k := by omega
              exact ⟨hr, rfl⟩
            · dsimp only at b
              omega

theorem fetch_is' {m : Int} {L : List Chk} {t k : Nat} {e : Bool} (h : OkAt L k e) : FetchIs m L t k e (fetchP m L t k e) := fetch_is _ k e rfl h

/-- The form of all that the chunks hold. -/
def fullOf (m : Int) (L : List Chk) : List Int := relOf m L L.length true

theorem full_form {m : Int} (h0 : 0 ≤ m) (h3 : m ≤ 3) (L : List Chk) : fullOf m L = form m (codes (bytesOf L)) := by
  unfold fullOf relOf goneIn
  rw [if_pos rfl, List.take_length, form_line h0 h3]

theorem rel_prefix (m : Int) (L : List Chk) {k : Nat} {e : Bool} (h : OkAt L k e) : ∃ t, fullOf m L = relOf m L k e ++ t := by
  cases e with
  | true =>
    rw [h.2 rfl]
    exact ⟨[], by rw [List.append_nil]; rfl⟩
  | false =>
    unfold fullOf relOf goneIn
    simp only [if_true, Bool.false_eq_true, if_false]
    have e1 : bytesOf (L.take L.length) = bytesOf (L.take k) ++ bytesOf (L.drop k) := by rw [List.take_length, ← bytes_append, List.take_append_drop]
    rw [e1, codes_sure]
    exact in_prefix _ _ _ true _

theorem rel_more (m : Int) (L : List Chk) {k j : Nat} (h : k ≤ j) : ∃ t, relOf m L j false = relOf m L k false ++ t := by
  unfold relOf goneIn
  simp only [Bool.false_eq_true, if_false]
  have e1 : bytesOf (L.take j) = bytesOf (L.take k) ++ bytesOf ((L.take j).drop k) := by
    rw [← bytes_append]
    congr 1
    have := List.take_append_drop k (L.take j)
    rw [List.take_take, Nat.min_eq_left h] at this
    exact this.symm
  rw [e1, sure_app]
  exact in_prefix _ _ _ false _

theorem full_valid (m : Int) (L : List Chk) : ∀ c ∈ fullOf m L, Valid c := by
  unfold fullOf relOf goneIn
  rw [if_pos rfl]
  exact inAt_valid (codes_valid _) _

theorem at_prefix {l p r : List Int} {t : Nat} {c : Int} (h : l = p ++ r) (hc : p[t]? = some c) : l[t]? = some c := by
  rw [h, List.getElem?_append_left (List.getElem?_eq_some_iff.1 hc).1]
  exact hc

/-- Without a fault: the next code point of the form, or its end. -/
theorem fetch_calm {m : Int} {L : List Chk} {t k : Nat} {e : Bool} (h : OkAt L k e) (hc : ∀ j, j < L.length → faultAt L j = 0) :
    (fetchP m L t k e).err = 0 ∧ OkAt L (fetchP m L t k e).k (fetchP m L t k e).e ∧ ((fullOf m L)[t]? = some (fetchP m L t k e).c ∨ ((fullOf m L)[t]? = none ∧ (fetchP m L t k e).c = -1 ∧ (fetchP m L t k e).e = true)) := by
  have hf := fetch_is' (m := m) (t := t) h
  rcases hf.give with ⟨a1, a2, a3, a4, a5, a6⟩ | ⟨a1, a2, a3, a4, a5, a6⟩
  · refine ⟨a1, a2, ?_⟩
    rcases a6 with h1 | ⟨h1, h2, h3⟩
    · obtain ⟨r, hr⟩ := rel_prefix m L a2
      exact .inl (at_prefix hr h1)
    · rw [a2.2 h1] at h2
      exact .inr ⟨h2, h3, h1⟩
  · rw [hc _ (by omega)] at a6
    exact absurd a6 a1

end Go.Proofs.YtmhaknejeobfgabGreatDoor

/- MachE. -/
namespace Go.Proofs.YtmhaknejeobfgabGreatDoor
open Go.Proofs.YtmhaknejeobfgabGreatDoor.Stable Go.Proofs.YtmhaknejeobfgabGreatDoor.Order Go.Proofs.YtmhaknejeobfgabGreatDoor.Points

theorem getElem_append {p r : List Int} {t : Nat} (h : p.length = t) : (p ++ r)[t]? = r[0]? := by
  rw [List.getElem?_append_right (by omega), h, Nat.sub_self]

end Go.Proofs.YtmhaknejeobfgabGreatDoor

/- MachF. -/
namespace Go.Proofs.YtmhaknejeobfgabGreatDoor
open Go.Proofs.YtmhaknejeobfgabGreatDoor.Stable Go.Proofs.YtmhaknejeobfgabGreatDoor.Order Go.Proofs.YtmhaknejeobfgabGreatDoor.Points

theorem faultG_spec (L : List Chk) : ∀ (g k : Nat), (faultG L g k = 0 ∧ ∀ j, k ≤ j → j < k + g → faultAt L j = 0) ∨ ∃ j, k ≤ j ∧ j < k + g ∧ faultAt L j ≠ 0 ∧ faultG L g k = faultAt L j ∧ ∀ i, k ≤ i → i < j → faultAt L i = 0
  | 0, k => .inl ⟨rfl, fun j h1 h2 => absurd h2 (by omega)⟩
  | g + 1, k => by
    unfold faultG
    by_cases h : faultAt L k = 0
    · rw [if_neg (by rw [h]; simp)]
      rcases faultG_spec L g (k + 1) with ⟨h1, h2⟩ | ⟨j, h1, h2, h3, h4, h5⟩
      · refine .inl ⟨h1, fun j a b => ?_⟩
        by_cases hj : j = k
        · subst hj; exact h
        · exact h2 j (by omega) (by omega)
      · refine .inr ⟨j, by omega, by omega, h3, h4, fun i a b => ?_⟩
        by_cases hi : i = k
        · subst hi; exact h
        · exact h5 i (by omega) b
    · rw [if_pos h]
      exact .inr ⟨k, Nat.le_refl _, by omega, h, rfl, fun i a b => absurd b (by omega)⟩

theorem fault_spec (L : List Chk) : (faultOf L = 0 ∧ ∀ j, j < L.length → faultAt L j = 0) ∨ ∃ j, j < L.length ∧ faultAt L j ≠ 0 ∧ faultOf L = faultAt L j ∧ ∀ i, i < j → faultAt L i = 0 := by
  rcases faultG_spec L L.length 0 with ⟨h1, h2⟩ | ⟨j, h1, h2, h3, h4, h5⟩
  · exact .inl ⟨h1, fun j hj => h2 j (by omega) (by omega)⟩
  · exact .inr ⟨j, by omega, h3, h4, fun i hi => h5 i (by omega) hi⟩

/-- Why it stops here, if it does. -/
def lastG (m : Int) (A B : List Chk) (ka : Nat) (ea : Bool) (kb : Nat) (eb : Bool) (t : Nat) : Cmp :=
  if (fetchP m A t ka ea).err ≠ 0 then ⟨0, (fetchP m A t ka ea).k, kb, 0, 0, (fetchP m A t ka ea).err⟩
  else if (fetchP m B t kb eb).err ≠ 0 then ⟨0, (fetchP m A t ka ea).k, (fetchP m B t kb eb).k, 0, 0, (fetchP m B t kb eb).err⟩
  else ⟨signOf (fetchP m A t ka ea).c (fetchP m B t kb eb).c, (fetchP m A t ka ea).k, (fetchP m B t kb eb).k, heldAt m A (fetchP m A t ka ea).k (fetchP m A t ka ea).e, heldAt m B (fetchP m B t kb eb).k (fetchP m B t kb eb).e, 0⟩

/-- Both go on. -/
def goesOn (m : Int) (A B : List Chk) (ka : Nat) (ea : Bool) (kb : Nat) (eb : Bool) (t : Nat) : Prop :=
  (fetchP m A t ka ea).err = 0 ∧ (fetchP m B t kb eb).err = 0 ∧ (fetchP m A t ka ea).c = (fetchP m B t kb eb).c ∧ (fetchP m A t ka ea).c ≠ -1

/-- A comparison, from where both stand. -/
inductive Runs (m : Int) (A B : List Chk) : Nat → Bool → Nat → Bool → Nat → Cmp → Prop
  | stop {ka ea kb eb t} (h : ¬ goesOn m A B ka ea kb eb t) : Runs m A B ka ea kb eb t (lastG m A B ka ea kb eb t)
  | step {ka ea kb eb t G} (h : goesOn m A B ka ea kb eb t) (r : Runs m A B (fetchP m A t ka ea).k (fetchP m A t ka ea).e (fetchP m B t kb eb).k (fetchP m B t kb eb).e (t + 1) G) : Runs m A B ka ea kb eb t G

theorem Runs.same {m : Int} {A B : List Chk} {ka : Nat} {ea : Bool} {kb : Nat} {eb : Bool} {t : Nat} {G G' : Cmp} (h : Runs m A B ka ea kb eb t G) (h' : Runs m A B ka ea kb eb t G') : G = G' := by
  induction h with
  | stop h =>
    cases h' with
    | stop _ => rfl
    | step h2 _ => exact absurd h2 h
  | step h _ ih =>
    cases h' with
    | stop h2 => exact absurd h h2
    | step _ r => exact ih r

theorem strmG_step (m : Int) (A B : List Chk) (g ka : Nat) (ea : Bool) (kb : Nat) (eb : Bool) (t : Nat) (h : goesOn m A B ka ea kb eb t) : strmG m A B (g + 1) ka ea kb eb t = strmG m A B g (fetchP m A t ka ea).k (fetchP m A t ka ea).e (fetchP m B t kb eb).k (fetchP m B t kb eb).e (t + 1) := by
  obtain ⟨h1, h2, h3, h4⟩ := h
  have n1 : ¬ (fetchP m A t ka ea).err ≠ 0 := fun k => k h1
  have n2 : ¬ (fetchP m B t kb eb).err ≠ 0 := fun k => k h2
  rw [strmG, if_neg n1, if_neg n2, if_pos ⟨h3, h4⟩]

theorem last_calm {m : Int} {A B : List Chk} {ka : Nat} {ea : Bool} {kb : Nat} {eb : Bool} {t : Nat} (h1 : (fetchP m A t ka ea).err = 0) (h2 : (fetchP m B t kb eb).err = 0) : lastG m A B ka ea kb eb t = ⟨signOf (fetchP m A t ka ea).c (fetchP m B t kb eb).c, (fetchP m A t ka ea).k, (fetchP m B t kb eb).k, heldAt m A (fetchP m A t ka ea).k (fetchP m A t ka ea).e, heldAt m B (fetchP m B t kb eb).k (fetchP m B t kb eb).e, 0⟩ := by
  have n1 : ¬ (fetchP m A t ka ea).err ≠ 0 := fun k => k h1
  have n2 : ¬ (fetchP m B t kb eb).err ≠ 0 := fun k => k h2
  rw [lastG, if_neg n1, if_neg n2]

theorem last_a {m : Int} {A B : List Chk} {ka : Nat} {ea : Bool} {kb : Nat} {eb : Bool} {t : Nat} (h1 : (fetchP m A t ka ea).err ≠ 0) : lastG m A B ka ea kb eb t = ⟨0, (fetchP m A t ka ea).k, kb, 0, 0, (fetchP m A t ka ea).err⟩ := by
  rw [lastG, if_pos h1]

theorem last_b {m : Int} {A B : List Chk} {ka : Nat} {ea : Bool} {kb : Nat} {eb : Bool} {t : Nat} (h1 : (fetchP m A t ka ea).err = 0) (h2 : (fetchP m B t kb eb).err ≠ 0) : lastG m A B ka ea kb eb t = ⟨0, (fetchP m A t ka ea).k, (fetchP m B t kb eb).k, 0, 0, (fetchP m B t kb eb).err⟩ := by
  have n1 : ¬ (fetchP m A t ka ea).err ≠ 0 := fun k => k h1
  rw [lastG, if_neg n1, if_pos h2]

theorem strmG_stop (m : Int) (A B : List Chk) (g ka : Nat) (ea : Bool) (kb : Nat) (eb : Bool) (t : Nat) (h : ¬ goesOn m A B ka ea kb eb t) : strmG m A B (g + 1) ka ea kb eb t = lastG m A B ka ea kb eb t := by
  unfold goesOn at h
  by_cases h1 : (fetchP m A t ka ea).err = 0
  · have n1 : ¬ (fetchP m A t ka ea).err ≠ 0 := fun k => k h1
    by_cases h2 : (fetchP m B t kb eb).err = 0
    · have n2 : ¬ (fetchP m B t kb eb).err ≠ 0 := fun k => k h2
      have n3 : ¬ ((fetchP m A t ka ea).c = (fetchP m B t kb eb).c ∧ (fetchP m A t ka ea).c ≠ -1) := fun k => h ⟨h1, h2, k.1, k.2⟩
      rw [last_calm h1 h2, strmG, if_neg n1, if_neg n2, if_neg n3]
    · rw [last_b h1 h2, strmG, if_neg n1, if_pos h2]
  · rw [last_a h1, strmG, if_pos h1]

/-- A state behind a Fetch that went well. -/
theorem fetch_ok {m : Int} {L : List Chk} {t k : Nat} {e : Bool} (h : OkAt L k e) (he : (fetchP m L t k e).err = 0) : OkAt L (fetchP m L t k e).k (fetchP m L t k e).e := by
  rcases (fetch_is' (m := m) (t := t) h).give with ⟨_, a2, _⟩ | ⟨a1, _⟩
  · exact a2
  · exact absurd he a1

theorem fetch_lt {m : Int} {L : List Chk} {t k : Nat} {e : Bool} (h : OkAt L k e) (he : (fetchP m L t k e).err = 0) (hc : (fetchP m L t k e).c ≠ -1) : t < (fullOf m L).length := by
  rcases (fetch_is' (m := m) (t := t) h).give with ⟨_, a2, _, _, _, a6⟩ | ⟨a1, _⟩
  · rcases a6 with a6 | ⟨_, _, a6⟩
    · obtain ⟨r, hr⟩ := rel_prefix m L a2
      exact (List.getElem?_eq_some_iff.1 (at_prefix hr a6)).1
    · exact absurd a6 hc
  · exact absurd he a1

theorem runs_of {m : Int} {A B : List Chk} : ∀ (g ka : Nat) (ea : Bool) (kb : Nat) (eb : Bool) (t : Nat), OkAt A ka ea → OkAt B kb eb → t ≤ (fullOf m A).length → (fullOf m A).length < t + g → Runs m A B ka ea kb eb t (strmG m A B g ka ea kb eb t)
  | 0, _, _, _, _, _, _, _, h1, h2 => absurd h2 (by omega)
  | g + 1, ka, ea, kb, eb, t, oa, ob, h1, h2 => by
    by_cases h : goesOn m A B ka ea kb eb t
    · rw [strmG_step _ _ _ _ _ _ _ _ _ h]
      have := fetch_lt oa h.1 h.2.2.2
      exact .step h (runs_of g _ _ _ _ _ (fetch_ok oa h.1) (fetch_ok ob h.2.1) (by omega) (by omega))
    · rw [strmG_stop _ _ _ _ _ _ _ _ _ h]
      exact .stop h

theorem strm_runs {m : Int} {A B : List Chk} (hr : (fullOf m A).length ≤ roomOf A) : Runs m A B 0 false 0 false 0 (strm m A B) :=
  runs_of _ _ _ _ _ _ ⟨Nat.zero_le _, fun h => by cases h⟩ ⟨Nat.zero_le _, fun h => by cases h⟩ (Nat.zero_le _) (by omega)

/-- No fault below. -/
def NoF (L : List Chk) (r : Nat) : Prop := ∀ j, j < r → faultAt L j = 0

/-- The read r met the first fault. -/
def FirstF (L : List Chk) (r : Nat) (err : Int) : Prop := ∃ j, r = j + 1 ∧ j < L.length ∧ err = faultAt L j ∧ NoF L j

/-- What is to be said of any comparison. -/
structure AnyCmp (A B : List Chk) (G : Cmp) : Prop where
  ra : G.ra ≤ A.length
  rb : G.rb ≤ B.length
  calm : G.err = 0 → NoF A G.ra ∧ NoF B G.rb ∧ -1 ≤ G.sign ∧ G.sign ≤ 1
  bad : G.err ≠ 0 → G.sign = 0 ∧ G.ha = 0 ∧ G.hb = 0 ∧ ((FirstF A G.ra G.err ∧ NoF B G.rb) ∨ (FirstF B G.rb G.err ∧ NoF A G.ra))

theorem fetch_noF {m : Int} {L : List Chk} {t k : Nat} {e : Bool} (h : OkAt L k e) (hn : NoF L k) (he : (fetchP m L t k e).err = 0) : NoF L (fetchP m L t k e).k := fun j hj => by
  rcases (fetch_is' (m := m) (t := t) h).give with ⟨_, _, _, a4, _⟩ | ⟨a1, _⟩
  · by_cases hk : j < k
    · exact hn j hk
    · exact a4 j (by omega) hj
  · exact absurd he a1

theorem fetch_firstF {m : Int} {L : List Chk} {t k : Nat} {e : Bool} (h : OkAt L k e) (hn : NoF L k) (he : (fetchP m L t k e).err ≠ 0) : FirstF L (fetchP m L t k e).k (fetchP m L t k e).err := by
  have hf := fetch_is' (m := m) (t := t) h
  rcases hf.give with ⟨a1, _⟩ | ⟨_, _, _, a4, a5, a6⟩
  · exact absurd a1 he
  · refine ⟨(fetchP m L t k e).k - 1, by omega, by omega, a6, fun j hj => ?_⟩
    by_cases hk : j < k
    · exact hn j hk
    · exact hf.calm j (by omega) (by omega)

theorem FirstF.le {L : List Chk} {r : Nat} {err : Int} (h : FirstF L r err) : r ≤ L.length := by
  obtain ⟨j, h1, h2, _⟩ := h
  omega

theorem sign_range (c d : Int) : -1 ≤ signOf c d ∧ signOf c d ≤ 1 := by
  unfold signOf
  split
  · omega
  · split <;> omega

theorem Runs.any {m : Int} {A B : List Chk} {ka : Nat} {ea : Bool} {kb : Nat} {eb : Bool} {t : Nat} {G : Cmp} (h : Runs m A B ka ea kb eb t G) (oa : OkAt A ka ea) (ob : OkAt B kb eb) (na : NoF A ka) (nb : NoF B kb) : AnyCmp A B G := by
  induction h with
  | step h _ ih => exact ih (fetch_ok oa h.1) (fetch_ok ob h.2.1) (fetch_noF oa na h.1) (fetch_noF ob nb h.2.1)
  | @stop ka ea kb eb t h =>
    by_cases h1 : (fetchP m A t ka ea).err = 0
    · by_cases h2 : (fetchP m B t kb eb).err = 0
      · rw [last_calm h1 h2]
        exact ⟨(fetch_ok oa h1).1, (fetch_ok ob h2).1, fun _ => ⟨fetch_noF oa na h1, fetch_noF ob nb h2, sign_range _ _⟩, fun k => absurd rfl k⟩
      · rw [last_b h1 h2]
        have hF := fetch_firstF ob nb h2
        exact ⟨(fetch_ok oa h1).1, hF.le, fun k => absurd k h2, fun _ => ⟨rfl, rfl, rfl, .inr ⟨hF, fetch_noF oa na h1⟩⟩⟩
    · rw [last_a h1]
      have hF := fetch_firstF oa na h1
      exact ⟨hF.le, ob.1, fun k => absurd k h1, fun _ => ⟨rfl, rfl, rfl, .inl ⟨hF, nb⟩⟩⟩

/-- No more is read behind than at the end. -/
theorem Runs.le {m : Int} {A B : List Chk} {ka : Nat} {ea : Bool} {kb : Nat} {eb : Bool} {t : Nat} {G : Cmp} (h : Runs m A B ka ea kb eb t G) (oa : OkAt A ka ea) (ob : OkAt B kb eb) (he : G.err = 0) : (fetchP m A t ka ea).k ≤ G.ra ∧ (fetchP m B t kb eb).k ≤ G.rb ∧ (fetchP m A t ka ea).err = 0 ∧ (fetchP m B t kb eb).err = 0 := by
  induction h with
  | @step ka ea kb eb t G h _ ih =>
    have h1 := ih (fetch_ok oa h.1) (fetch_ok ob h.2.1) he
    have h2 := (fetch_is' (m := m) (t := t + 1) (fetch_ok oa h.1)).le
    have h3 := (fetch_is' (m := m) (t := t + 1) (fetch_ok ob h.2.1)).le
    exact ⟨by omega, by omega, h.1, h.2.1⟩
  | @stop ka ea kb eb t h =>
    by_cases h1 : (fetchP m A t ka ea).err = 0
    · by_cases h2 : (fetchP m B t kb eb).err = 0
      · rw [last_calm h1 h2]
        exact ⟨Nat.le_refl _, Nat.le_refl _, h1, h2⟩
      · rw [last_b h1 h2] at he
        exact absurd he h2
    · rw [last_a h1] at he
      exact absurd he h1

/-- Two lists of chunks whose first r are the same; the first list goes on there. -/
structure Same (A A' : List Chk) (r : Nat) : Prop where
  lt : r < A.length
  le : r ≤ A'.length
  eq : A'.take r = A.take r

theorem Same.take {A A' : List Chk} {r k : Nat} (h : Same A A' r) (hk : k ≤ r) : A'.take k = A.take k := by
  have := congrArg (List.take k) h.eq
  rwa [List.take_take, List.take_take, Nat.min_eq_left hk] at this

theorem Same.gone {A A' : List Chk} {r k : Nat} {e : Bool} (h : Same A A' r) (hk : k ≤ r) : goneIn A' k e = goneIn A k e := by
  unfold goneIn
  rw [h.take hk]

theorem Same.rel {A A' : List Chk} {r k : Nat} {e : Bool} (m : Int) (h : Same A A' r) (hk : k ≤ r) : relOf m A' k e = relOf m A k e := by
  unfold relOf
  rw [h.gone hk]

theorem Same.held {A A' : List Chk} {r k : Nat} {e : Bool} (m : Int) (h : Same A A' r) (hk : k ≤ r) : heldAt m A' k e = heldAt m A k e := by
  unfold heldAt
  rw [h.gone hk]

theorem Same.fault {A A' : List Chk} {r k : Nat} (h : Same A A' r) (hk : k < r) : faultAt A' k = faultAt A k := by
  unfold faultAt
  have e1 : A'[k]? = A[k]? := by
    have := congrArg (fun l => l[k]?) h.eq
    simp only [List.getElem?_take, if_pos hk] at this
    exact this
  rw [e1, h.take (by omega)]

/-- What is not read does not matter to a Fetch. -/
theorem fetch_same {m : Int} {A A' : List Chk} {r t : Nat} (h : Same A A' r) : ∀ (n k : Nat), r - k = n → k ≤ r → (fetchP m A t k false).k ≤ r → fetchP m A' t k false = fetchP m A t k false := by
  intro n
  induction n with
  | zero =>
    intro k hn hk hF
    obtain rfl : k = r := by omega
    cases hr : (relOf m A k false)[t]? with
    | some c => rw [fetchP_there hr, fetchP_there (by rw [h.rel m hk]; exact hr)]
    | none =>
      have hl := h.lt
      by_cases hf : faultAt A k = 0
      · rw [fetchP_read hr hl hf] at hF
        have := (fetch_is' (m := m) (t := t) (L := A) (k := k + 1) (e := false) ⟨hl, fun h => by cases h⟩).le
        omega
      · rw [fetchP_fault hr hl hf] at hF
        dsimp only at hF
        omega
  | succ n ih =>
    intro k hn hk hF
    have hl := h.lt
    have hl' := h.le
    cases hr : (relOf m A k false)[t]? with
    | some c => rw [fetchP_there hr, fetchP_there (by rw [h.rel m hk]; exact hr)]
    | none =>
      have hr' : (relOf m A' k false)[t]? = none := by rw [h.rel m hk]; exact hr
      by_cases hf : faultAt A k = 0
      · rw [fetchP_read hr (by omega) hf] at hF ⊢
        rw [fetchP_read hr' (by omega) (by rw [h.fault (by omega)]; exact hf)]
        exact ih (k + 1) (by omega) (by omega) hF
      · rw [fetchP_fault hr (by omega) hf, fetchP_fault hr' (by omega) (by rw [h.fault (by omega)]; exact hf), h.fault (by omega)]

/-- The side of a comparison that may be changed behind r reads. -/
def Side (A A' : List Chk) (r : Nat) : Prop := A' = A ∨ Same A A' r

theorem Side.fetch {m : Int} {A A' : List Chk} {r t k : Nat} {e : Bool} (h : Side A A' r) (o : OkAt A k e) (hF : (fetchP m A t k e).k ≤ r) : fetchP m A' t k e = fetchP m A t k e := by
  rcases h with rfl | h
  · rfl
  · have h1 := (fetch_is' (m := m) (t := t) o).le
    cases e with
    | true => have := o.2 rfl; have := h.lt; omega
    | false => exact fetch_same h _ k rfl (by omega) hF

theorem Side.held {A A' : List Chk} {r k : Nat} {e : Bool} (m : Int) (h : Side A A' r) (hk : k ≤ r) : heldAt m A' k e = heldAt m A k e := by
  rcases h with rfl | h
  · rfl
  · exact h.held m hk

/-- What was not read does not matter. -/
theorem Runs.side {m : Int} {A B A' B' : List Chk} {ka : Nat} {ea : Bool} {kb : Nat} {eb : Bool} {t : Nat} {G : Cmp} (h : Runs m A B ka ea kb eb t G) (oa : OkAt A ka ea) (ob : OkAt B kb eb) (he : G.err = 0) (sa : Side A A' G.ra) (sb : Side B B' G.rb) : Runs m A' B' ka ea kb eb t G := by
  induction h with
  | @step ka ea kb eb t G h r ih =>
    have hl := (Runs.step h r).le oa ob he
    have e1 := sa.fetch oa hl.1
    have e2 := sb.fetch ob hl.2.1
    have h' : goesOn m A' B' ka ea kb eb t := by
      unfold goesOn
      rw [e1, e2]
      exact h
    refine .step h' ?_
    rw [e1, e2]
    exact ih (fetch_ok oa h.1) (fetch_ok ob h.2.1) he sa sb
  | @stop ka ea kb eb t h =>
    have hl := (Runs.stop h).le oa ob he
    have e1 := sa.fetch oa hl.1
    have e2 := sb.fetch ob hl.2.1
    have h' : ¬ goesOn m A' B' ka ea kb eb t := by
      unfold goesOn
      rw [e1, e2]
      exact h
    have e3 : lastG m A' B' ka ea kb eb t = lastG m A B ka ea kb eb t := by
      have q1 := sa.held (e := (fetchP m A t ka ea).e) m hl.1
      have q2 := sb.held (e := (fetchP m B t kb eb).e) m hl.2.1
      unfold lastG
      rw [e1, e2, q1, q2]
    rw [← e3]
    exact .stop h'

end Go.Proofs.YtmhaknejeobfgabGreatDoor

/- Utf8B. -/
namespace Go.Proofs.YtmhaknejeobfgabGreatDoor
open Go.RowKit Go.Proofs.YtmhaknejeobfgabGreatDoor.Stable Go.Proofs.YtmhaknejeobfgabGreatDoor.Order Go.Proofs.YtmhaknejeobfgabGreatDoor.Points
attribute [local go_sem ↓] Go.wp_at_zero Go.wp_at_succ

/-- Bytes as numbers. -/
def l8 (l : List UInt8) : List Int := l.map (fun b => (b.toNat : Int))

theorem l8_append (a b : List UInt8) : l8 (a ++ b) = l8 a ++ l8 b := by simp [l8]
theorem l8_length (a : List UInt8) : (l8 a).length = a.length := by simp [l8]
theorem l8_drop (a : List UInt8) (k : Nat) : l8 (a.drop k) = (l8 a).drop k := by simp [l8]

/-- Is there a code point for sure, by its first bytes (r: how many there are)? -/
def fullB (r b0 b1 b2 : Nat) : Bool := decide (b0 < 194 ∨ 244 < b0 ∨ needOf b0 ≤ r ∨ (1 < r ∧ (b1 < lowOf b0 ∨ topOf b0 < b1)) ∨ (2 < r ∧ (b2 < 128 ∨ 191 < b2)))

theorem at_full {r b0 b1 b2 b3 : Nat} : fullB r b0 b1 b2 = decide ((atB r b0 b1 b2 b3).2 ≠ 0) := by
  unfold fullB
  apply decide_eq_decide.2
  unfold atB
  by_cases k0 : b0 < 128
  · rw [if_pos k0]
    exact ⟨fun _ => by simp, fun _ => by omega⟩
  rw [if_neg k0]
  by_cases k1 : b0 < 194 ∨ 244 < b0
  · rw [if_pos k1]
    exact ⟨fun _ => by simp, fun _ => by omega⟩
  rw [if_neg k1]
  have hn := need_cases (b := b0) (by omega) (by omega)
  by_cases k2 : r ≤ 1
  · rw [if_pos k2]
    exact ⟨fun h => by omega, fun h => absurd rfl h⟩
  rw [if_neg k2]
  by_cases k3 : b1 < lowOf b0 ∨ topOf b0 < b1
  · rw [if_pos k3]
    exact ⟨fun _ => by simp, fun _ => by omega⟩
  rw [if_neg k3]
  by_cases k4 : needOf b0 = 2
  · rw [if_pos k4]
    exact ⟨fun _ => by simp, fun _ => by omega⟩
  rw [if_neg k4]
  by_cases k5 : r ≤ 2
  · rw [if_pos k5]
    exact ⟨fun h => by omega, fun h => absurd rfl h⟩
  rw [if_neg k5]
  by_cases k6 : b2 < 128 ∨ 191 < b2
  · rw [if_pos k6]
    exact ⟨fun _ => by simp, fun _ => by omega⟩
  rw [if_neg k6]
  by_cases k7 : needOf b0 = 3
  · rw [if_pos k7]
    exact ⟨fun _ => by simp, fun _ => by omega⟩
  rw [if_neg k7]
  by_cases k8 : r ≤ 3
  · rw [if_pos k8]
    exact ⟨fun h => by omega, fun h => absurd rfl h⟩
  rw [if_neg k8]
  refine ⟨fun _ => ?_, fun _ => by omega⟩
  split <;> simp

theorem full_by {l : List UInt8} (h : l ≠ []) : fullL l = fullB l.length (l.getD 0 0).toNat (l.getD 1 0).toNat (l.getD 2 0).toNat := by
  rw [at_full (b3 := (l.getD 3 0).toNat)]
  unfold fullL atL
  apply decide_eq_decide.2
  exact ⟨fun x => x.2, fun x => ⟨h, x⟩⟩

/-- What the table's number for a first byte says. -/
theorem first_says (b : Nat) : (Lib.firstT b = 240 ∧ b < 128) ∨ (Lib.firstT b = 241 ∧ (128 ≤ b ∧ b < 194 ∨ 244 < b)) ∨
    (194 ≤ b ∧ b ≤ 244 ∧ Lib.firstT b % 8 = needOf b ∧ Lib.accLo (Lib.firstT b / 16) = lowOf b ∧ Lib.accHi (Lib.firstT b / 16) = topOf b ∧ (Lib.firstT b = 2 ∨ Lib.firstT b = 19 ∨ Lib.firstT b = 3 ∨ Lib.firstT b = 35 ∨ Lib.firstT b = 52 ∨ Lib.firstT b = 4 ∨ Lib.firstT b = 68)) := by
  unfold Lib.firstT needOf lowOf topOf
  by_cases h1 : b < 128
  · simp [h1]
  by_cases h2 : b < 194
  · simp [h1, h2]; omega
  by_cases h3 : b < 224
  · have a1 : ¬ b = 224 := by omega
    have a2 : ¬ b = 237 := by omega
    have a3 : ¬ b = 240 := by omega
    have a4 : ¬ b = 244 := by omega
    simp [h1, h2, h3, a1, a2, a3, a4, Lib.accLo, Lib.accHi]
    omega
  by_cases h4 : b = 224
  · subst h4; decide
  by_cases h5 : b < 237
  · have a1 : ¬ b = 224 := by omega
    have a2 : ¬ b = 237 := by omega
    have a3 : ¬ b = 240 := by omega
    have a4 : ¬ b = 244 := by omega
    simp [h1, h2, h3, h5, (by omega : b < 240), a1, a2, a3, a4, Lib.accLo, Lib.accHi]
    omega
  by_cases h6 : b = 237
  · subst h6; decide
  by_cases h7 : b < 240
  · have a1 : ¬ b = 224 := by omega
    have a2 : ¬ b = 237 := by omega
    have a3 : ¬ b = 240 := by omega
    have a4 : ¬ b = 244 := by omega
    simp [h1, h2, h3, h5, h7, a1, a2, a3, a4, Lib.accLo, Lib.accHi]
    omega
  by_cases h8 : b = 240
  · subst h8; decide
  by_cases h9 : b < 244
  · have a1 : ¬ b = 224 := by omega
    have a2 : ¬ b = 237 := by omega
    have a3 : ¬ b = 240 := by omega
    have a4 : ¬ b = 244 := by omega
    simp [h1, h2, h3, h5, h7, h9, a1, a2, a3, a4, Lib.accLo, Lib.accHi]
    omega
  by_cases h10 : b = 244
  · subst h10; decide
  simp [h1, h2, h3, h4, h5, h6, h7, h8, h9, h10]
  omega

set_option maxRecDepth 1000000 in
set_option maxHeartbeats 4000000 in
/-- FullRune of bytes of which there is one at least. -/
theorem full_some (n x o c b0 b1 b2 : Nat) (w : World) (hT : Lib.Utf8Tabs 0 1 w) (hn : 0 < n) (h0 : b0 < 256) (c0 : w.cell? ⟨x, o, none⟩ = some (.int .u8 b0)) (c1 : 1 < n → w.cell? ⟨x, o + 1, none⟩ = some (.int .u8 b1)) (c2 : 2 < n → w.cell? ⟨x, o + 2, none⟩ = some (.int .u8 b2)) :
    Calls Tryz.prog 82 #[.slice (some ⟨x, o, none⟩) n c] w fun e w' => e = .returned (.bool (fullB n b0 b1 b2)) ∧ Fr (fun _ => False) w w' := by
  have hxl : x < w.heap.size := block_lt_of_cell c0
  have up : ∀ {k : Nat} {v : Value} (ob : Obj), w.cell? ⟨x, k, none⟩ = some v → (w.alloc ob).cell? ⟨x, k, none⟩ = some v := fun ob h => (World.cell?_of_block (w := w) (Below.heap_alloc w ob x hxl)).trans h
  have hc0 := hT.1 b0 h0
  have hz : ((n : Int) == 0) = false := by rw [beq_eq_false_iff_ne]; omega
  have i0 : (0 : Int) < (n : Int) := by omega
  have j0 : (0 : Int) ≤ (b0 : Int) := by omega
  have j1 : (b0 : Int) < 256 := by omega
  obtain ⟨z, hz1⟩ : ∃ z, z = fullB n b0 b1 b2 := ⟨_, rfl⟩
  rw [← hz1]
  have HZ : Hid (z = fullB n b0 b1 b2) := hz1
  clear hz1
  rcases first_says b0 with ⟨e, h⟩ | ⟨e, h⟩ | ⟨h1, h2, h3, h4, h5, h6⟩
  · have hz2 : z = true := by
      rw [HZ.out]
      unfold fullB
      simp
      omega
    subst hz2
    rw [e] at hc0
    clear HZ hT h e
    go_enter Tryz.func82, Tryz.ntmps82
    go_wp2
    go_ret
    exact ⟨rfl, Fr.refl _ _⟩
  · have hz2 : z = true := by
      rw [HZ.out]
      unfold fullB
      simp
      omega
    subst hz2
    rw [e] at hc0
    have i1 : (1 : Int) ≤ (n : Int) := by omega
    clear HZ hT h e
    go_enter Tryz.func82, Tryz.ntmps82
    go_wp2
    go_ret
    exact ⟨rfl, Fr.refl _ _⟩
  · have ha := hT.2 (Lib.firstT b0 / 16) (by omega)
    have hzz : z = decide (needOf b0 ≤ n ∨ (1 < n ∧ (b1 < lowOf b0 ∨ topOf b0 < b1)) ∨ (2 < n ∧ (b2 < 128 ∨ 191 < b2))) := by
      rw [HZ.out]
      unfold fullB
      apply decide_eq_decide.2
      omega
    rw [← h3, ← h4, ← h5] at hzz
    have hs : 2 ≤ needOf b0 ∧ needOf b0 ≤ 4 := by
      rcases need_cases h1 h2 with h | h | h <;> omega
    clear HZ h3 h4 h5 hT
    rcases h6 with e | e | e | e | e | e | e
    all_goals
      rw [e] at hc0 ha hzz
      simp only [Lib.accLo, Lib.accHi, Nat.reduceMul, Nat.reduceAdd, Nat.reduceEqDiff, if_true, if_false, Nat.reduceMod, Nat.reduceDiv] at ha hzz
      obtain ⟨ha0, ha1⟩ := ha
      clear e
    · rcases (by omega : 2 ≤ n ∨ n = 1) with k | rfl
      · have hz2 : z = true := by rw [hzz]; simp; omega
        subst hz2
        have i1 : (2 : Int) ≤ (n : Int) := by omega
        clear hzz
        go_enter Tryz.func82, Tryz.ntmps82
        go_wp2
        go_ret
        exact ⟨rfl, Fr.refl _ _⟩
      · have hz2 : z = false := by rw [hzz]; simp; try omega
        subst hz2
        clear hzz
        go_enter Tryz.func82, Tryz.ntmps82
        go_wp2
        go_quiet (fail)
        go_wp2
        go_ret
        exact ⟨rfl, ((Fr.refl _ _).alloc _).drewN _⟩
    · rcases (by omega : 3 ≤ n ∨ n = 1 ∨ n = 2) with k | rfl | rfl
      · have hz2 : z = true := by rw [hzz]; simp; omega
        subst hz2
        have i1 : (3 : Int) ≤ (n : Int) := by omega
        clear hzz
        go_enter Tryz.func82, Tryz.ntmps82
        go_wp2
        go_ret
        exact ⟨rfl, Fr.refl _ _⟩
      · have hz2 : z = false := by rw [hzz]; simp; try omega
        subst hz2
        clear hzz
        go_enter Tryz.func82, Tryz.ntmps82
        go_wp2
        go_quiet (fail)
        go_wp2
        go_ret
        exact ⟨rfl, ((Fr.refl _ _).alloc _).drewN _⟩
      · rcases (by omega : b1 < 160 ∨ 191 < b1 ∧ 160 ≤ b1 ∨ (160 ≤ b1 ∧ b1 ≤ 191)) with k | k | k
        · have d1 := fun ob => up ob (c1 (by omega))
          have q1 : (b1 : Int) < 160 := by omega
          clear c1 c2
          have hz2 : z = true := by rw [hzz]; simp; try omega
          subst hz2
          clear hzz
          go_enter Tryz.func82, Tryz.ntmps82
          go_wp2
          go_quiet (fail)
          go_wp2
          go_ret
          exact ⟨rfl, ((Fr.refl _ _).alloc _).drewN _⟩
        · have d1 := fun ob => up ob (c1 (by omega))
          have q1 : ¬ (b1 : Int) < 160 := by omega
          have q2 : (191 : Int) < (b1 : Int) := by omega
          clear c1 c2
          have hz2 : z = true := by rw [hzz]; simp; try omega
          subst hz2
          clear hzz
          go_enter Tryz.func82, Tryz.ntmps82
          go_wp2
          go_quiet (fail)
          go_wp2
          go_ret
          exact ⟨rfl, ((Fr.refl _ _).alloc _).drewN _⟩
        · have d1 := fun ob => up ob (c1 (by omega))
          have q1 : ¬ (b1 : Int) < 160 := by omega
          have q2 : ¬ (191 : Int) < (b1 : Int) := by omega
          clear c1 c2
          have hz2 : z = false := by rw [hzz]; simp; try omega
          subst hz2
          clear hzz
          go_enter Tryz.func82, Tryz.ntmps82
          go_wp2
          go_quiet (fail)
          go_wp2
          go_ret
          exact ⟨rfl, ((Fr.refl _ _).alloc _).drewN _⟩
    · rcases (by omega : 3 ≤ n ∨ n = 1 ∨ n = 2) with k | rfl | rfl
      · have hz2 : z = true := by rw [hzz]; simp; omega
        subst hz2
        have i1 : (3 : Int) ≤ (n : Int) := by omega
        clear hzz
        go_enter Tryz.func82, Tryz.ntmps82
        go_wp2
        go_ret
        exact ⟨rfl, Fr.refl _ _⟩
      · have hz2 : z = false := by rw [hzz]; simp; try omega
        subst hz2
        clear hzz
        go_enter Tryz.func82, Tryz.ntmps82
        go_wp2
        go_quiet (fail)
        go_wp2
        go_ret
        exact ⟨rfl, ((Fr.refl _ _).alloc _).drewN _⟩
      · rcases (by omega : b1 < 128 ∨ 191 < b1 ∧ 128 ≤ b1 ∨ (128 ≤ b1 ∧ b1 ≤ 191)) with k | k | k
        · have d1 := fun ob => up ob (c1 (by omega))
          have q1 : (b1 : Int) < 128 := by omega
          clear c1 c2
          have hz2 : z = true := by rw [hzz]; simp; try omega
          subst hz2
          clear hzz
          go_enter Tryz.func82, Tryz.ntmps82
          go_wp2
          go_quiet (fail)
          go_wp2
          go_ret
          exact ⟨rfl, ((Fr.refl _ _).alloc _).drewN _⟩
        · have d1 := fun ob => up ob (c1 (by omega))
          have q1 : ¬ (b1 : Int) < 128 := by omega
          have q2 : (191 : Int) < (b1 : Int) := by omega
          clear c1 c2
          have hz2 : z = true := by rw [hzz]; simp; try omega
          subst hz2
          clear hzz
          go_enter Tryz.func82, Tryz.ntmps82
          go_wp2
          go_quiet (fail)
          go_wp2
          go_ret
          exact ⟨rfl, ((Fr.refl _ _).alloc _).drewN _⟩
        · have d1 := fun ob => up ob (c1 (by omega))
          have q1 : ¬ (b1 : Int) < 128 := by omega
          have q2 : ¬ (191 : Int) < (b1 : Int) := by omega
          clear c1 c2
          have hz2 : z = false := by rw [hzz]; simp; try omega
          subst hz2
          clear hzz
          go_enter Tryz.func82, Tryz.ntmps82
          go_wp2
          go_quiet (fail)
          go_wp2
          go_ret
          exact ⟨rfl, ((Fr.refl _ _).alloc _).drewN _⟩
    · rcases (by omega : 3 ≤ n ∨ n = 1 ∨ n = 2) with k | rfl | rfl
      · have hz2 : z = true := by rw [hzz]; simp; omega
        subst hz2
        have i1 : (3 : Int) ≤ (n : Int) := by omega
        clear hzz
        go_enter Tryz.func82, Tryz.ntmps82
        go_wp2
        go_ret
        exact ⟨rfl, Fr.refl _ _⟩
      · have hz2 : z = false := by rw [hzz]; simp; try omega
        subst hz2
        clear hzz
        go_enter Tryz.func82, Tryz.ntmps82
        go_wp2
        go_quiet (fail)
        go_wp2
        go_ret
        exact ⟨rfl, ((Fr.refl _ _).alloc _).drewN _⟩
      · rcases (by omega : b1 < 128 ∨ 159 < b1 ∧ 128 ≤ b1 ∨ (128 ≤ b1 ∧ b1 ≤ 159)) with k | k | k
        · have d1 := fun ob => up ob (c1 (by omega))
          have q1 : (b1 : Int) < 128 := by omega
          clear c1 c2
          have hz2 : z = true := by rw [hzz]; simp; try omega
          subst hz2
          clear hzz
          go_enter Tryz.func82, Tryz.ntmps82
          go_wp2
          go_quiet (fail)
          go_wp2
          go_ret
          exact ⟨rfl, ((Fr.refl _ _).alloc _).drewN _⟩
        · have d1 := fun ob => up ob (c1 (by omega))
          have q1 : ¬ (b1 : Int) < 128 := by omega
          have q2 : (159 : Int) < (b1 : Int) := by omega
          clear c1 c2
          have hz2 : z = true := by rw [hzz]; simp; try omega
          subst hz2
          clear hzz
          go_enter Tryz.func82, Tryz.ntmps82
          go_wp2
          go_quiet (fail)
          go_wp2
          go_ret
          exact ⟨rfl, ((Fr.refl _ _).alloc _).drewN _⟩
        · have d1 := fun ob => up ob (c1 (by omega))
          have q1 : ¬ (b1 : Int) < 128 := by omega
          have q2 : ¬ (159 : Int) < (b1 : Int) := by omega
          clear c1 c2
          have hz2 : z = false := by rw [hzz]; simp; try omega
          subst hz2
          clear hzz
          go_enter Tryz.func82, Tryz.ntmps82
          go_wp2
          go_quiet (fail)
          go_wp2
          go_ret
          exact ⟨rfl, ((Fr.refl _ _).alloc _).drewN _⟩
    · rcases (by omega : 4 ≤ n ∨ n = 1 ∨ n = 2 ∨ n = 3) with k | rfl | rfl | rfl
      · have hz2 : z = true := by rw [hzz]; simp; omega
        subst hz2
        have i1 : (4 : Int) ≤ (n : Int) := by omega
        clear hzz
        go_enter Tryz.func82, Tryz.ntmps82
        go_wp2
        go_ret
        exact ⟨rfl, Fr.refl _ _⟩
      · have hz2 : z = false := by rw [hzz]; simp; try omega
        subst hz2
        clear hzz
        go_enter Tryz.func82, Tryz.ntmps82
        go_wp2
        go_quiet (fail)
        go_wp2
        go_ret
        exact ⟨rfl, ((Fr.refl _ _).alloc _).drewN _⟩
      · rcases (by omega : b1 < 144 ∨ 191 < b1 ∧ 144 ≤ b1 ∨ (144 ≤ b1 ∧ b1 ≤ 191)) with k | k | k
        · have d1 := fun ob => up ob (c1 (by omega))
          have q1 : (b1 : Int) < 144 := by omega
          clear c1 c2
          have hz2 : z = true := by rw [hzz]; simp; try omega
          subst hz2
          clear hzz
          go_enter Tryz.func82, Tryz.ntmps82
          go_wp2
          go_quiet (fail)
          go_wp2
          go_ret
          exact ⟨rfl, ((Fr.refl _ _).alloc _).drewN _⟩
        · have d1 := fun ob => up ob (c1 (by omega))
          have q1 : ¬ (b1 : Int) < 144 := by omega
          have q2 : (191 : Int) < (b1 : Int) := by omega
          clear c1 c2
          have hz2 : z = true := by rw [hzz]; simp; try omega
          subst hz2
          clear hzz
          go_enter Tryz.func82, Tryz.ntmps82
          go_wp2
          go_quiet (fail)
          go_wp2
          go_ret
          exact ⟨rfl, ((Fr.refl _ _).alloc _).drewN _⟩
        · have d1 := fun ob => up ob (c1 (by omega))
          have q1 : ¬ (b1 : Int) < 144 := by omega
          have q2 : ¬ (191 : Int) < (b1 : Int) := by omega
          clear c1 c2
          have hz2 : z = false := by rw [hzz]; simp; try omega
          subst hz2
          clear hzz
          go_enter Tryz.func82, Tryz.ntmps82
          go_wp2
          go_quiet (fail)
          go_wp2
          go_ret
          exact ⟨rfl, ((Fr.refl _ _).alloc _).drewN _⟩
      · have d1 := fun ob => up ob (c1 (by omega))
        have d2 := fun ob => up ob (c2 (by omega))
        clear c1 c2
        rcases (by omega : b1 < 144 ∨ 191 < b1 ∧ 144 ≤ b1 ∨ (144 ≤ b1 ∧ b1 ≤ 191)) with k | k | k
        · have q1 : (b1 : Int) < 144 := by omega
          have hz2 : z = true := by rw [hzz]; simp; try omega
          subst hz2
          clear hzz
          go_enter Tryz.func82, Tryz.ntmps82
          go_wp2
          go_quiet (fail)
          go_wp2
          go_ret
          exact ⟨rfl, ((Fr.refl _ _).alloc _).drewN _⟩
        · have q1 : ¬ (b1 : Int) < 144 := by omega
          have q2 : (191 : Int) < (b1 : Int) := by omega
          have hz2 : z = true := by rw [hzz]; simp; try omega
          subst hz2
          clear hzz
          go_enter Tryz.func82, Tryz.ntmps82
          go_wp2
          go_quiet (fail)
          go_wp2
          go_ret
          exact ⟨rfl, ((Fr.refl _ _).alloc _).drewN _⟩
        · have q1 : ¬ (b1 : Int) < 144 := by omega
          have q2 : ¬ (191 : Int) < (b1 : Int) := by omega
          rcases (by omega : b2 < 128 ∨ 191 < b2 ∧ 128 ≤ b2 ∨ (128 ≤ b2 ∧ b2 ≤ 191)) with m | m | m
          · have q3 : (b2 : Int) < 128 := by omega
            have hz2 : z = true := by rw [hzz]; simp; try omega
            subst hz2
            clear hzz
            go_enter Tryz.func82, Tryz.ntmps82
            go_wp2
            go_quiet (fail)
            go_wp2
            go_ret
            exact ⟨rfl, ((Fr.refl _ _).alloc _).drewN _⟩
          · have q3 : ¬ (b2 : Int) < 128 := by omega
            have q4 : (191 : Int) < (b2 : Int) := by omega
            have hz2 : z = true := by rw [hzz]; simp; try omega
            subst hz2
            clear hzz
            go_enter Tryz.func82, Tryz.ntmps82
            go_wp2
            go_quiet (fail)
            go_wp2
            go_ret
            exact ⟨rfl, ((Fr.refl _ _).alloc _).drewN _⟩
          · have q3 : ¬ (b2 : Int) < 128 := by omega
            have q4 : ¬ (191 : Int) < (b2 : Int) := by omega
            have hz2 : z = false := by rw [hzz]; simp; try omega
            subst hz2
            clear hzz
            go_enter Tryz.func82, Tryz.ntmps82
            go_wp2
            go_quiet (fail)
            go_wp2
            go_ret
            exact ⟨rfl, ((Fr.refl _ _).alloc _).drewN _⟩
    · rcases (by omega : 4 ≤ n ∨ n = 1 ∨ n = 2 ∨ n = 3) with k | rfl | rfl | rfl
      · have hz2 : z = true := by rw [hzz]; simp; omega
        subst hz2
        have i1 : (4 : Int) ≤ (n : Int) := by omega
        clear hzz
        go_enter Tryz.func82, Tryz.ntmps82
        go_wp2
        go_ret
        exact ⟨rfl, Fr.refl _ _⟩
      · have hz2 : z = false := by rw [hzz]; simp; try omega
        subst hz2
        clear hzz
        go_enter Tryz.func82, Tryz.ntmps82
        go_wp2
        go_quiet (fail)
        go_wp2
        go_ret
        exact ⟨rfl, ((Fr.refl _ _).alloc _).drewN _⟩
      · rcases (by omega : b1 < 128 ∨ 191 < b1 ∧ 128 ≤ b1 ∨ (128 ≤ b1 ∧ b1 ≤ 191)) with k | k | k
        · have d1 := fun ob => up ob (c1 (by omega))
          have q1 : (b1 : Int) < 128 := by omega
          clear c1 c2
          have hz2 : z = true := by rw [hzz]; simp; try omega
          subst hz2
          clear hzz
          go_enter Tryz.func82, Tryz.ntmps82
          go_wp2
          go_quiet (fail)
          go_wp2
          go_ret
          exact ⟨rfl, ((Fr.refl _ _).alloc _).drewN _⟩
        · have d1 := fun ob => up ob (c1 (by omega))
          have q1 : ¬ (b1 : Int) < 128 := by omega
          have q2 : (191 : Int) < (b1 : Int) := by omega
          clear c1 c2
          have hz2 : z = true := by rw [hzz]; simp; try omega
          subst hz2
          clear hzz
          go_enter Tryz.func82, Tryz.ntmps82
          go_wp2
          go_quiet (fail)
          go_wp2
          go_ret
          exact ⟨rfl, ((Fr.refl _ _).alloc _).drewN _⟩
        · have d1 := fun ob => up ob (c1 (by omega))
          have q1 : ¬ (b1 : Int) < 128 := by omega
          have q2 : ¬ (191 : Int) < (b1 : Int) := by omega
          clear c1 c2
          have hz2 : z = false := by rw [hzz]; simp; try omega
          subst hz2
          clear hzz
          go_enter Tryz.func82, Tryz.ntmps82
          go_wp2
          go_quiet (fail)
          go_wp2
          go_ret
          exact ⟨rfl, ((Fr.refl _ _).alloc _).drewN _⟩
      · have d1 := fun ob => up ob (c1 (by omega))
        have d2 := fun ob => up ob (c2 (by omega))
        clear c1 c2
        rcases (by omega : b1 < 128 ∨ 191 < b1 ∧ 128 ≤ b1 ∨ (128 ≤ b1 ∧ b1 ≤ 191)) with k | k | k
        · have q1 : (b1 : Int) < 128 := by omega
          have hz2 : z = true := by rw [hzz]; simp; try omega
          subst hz2
          clear hzz
          go_enter Tryz.func82, Tryz.ntmps82
          go_wp2
          go_quiet (fail)
          go_wp2
          go_ret
          exact ⟨rfl, ((Fr.refl _ _).alloc _).drewN _⟩
        · have q1 : ¬ (b1 : Int) < 128 := by omega
          have q2 : (191 : Int) < (b1 : Int) := by omega
          have hz2 : z = true := by rw [hzz]; simp; try omega
          subst hz2
          clear hzz
          go_enter Tryz.func82, Tryz.ntmps82
          go_wp2
          go_quiet (fail)
          go_wp2
          go_ret
          exact ⟨rfl, ((Fr.refl _ _).alloc _).drewN _⟩
        · have q1 : ¬ (b1 : Int) < 128 := by omega
          have q2 : ¬ (191 : Int) < (b1 : Int) := by omega
          rcases (by omega : b2 < 128 ∨ 191 < b2 ∧ 128 ≤ b2 ∨ (128 ≤ b2 ∧ b2 ≤ 191)) with m | m | m
          · have q3 : (b2 : Int) < 128 := by omega
            have hz2 : z = true := by rw [hzz]; simp; try omega
            subst hz2
            clear hzz
            go_enter Tryz.func82, Tryz.ntmps82
            go_wp2
            go_quiet (fail)
            go_wp2
            go_ret
            exact ⟨rfl, ((Fr.refl _ _).alloc _).drewN _⟩
          · have q3 : ¬ (b2 : Int) < 128 := by omega
            have q4 : (191 : Int) < (b2 : Int) := by omega
            have hz2 : z = true := by rw [hzz]; simp; try omega
            subst hz2
            clear hzz
            go_enter Tryz.func82, Tryz.ntmps82
            go_wp2
            go_quiet (fail)
            go_wp2
            go_ret
            exact ⟨rfl, ((Fr.refl _ _).alloc _).drewN _⟩
          · have q3 : ¬ (b2 : Int) < 128 := by omega
            have q4 : ¬ (191 : Int) < (b2 : Int) := by omega
            have hz2 : z = false := by rw [hzz]; simp; try omega
            subst hz2
            clear hzz
            go_enter Tryz.func82, Tryz.ntmps82
            go_wp2
            go_quiet (fail)
            go_wp2
            go_ret
            exact ⟨rfl, ((Fr.refl _ _).alloc _).drewN _⟩
    · rcases (by omega : 4 ≤ n ∨ n = 1 ∨ n = 2 ∨ n = 3) with k | rfl | rfl | rfl
      · have hz2 : z = true := by rw [hzz]; simp; omega
        subst hz2
        have i1 : (4 : Int) ≤ (n : Int) := by omega
        clear hzz
        go_enter Tryz.func82, Tryz.ntmps82
        go_wp2
        go_ret
        exact ⟨rfl, Fr.refl _ _⟩
      · have hz2 : z = false := by rw [hzz]; simp; try omega
        subst hz2
        clear hzz
        go_enter Tryz.func82, Tryz.ntmps82
        go_wp2
        go_quiet (fail)
        go_wp2
        go_ret
        exact ⟨rfl, ((Fr.refl _ _).alloc _).drewN _⟩
      · rcases (by omega : b1 < 128 ∨ 143 < b1 ∧ 128 ≤ b1 ∨ (128 ≤ b1 ∧ b1 ≤ 143)) with k | k | k
        · have d1 := fun ob => up ob (c1 (by omega))
          have q1 : (b1 : Int) < 128 := by omega
          clear c1 c2
          have hz2 : z = true := by rw [hzz]; simp; try omega
          subst hz2
          clear hzz
          go_enter Tryz.func82, Tryz.ntmps82
          go_wp2
          go_quiet (fail)
          go_wp2
          go_ret
          exact ⟨rfl, ((Fr.refl _ _).alloc _).drewN _⟩
        · have d1 := fun ob => up ob (c1 (by omega))
          have q1 : ¬ (b1 : Int) < 128 := by omega
          have q2 : (143 : Int) < (b1 : Int) := by omega
          clear c1 c2
          have hz2 : z = true := by rw [hzz]; simp; try omega
          subst hz2
          clear hzz
          go_enter Tryz.func82, Tryz.ntmps82
          go_wp2
          go_quiet (fail)
          go_wp2
          go_ret
          exact ⟨rfl, ((Fr.refl _ _).alloc _).drewN _⟩
        · have d1 := fun ob => up ob (c1 (by omega))
          have q1 : ¬ (b1 : Int) < 128 := by omega
          have q2 : ¬ (143 : Int) < (b1 : Int) := by omega
          clear c1 c2
          have hz2 : z = false := by rw [hzz]; simp; try omega
          subst hz2
          clear hzz
          go_enter Tryz.func82, Tryz.ntmps82
          go_wp2
          go_quiet (fail)
          go_wp2
          go_ret
          exact ⟨rfl, ((Fr.refl _ _).alloc _).drewN _⟩
      · have d1 := fun ob => up ob (c1 (by omega))
        have d2 := fun ob => up ob (c2 (by omega))
        clear c1 c2
        rcases (by omega : b1 < 128 ∨ 143 < b1 ∧ 128 ≤ b1 ∨ (128 ≤ b1 ∧ b1 ≤ 143)) with k | k | k
        · have q1 : (b1 : Int) < 128 := by omega
          have hz2 : z = true := by rw [hzz]; simp; try omega
          subst hz2
          clear hzz
          go_enter Tryz.func82, Tryz.ntmps82
          go_wp2
          go_quiet (fail)
          go_wp2
          go_ret
          exact ⟨rfl, ((Fr.refl _ _).alloc _).drewN _⟩
        · have q1 : ¬ (b1 : Int) < 128 := by omega
          have q2 : (143 : Int) < (b1 : Int) := by omega
          have hz2 : z = true := by rw [hzz]; simp; try omega
          subst hz2
          clear hzz
          go_enter Tryz.func82, Tryz.ntmps82
          go_wp2
          go_quiet (fail)
          go_wp2
          go_ret
          exact ⟨rfl, ((Fr.refl _ _).alloc _).drewN _⟩
        · have q1 : ¬ (b1 : Int) < 128 := by omega
          have q2 : ¬ (143 : Int) < (b1 : Int) := by omega
          rcases (by omega : b2 < 128 ∨ 191 < b2 ∧ 128 ≤ b2 ∨ (128 ≤ b2 ∧ b2 ≤ 191)) with m | m | m
          · have q3 : (b2 : Int) < 128 := by omega
            have hz2 : z = true := by rw [hzz]; simp; try omega
            subst hz2
            clear hzz
            go_enter Tryz.func82, Tryz.ntmps82
            go_wp2
            go_quiet (fail)
            go_wp2
            go_ret
            exact ⟨rfl, ((Fr.refl _ _).alloc _).drewN _⟩
          · have q3 : ¬ (b2 : Int) < 128 := by omega
            have q4 : (191 : Int) < (b2 : Int) := by omega
            have hz2 : z = true := by rw [hzz]; simp; try omega
            subst hz2
            clear hzz
            go_enter Tryz.func82, Tryz.ntmps82
            go_wp2
            go_quiet (fail)
            go_wp2
            go_ret
            exact ⟨rfl, ((Fr.refl _ _).alloc _).drewN _⟩
          · have q3 : ¬ (b2 : Int) < 128 := by omega
            have q4 : ¬ (191 : Int) < (b2 : Int) := by omega
            have hz2 : z = false := by rw [hzz]; simp; try omega
            subst hz2
            clear hzz
            go_enter Tryz.func82, Tryz.ntmps82
            go_wp2
            go_quiet (fail)
            go_wp2
            go_ret
            exact ⟨rfl, ((Fr.refl _ _).alloc _).drewN _⟩

set_option maxRecDepth 100000 in
theorem full_none (a : Option Addr) (c : Nat) (w : World) : Calls Tryz.prog 82 #[.slice a 0 c] w fun e w' => e = .returned (.bool false) ∧ Fr (fun _ => False) w w' := by
  go_enter Tryz.func82, Tryz.ntmps82
  go_wp2
  go_ret
  exact ⟨rfl, Fr.refl _ _⟩

theorem l8_at {l : List UInt8} {j : Nat} (h : j < l.length) : ((l8 l)[j]?.getD 0) = ((l.getD j 0).toNat : Int) := by
  unfold l8
  rw [List.getElem?_map, List.getD_eq_getElem?_getD, List.getElem?_eq_getElem h]
  rfl

/-- FullRune of what a slice shows. -/
theorem full_calls {w : World} {v : Value} {g : Option Nat} {l : List UInt8} (hT : Lib.Utf8Tabs 0 1 w) (h : Shows w .u8 v g (l8 l)) :
    Calls Tryz.prog 82 #[v] w fun e w' => e = .returned (.bool (fullL l)) ∧ Fr (fun _ => False) w w' := by
  by_cases hl : l = []
  · subst hl
    have e : fullL [] = false := rfl
    rw [e]
    rcases h with ⟨_, rfl | ⟨a, c, rfl⟩⟩ | ⟨x, o, c, cur, t, _, rfl, _, _⟩
    · exact full_none _ _ w
    · exact full_none _ _ w
    · exact full_none _ _ w
  · have hp : 0 < l.length := List.length_pos_iff.2 hl
    rcases h with ⟨h, _⟩ | ⟨x, o, c, cur, t, _, rfl, hx, hc⟩
    · have := congrArg List.length h
      rw [l8_length, List.length_nil] at this
      omega
    · rw [full_by hl]
      rw [l8_length] at hc ⊢
      have cell : ∀ j, j < l.length → w.cell? ⟨x, o + j, none⟩ = some (.int .u8 ((l.getD j 0).toNat : Int)) := fun j hj => cell_of hx (by rw [hc j hj, l8_at hj])
      exact full_some l.length x o c _ _ _ w hT hp (l.getD 0 0).toNat_lt (cell 0 hp) (fun h => cell 1 h) (fun h => cell 2 h)

/-- DecodeRune of what a slice shows. -/
theorem dec_calls {w : World} {v : Value} {g : Option Nat} {l : List UInt8} (hT : Lib.Utf8Tabs 0 1 w) (h : Shows w .u8 v g (l8 l)) (hl : l ≠ []) :
    Calls Tryz.prog 107 #[v] w fun e w' => e = .returned (.tuple #[.int .i32 (Lib.decodeL l).1, .int .i64 (Lib.decodeL l).2]) ∧ Fr (fun _ => False) w w' := by
  have hp : 0 < l.length := List.length_pos_iff.2 hl
  rcases h with ⟨h, _⟩ | ⟨x, o, c, cur, t, _, rfl, hx, hc⟩
  · have := congrArg List.length h
    rw [l8_length, List.length_nil] at this
    omega
  · rw [l8_length] at hc ⊢
    have hsz : (⟨l.toArray⟩ : ByteArray).size = l.length := by rw [Lib.size_eq]
    have hcell : ∀ j, j < (⟨l.toArray⟩ : ByteArray).size → w.cell? ⟨x, o + j, none⟩ = some (.int .u8 ((⟨l.toArray⟩ : ByteArray).get! j).toNat) := fun j hj => by
      rw [hsz] at hj
      refine cell_of hx ?_
      rw [hc j hj, l8_at hj]
      congr 4
      show l.getD j 0 = l.toArray[j]!
      rw [List.getD_eq_getElem?_getD, getElem!_def]
      simp [hj]
    have := Any7.utf8_DecodeRune Tryz.lays32 ⟨l.toArray⟩ x o c w hT hcell
    rw [hsz] at this
    refine this.mono ?_
    rintro e w' ⟨rfl, hb⟩
    have hd : Lib.decodeGo ⟨l.toArray⟩ = Lib.decodeL l := by
      unfold Lib.decodeGo Lib.decodeL
      rw [if_neg (by rw [hsz]; omega)]
    rw [hd]
    exact ⟨rfl, Fr.of_below hb _⟩

end Go.Proofs.YtmhaknejeobfgabGreatDoor

/- LineB1. -/
namespace Go.Proofs.YtmhaknejeobfgabGreatDoor
open Go.RowKit Go.Proofs.YtmhaknejeobfgabGreatDoor.Stable Go.Proofs.YtmhaknejeobfgabGreatDoor.Order Go.Proofs.YtmhaknejeobfgabGreatDoor.Points
attribute [local go_sem ↓] Go.wp_at_zero Go.wp_at_succ

/-- A line in memory (its block bl): h has gone in, the bytes lb wait, R is released and was not taken; e: it has ended. All its blocks are in S. -/
structure Lin (w : World) (hi bl bs cp B n : Nat) (ks : Nat → Bool × Bool) (h : List Int) (lb : List UInt8) (e : Bool) (R : List Int) (S : Nat → Prop) (N : Nat) : Prop where
  ex : ∃ (cl : Array Value) (gb : Option Nat) (S0 : Nat → Prop), w.heap[bl]? = some (.cells cl 145 (0, 0)) ∧ cl[2]? = some (.slice (some ⟨bs, 0, none⟩) n cp) ∧ QIs w .u8 5 cl 0 gb (l8 lb) N ∧ gb ≠ some bl ∧
    StsIn w hi bs 108 B n ks (gotE ks (fun _ => e) h) (fun _ => e) (restR n R) S0 ∧ ¬ S0 bl ∧ (∀ x, gb = some x → ¬ S0 x ∧ S x) ∧ (∀ x, S0 x → S x) ∧ S bl
  hiS : ∀ x, S x → hi ≤ x
  n0 : 0 < n
  n3 : n ≤ 3
  hv : ∀ c ∈ h, Valid c
  hR : ∀ c ∈ R, Valid c
  sl : Slim ks

/-- What an operation leaves of a line. -/
def LinLeft (w w' : World) (hi bl bs cp B n : Nat) (ks : Nat → Bool × Bool) (h : List Int) (lb : List UInt8) (e : Bool) (R : List Int) (S : Nat → Prop) (N : Nat) : Prop :=
  Lin w' hi bl bs cp B n ks h lb e R (fun x => S x ∨ w.heap.size ≤ x) N ∧ Fr S w w'

theorem Lin.lt {w : World} {hi bl bs cp B n : Nat} {ks : Nat → Bool × Bool} {h : List Int} {lb : List UInt8} {e : Bool} {R : List Int} {S : Nat → Prop} {N : Nat} (H : Lin w hi bl bs cp B n ks h lb e R S N) : bl < w.heap.size ∧ hi ≤ bl ∧ S bl := by
  obtain ⟨cl, gb, S0, h1, _, _, _, _, _, _, _, h9⟩ := H.ex
  exact ⟨lt_of h1, H.hiS bl h9, h9⟩

theorem Lin.kept {w w' : World} {hi bl bs cp B n : Nat} {ks : Nat → Bool × Bool} {h : List Int} {lb : List UInt8} {e : Bool} {R : List Int} {S : Nat → Prop} {N : Nat} (H : Lin w hi bl bs cp B n ks h lb e R S N) {X : Nat → Prop} (f : Fr X w w') (hX : ∀ x, S x → ¬ X x) (hh : ∀ x, x < hi → ¬ X x) : Lin w' hi bl bs cp B n ks h lb e R S N := by
  obtain ⟨cl, gb, S0, h1, h2, h3, h4, ⟨cs, gm, gr, k1, k2⟩, h6, h7, h8, h9⟩ := H.ex
  exact { H with ex := ⟨cl, gb, S0, (f.block bl (lt_of h1) (hX bl h9)).trans h1, h2, h3.kept f (fun x hx => hX x (h7 x hx).2), h4, ⟨cs, gm, gr, k1.kept f hh (fun x hx => hX x (h8 x (k2 x hx))), k2⟩, h6, h7, h8, h9⟩ }

theorem Lin.mono {w : World} {hi bl bs cp B n : Nat} {ks : Nat → Bool × Bool} {h : List Int} {lb : List UInt8} {e : Bool} {R : List Int} {S S' : Nat → Prop} {N N' : Nat} (H : Lin w hi bl bs cp B n ks h lb e R S N) (hs : ∀ x, S x → S' x) (hi' : ∀ x, S' x → hi ≤ x) (hN : N ≤ N') : Lin w hi bl bs cp B n ks h lb e R S' N' := by
  obtain ⟨cl, gb, S0, h1, h2, h3, h4, h5, h6, h7, h8, h9⟩ := H.ex
  exact { H with ex := ⟨cl, gb, S0, h1, h2, h3.mono hN, h4, h5, h6, fun x hx => ⟨(h7 x hx).1, hs x (h7 x hx).2⟩, fun x hx => hs x (h8 x hx), hs bl h9⟩, hiS := hi' }

theorem LinLeft.trans {w w1 w2 : World} {hi bl bs cp B n : Nat} {ks : Nat → Bool × Bool} {h : List Int} {lb : List UInt8} {e : Bool} {R : List Int} {S : Nat → Prop} {N : Nat} (hf : Fr S w w1) (hh : hi ≤ w.heap.size) (hS : ∀ x, S x → hi ≤ x) (H : LinLeft w1 w2 hi bl bs cp B n ks h lb e R (fun x => S x ∨ w.heap.size ≤ x) N) : LinLeft w w2 hi bl bs cp B n ks h lb e R S N := by
  refine ⟨H.1.mono (fun x hx => ?_) (fun x hx => ?_) (Nat.le_refl _), hf.trans H.2 (fun i hi h => ?_)⟩
  · rcases hx with h | h
    · exact h
    · have := hf.size; exact .inr (by omega)
  · rcases hx with h | h
    · exact hS x h
    · omega
  · rcases h with h | h
    · exact h
    · omega

/-- Nothing has changed but what is new. -/
theorem Lin.same {w w' : World} {hi bl bs cp B n : Nat} {ks : Nat → Bool × Bool} {h : List Int} {lb : List UInt8} {e : Bool} {R : List Int} {S : Nat → Prop} {N : Nat} (H : Lin w hi bl bs cp B n ks h lb e R S N) (f : Fr (fun _ => False) w w') : LinLeft w w' hi bl bs cp B n ks h lb e R S N := by
  have hl := H.lt
  refine ⟨(H.kept f (fun _ _ => id) (fun _ _ => id)).mono (fun x hx => .inl hx) (fun x hx => ?_) (Nat.le_refl _), f.mono (fun _ _ h => h.elim)⟩
  rcases hx with h | h
  · exact H.hiS x h
  · omega

/-- The bytes that wait have changed. -/
theorem Lin.bytes {w w' : World} {hi bl bs cp B n : Nat} {ks : Nat → Bool × Bool} {h : List Int} {lb lb' : List UInt8} {e : Bool} {R : List Int} {S : Nat → Prop} {N N' : Nat} {cl cl' : Array Value} {gb gb' : Option Nat} {S0 : Nat → Prop} (H : Lin w hi bl bs cp B n ks h lb e R S N)
    (_ : w.heap[bl]? = some (.cells cl 145 (0, 0))) (h2 : cl[2]? = some (.slice (some ⟨bs, 0, none⟩) n cp)) (_ : ∀ x, gb = some x → x < w.heap.size) (h4 : gb ≠ some bl) (h5 : StsIn w hi bs 108 B n ks (gotE ks (fun _ => e) h) (fun _ => e) (restR n R) S0) (h6 : ¬ S0 bl) (h7 : ∀ x, gb = some x → ¬ S0 x ∧ S x) (h8 : ∀ x, S0 x → S x) (h9 : S bl)
    (q1 : w'.heap[bl]? = some (.cells cl' 145 (0, 0))) (q3 : ∀ i, i ≠ 0 → i ≠ 0 + 1 → cl'[i]? = cl[i]?) (q4 : QIs w' .u8 5 cl' 0 gb' (l8 lb') N') (q5 : gb' = gb ∨ ∃ y, gb' = some y ∧ w.heap.size ≤ y) (q6 : Fr (fun x => x = bl ∨ some x = gb) w w') :
    LinLeft w w' hi bl bs cp B n ks h lb' e R S N' := by
  obtain ⟨cs, gm, gr, k1, k2⟩ := h5
  have hl := H.lt
  have hS0 : ∀ x, S0 x → ¬ (x = bl ∨ some x = gb) := fun x hx h => by
    rcases h with h | h
    · exact h6 (h ▸ hx)
    · exact (h7 x h.symm).1 hx
  have hlow : ∀ x, x < hi → ¬ (x = bl ∨ some x = gb) := fun x hx h => by
    rcases h with h | h
    · omega
    · have := H.hiS x (h7 x h.symm).2; omega
  refine ⟨{ H with ex := ⟨cl', gb', Own n bs gm gr, q1, (q3 2 (by omega) (by omega)).trans h2, q4, ?_, ⟨cs, gm, gr, k1.kept q6 hlow (fun x hx => hS0 x (k2 x hx)), fun x hx => hx⟩, fun h => h6 (k2 _ h), ?_, fun x hx => .inl (h8 x (k2 x hx)), .inl h9⟩, hiS := fun x hx => ?_ }, q6.mono (fun x _ h => ?_)⟩
  · rcases q5 with q | ⟨y, q, hy⟩
    · rw [q]; exact h4
    · rw [q]
      intro e
      cases e
      omega
  · intro x hx
    rcases q5 with q | ⟨y, q, hy⟩
    · rw [q] at hx
      exact ⟨fun h => (h7 x hx).1 (k2 x h), .inl (h7 x hx).2⟩
    · rw [q] at hx
      cases hx
      exact ⟨fun h => by have := k1.own_lt h; omega, .inr hy⟩
  · rcases hx with h | h
    · exact H.hiS x h
    · omega
  · rcases h with h | h
    · rw [h]; exact h9
    · exact (h7 x h.symm).2

/-- One code point of the bytes goes in: what Enter leaves. -/
theorem Lin.entered {w w' : World} {hi bl bs cp B n : Nat} {ks : Nat → Bool × Bool} {h h' : List Int} {lb : List UInt8} {e e' : Bool} {R R' : List Int} {S : Nat → Prop} {N : Nat} {cl : Array Value} {gb : Option Nat} {S0 : Nat → Prop} (H : Lin w hi bl bs cp B n ks h lb e R S N)
    (h1 : w.heap[bl]? = some (.cells cl 145 (0, 0))) (h2 : cl[2]? = some (.slice (some ⟨bs, 0, none⟩) n cp)) (h3 : QIs w .u8 5 cl 0 gb (l8 lb) N) (h4 : gb ≠ some bl) (h6 : ¬ S0 bl) (h7 : ∀ x, gb = some x → ¬ S0 x ∧ S x) (h8 : ∀ x, S0 x → S x) (h9 : S bl)
    (hl : StsLeft w w' hi bs 108 B n ks (gotE ks (fun _ => e') h') (fun _ => e') (restR n R') S0) (hv : ∀ c ∈ h', Valid c) (hR : ∀ c ∈ R', Valid c) : LinLeft w w' hi bl bs cp B n ks h' lb e' R' S N := by
  have hlt := H.lt
  refine ⟨{ ex := ⟨cl, gb, fun x => S0 x ∨ w.heap.size ≤ x, (hl.2.block bl (lt_of h1) h6).trans h1, h2, h3.kept hl.2 (fun x hx => (h7 x hx).1), h4, hl.1, ?_, ?_, ?_, .inl h9⟩, hiS := ?_, n0 := H.n0, n3 := H.n3, hv := hv, hR := hR, sl := H.sl }, hl.2.mono (fun x _ h => h8 x h)⟩
  · rintro (h | h)
    · exact h6 h
    · have := lt_of h1; omega
  · intro x hx
    refine ⟨?_, .inl (h7 x hx).2⟩
    rintro (h | h)
    · exact (h7 x hx).1 h
    · have := h3.lt hx; omega
  · rintro x (h | h)
    · exact .inl (h8 x h)
    · exact .inr h
  · rintro x (h | h)
    · exact H.hiS x h
    · omega

/-- What a code point more leaves. -/
def Entered (w w' : World) (hi bl bs cp B n : Nat) (ks : Nat → Bool × Bool) (h : List Int) (c : Int) (lb : List UInt8) (R : List Int) (S : Nat → Prop) (N : Nat) : Prop :=
  ∃ d, inAt ks false (h ++ [c]) n = inAt ks false h n ++ d ∧ LinLeft w w' hi bl bs cp B n ks (h ++ [c]) lb false (R ++ d) S N

set_option maxRecDepth 100000 in
set_option maxHeartbeats 1600000 in
theorem enterBytes_calls {w : World} {hi bl bs cp B n : Nat} {ks : Nat → Bool × Bool} {h : List Int} {lb : List UInt8} {R : List Int} {S : Nat → Prop} {N : Nat} (H : Lin w hi bl bs cp B n ks h lb false R S N) (hne : lb ≠ []) (hE : Env w) (hb : 432 * (h.length + 1) ≤ 1099511627776) :
    Calls Tryz.prog 84 #[.pointer (some ⟨bl, 0, none⟩)] w fun e w' => e = .returned (.tuple #[]) ∧ Entered w w' hi bl bs cp B n ks h (Lib.decodeL lb).1 (lb.drop (Lib.decodeL lb).2) R S N := by
  obtain ⟨cl, gb, S0, h1, h2, h3, h4, h5, h6, h7, h8, h9⟩ := H.ex
  have hlt := H.lt
  have hw := Q_wait_B h1 h3
  have HW : Hid (Calls Tryz.prog 83 #[.pointer (some ⟨bl, 0, none⟩)] w fun e w' => ∃ v, e = .returned v ∧ Shows w .u8 v gb (l8 lb) ∧ ∃ q, w' = w.drewN q) := hw
  obtain ⟨c, hc⟩ : ∃ c : Int, c = (Lib.decodeL lb).1 := ⟨_, rfl⟩
  obtain ⟨k, hk⟩ : ∃ k, k = (Lib.decodeL lb).2 := ⟨_, rfl⟩
  have hkl : k ≤ (l8 lb).length := by
    rw [l8_length, hk]
    exact Lib.decodeL_le lb hne
  have hcv : Valid c := by rw [hc]; exact dec_valid lb
  have HD : Hid (∀ v q, Shows w .u8 v gb (l8 lb) → Calls Tryz.prog 107 #[v] (w.drewN q) fun e w' => e = .returned (.tuple #[.int .i32 c, .int .i64 k]) ∧ Fr (fun _ => False) w w') := Hid.mk0 (fun v q hv => by
    have hE' := hE.kept ((Fr.refl (fun _ => False) w).drewN q) (fun _ _ => id)
    refine (dec_calls (w := w.drewN q) (g := gb) hE'.utf8 hv hne).mono ?_
    rintro e w' ⟨rfl, hf⟩
    exact ⟨by rw [hc, hk], ((Fr.refl (fun _ => False) w).drewN q).trans hf (fun _ _ h => h)⟩)
  have HDR : Hid (∀ w1, Fr (fun _ => False) w w1 → Calls Tryz.prog 108 #[.pointer (some ⟨bl, 0, none⟩), .int .i64 k] w1 fun e w2 => e = .returned (.tuple #[]) ∧ LinLeft w w2 hi bl bs cp B n ks h (lb.drop k) false R S N) := Hid.mk0 (fun w1 f1 => by
    refine (Q_drop_B k ((f1.block bl (lt_of h1) id).trans h1) (h3.kept f1 (fun _ _ => id)) hkl h4).mono ?_
    rintro e w2 ⟨rfl, cl', r1, r2, r3, r4, r5⟩
    refine ⟨rfl, H.bytes h1 h2 (fun x hx => h3.lt hx) h4 h5 h6 h7 h8 h9 r1 r3 ?_ (.inl rfl) (f1.mono (fun _ _ h => h.elim) |>.trans r5 (fun _ _ h => .inl h))⟩
    rw [l8_drop]
    exact r4)
  have HEN : Hid (∀ w2, LinLeft w w2 hi bl bs cp B n ks h (lb.drop k) false R S N → Calls Tryz.prog 55 #[.pointer (some ⟨bl, 0, none⟩), .int .i32 c] w2 fun e w3 => e = .returned (.tuple #[]) ∧ Entered w w3 hi bl bs cp B n ks h c (lb.drop k) R S N) := Hid.mk0 (fun w2 hL => by
    obtain ⟨cl2, gb2, S2, g1, g2, g3, g4, g5, g6, g7, g8, g9⟩ := hL.1.ex
    refine (enter_calls g5 ⟨cell_of g1 g2, lt_of g1⟩ g6 H.sl H.n0 H.n3 H.hv H.hR c hcv hb).mono ?_
    rintro e w3 ⟨rfl, d, hd, hl⟩
    have hv' : ∀ x ∈ h ++ [c], Valid x := fun x hx => by
      rcases List.mem_append.1 hx with hx | hx
      · exact H.hv x hx
      · rw [List.mem_singleton.1 hx]; exact hcv
    have hR' : ∀ x ∈ R ++ d, Valid x := fun x hx => by
      rcases List.mem_append.1 hx with hx | hx
      · exact H.hR x hx
      · exact inAt_valid hv' n x (by rw [hd]; exact List.mem_append_right _ hx)
    exact ⟨rfl, d, hd, LinLeft.trans hL.2 (by omega) H.hiS (hL.1.entered g1 g2 g3 g4 g6 g7 g8 g9 hl hv' hR')⟩)
  rw [← hc, ← hk]
  clear H hne hE hb h1 h2 h3 h4 h5 h6 h7 h8 h9 hw hc hk hkl hcv hlt
  go_enter Tryz.func84, Tryz.ntmps84
  go_wp2_with (first
    | (go_at_call 83; refine HW.out.mono ?_; rintro e w1 ⟨v, rfl, hv, q, rfl⟩)
    | (go_at_call 107; refine (HD.out v q hv).mono ?_; rintro e w2 ⟨rfl, hf2⟩)
    | (go_at_call 108; refine (HDR.out _ hf2).mono ?_; rintro e w3 ⟨rfl, hL⟩)
    | (go_at_call 55; refine (HEN.out _ hL).mono ?_; rintro e w4 ⟨rfl, hen⟩))
  go_end0
  exact ⟨rfl, hen⟩

end Go.Proofs.YtmhaknejeobfgabGreatDoor

/- LineB2. -/
namespace Go.Proofs.YtmhaknejeobfgabGreatDoor
open Go.RowKit Go.Proofs.YtmhaknejeobfgabGreatDoor.Stable Go.Proofs.YtmhaknejeobfgabGreatDoor.Order Go.Proofs.YtmhaknejeobfgabGreatDoor.Points
attribute [local go_sem ↓] Go.wp_at_zero Go.wp_at_succ

theorem bytesRow_at {s : ByteArray} {cap k : Nat} (h : k < s.data.toList.length) : (bytesRow s cap)[k]? = some (.int .u8 ((l8 s.data.toList)[k]?.getD 0)) := by
  have hk : k < s.data.size := by simpa using h
  unfold bytesRow l8
  rw [Array.getElem?_append_left (by simpa using hk), Array.getElem?_map, Array.getElem?_eq_getElem hk, List.getElem?_map, List.getElem?_eq_getElem h]
  rfl

/-- Where Put's loop stands: h1 has gone in, the bytes l1 wait. -/
def PutAt (w wr : World) (hi bl bs cp B n : Nat) (ks : Nat → Bool × Bool) (h : List Int) (all : List UInt8) (R : List Int) (S : Nat → Prop) (N g : Nat) : Prop :=
  ∃ h1 l1 d, LinLeft w wr hi bl bs cp B n ks h1 l1 false (R ++ d) S N ∧ h1 ++ sure l1 = h ++ sure all ∧ left l1 = left all ∧ inAt ks false h1 n = inAt ks false h n ++ d ∧ l1.length = g ∧ h1.length + l1.length ≤ h.length + all.length

theorem PutAt.next {w wr w' : World} {hi bl bs cp B n : Nat} {ks : Nat → Bool × Bool} {h : List Int} {all : List UInt8} {R : List Int} {S : Nat → Prop} {N : Nat} {h1 : List Int} {l1 : List UInt8} {d : List Int} (hh : hi ≤ w.heap.size) (hS : ∀ x, S x → hi ≤ x) (k1 : LinLeft w wr hi bl bs cp B n ks h1 l1 false (R ++ d) S N) (k2 : h1 ++ sure l1 = h ++ sure all) (k3 : left l1 = left all) (k4 : inAt ks false h1 n = inAt ks false h n ++ d) (k6 : h1.length + l1.length ≤ h.length + all.length) (hf : fullL l1 = true)
    (hen : Entered wr w' hi bl bs cp B n ks h1 (Lib.decodeL l1).1 (l1.drop (Lib.decodeL l1).2) (R ++ d) (fun x => S x ∨ w.heap.size ≤ x) N) : PutAt w w' hi bl bs cp B n ks h all R S N (l1.drop (Lib.decodeL l1).2).length := by
  obtain ⟨d2, e1, hL⟩ := hen
  obtain ⟨s1, s2⟩ := sure_step hf
  refine ⟨h1 ++ [((Lib.decodeL l1).1 : Int)], l1.drop (Lib.decodeL l1).2, d ++ d2, ?_, ?_, ?_, ?_, rfl, ?_⟩
  · rw [← List.append_assoc]
    exact LinLeft.trans k1.2 hh hS hL
  · rw [← k2, s1]
    simp
  · rw [← s2, k3]
  · rw [e1, k4, List.append_assoc]
  · have := drop_shorter hf
    simp only [List.length_append, List.length_singleton]
    omega

/-- What Put leaves. -/
def PutLeaves (w w' : World) (hi bl bs cp B n : Nat) (ks : Nat → Bool × Bool) (h : List Int) (all : List UInt8) (R : List Int) (S : Nat → Prop) (N : Nat) : Prop :=
  ∃ d, inAt ks false (h ++ sure all) n = inAt ks false h n ++ d ∧ LinLeft w w' hi bl bs cp B n ks (h ++ sure all) (left all) false (R ++ d) S N

set_option maxRecDepth 100000 in
set_option maxHeartbeats 1600000 in
theorem linePut_calls {w : World} {hi bl bs cp B n : Nat} {ks : Nat → Bool × Bool} {h : List Int} {lb : List UInt8} {R : List Int} {S : Nat → Prop} {N : Nat} (t : ByteArray) (H : Lin w hi bl bs cp B n ks h lb false R S N) (hE : Env w) (hg : 11 ≤ hi) (hb : 432 * (h.length + (lb ++ t.data.toList).length) ≤ 1099511627776) (hN : N + t.data.toList.length ≤ 1099511627776) :
    Calls Tryz.prog 58 #[.pointer (some ⟨bl, 0, none⟩), .string t] w fun e w' => e = .returned (.tuple #[]) ∧ PutLeaves w w' hi bl bs cp B n ks h (lb ++ t.data.toList) R S (N + t.data.toList.length) := by
  have hlt := H.lt
  have hsb : (convert 9 96 (.string t)).run Tryz.prog w = .ok (.slice (some ⟨w.heap.size, 0, none⟩) t.size (grownCap w t.size 0 5)) (w.drew.alloc (.cells (bytesRow t (grownCap w t.size 0 5)) 5 ((bytesRow t (grownCap w t.size 0 5)).size, (bytesRow t (grownCap w t.size 0 5)).size + 1))) := run_bytes_of_string w _ _ _ t Tryz.underlying9 Tryz.underlying96 Tryz.underlying5
  obtain ⟨all, hall⟩ : ∃ all, all = lb ++ t.data.toList := ⟨_, rfl⟩
  have HPU : Hid (∀ c fr, Calls Tryz.prog 81 #[.pointer (some ⟨bl, 0, none⟩), .slice (some ⟨w.heap.size, 0, none⟩) t.size c] (w.alloc (.cells (bytesRow t c) 5 fr)).drew fun e w' => e = .returned (.tuple #[]) ∧ PutAt w w' hi bl bs cp B n ks h all R S (N + t.data.toList.length) all.length) := Hid.mk0 (fun c fr => by
    obtain ⟨cl, gb, S0, h1, h2, h3, h4, h5, h6, h7, h8, h9⟩ := H.ex
    have f1 : Fr (fun _ => False) w (w.alloc (.cells (bytesRow t c) 5 fr)).drew := ((Fr.refl _ _).alloc _).drew
    have hnew : (w.alloc (.cells (bytesRow t c) 5 fr)).drew.heap[w.heap.size]? = some (.cells (bytesRow t c) 5 fr) := heap_alloc_new w _
    have hts : t.size = (l8 t.data.toList).length := by rw [l8_length, Lib.size_eq]
    rw [hts]
    refine (Q_putC_B (ys := l8 t.data.toList) ((f1.block bl (lt_of h1) id).trans h1) (h3.kept f1 (fun _ _ => id)) h4 (.inr ⟨⟨w.heap.size, 0, none⟩, c, rfl, fun j u hu => ?_, fun _ => ⟨?_, fun e => ?_⟩⟩) (by rw [l8_length]; exact hN)).mono ?_
    · have hj : j < (l8 t.data.toList).length := by have := (List.getElem?_eq_some_iff.1 hu).1; simpa using this
      have ea : (⟨w.heap.size, 0, none⟩ : Addr).add j = ⟨w.heap.size, j, none⟩ := by unfold Addr.add; split <;> simp_all
      rw [ea]
      refine cell_of hnew ?_
      rw [bytesRow_at (by rw [← l8_length]; exact hj), ← hu]
      simp [hj]
    · show w.heap.size ≠ bl
      omega
    · have := h3.lt (x := w.heap.size) e.symm
      omega
    · rintro e w' ⟨rfl, cl', gb', r1, r2, r3, r4, r5, r6⟩
      rw [← l8_append, l8_length] at r4
      refine ⟨rfl, h, all, [], ?_, rfl, rfl, by simp, rfl, Nat.le_refl _⟩
      rw [hall, List.append_nil]
      refine H.bytes h1 h2 (fun x hx => h3.lt hx) h4 h5 h6 h7 h8 h9 r1 r3 r4 ?_ ((f1.mono (fun _ _ h => h.elim)).trans r6 (fun _ _ h => h))
      rcases r5 with r5 | ⟨y, r5, hy⟩
      · exact .inl r5
      · exact .inr ⟨y, r5, by have := f1.size; omega⟩)
  have HH : Hid (hi ≤ w.heap.size ∧ (∀ x, S x → hi ≤ x) ∧ 432 * (h.length + all.length) ≤ 1099511627776) := ⟨by omega, H.hiS, by rw [hall]; exact hb⟩
  have HE : Hid (∀ wr, Fr S w wr → Env wr) := Hid.mk0 (fun wr f => hE.kept f (fun k hk hs => by have := H.hiS k hs; omega))
  rw [← hall]
  clear H hE hb hN hlt hall
  go_enter Tryz.func58, Tryz.ntmps58
  go_wp2_with (go_at_call 81; refine (HPU.out _ _).mono ?_; rintro e w1 ⟨rfl, hp⟩)
  have HP1 : Hid (PutAt w w1 hi bl bs cp B n ks h all R S (N + t.data.toList.length) all.length) := hp
  clear hp HPU
  go_loopg [14] all.length (fun g _ wr => Hid (PutAt w wr hi bl bs cp B n ks h all R S (N + t.data.toList.length) g))
  case atStart => exact HP1.out
  case round =>
    obtain ⟨h1, l1, d, k1, k2, k3, k4, k5, k6⟩ := hrel.out
    obtain ⟨cl, gb, S0, g1, g2, g3, _⟩ := k1.1.ex
    have HW : Hid (Calls Tryz.prog 83 #[.pointer (some ⟨bl, 0, none⟩)] wr fun e w' => ∃ v, e = .returned v ∧ Shows wr .u8 v gb (l8 l1) ∧ ∃ q, w' = wr.drewN q) := Q_wait_B g1 g3
    have hEr := HE.out wr k1.2
    have HFU : Hid (∀ v q, Shows wr .u8 v gb (l8 l1) → Calls Tryz.prog 82 #[v] (wr.drewN q) fun e w' => e = .returned (.bool (fullL l1)) ∧ Fr (fun _ => False) wr w') := Hid.mk0 (fun v q hv => by
      have hE' := hEr.kept ((Fr.refl (fun _ => False) wr).drewN q) (fun _ _ => id)
      refine (full_calls (w := wr.drewN q) (g := gb) hE'.utf8 hv).mono ?_
      rintro e w' ⟨rfl, hf⟩
      exact ⟨rfl, ((Fr.refl (fun _ => False) wr).drewN q).trans hf (fun _ _ h => h)⟩)
    have HK : Hid (LinLeft w wr hi bl bs cp B n ks h1 l1 false (R ++ d) S (N + t.data.toList.length) ∧ h1 ++ sure l1 = h ++ sure all ∧ left l1 = left all ∧ inAt ks false h1 n = inAt ks false h n ++ d ∧ l1.length = gk ∧ h1.length + l1.length ≤ h.length + all.length) := ⟨k1, k2, k3, k4, k5, k6⟩
    clear k1 k2 k3 k4 k5 k6 g1 g2 g3 hrel hEr
    cases hfl : fullL l1 with
    | true =>
      rw [hfl] at HFU
      have HFL : Hid (fullL l1 = true) := hfl
      clear hfl
      have HEB : Hid (∀ w2, Fr (fun _ => False) wr w2 → Calls Tryz.prog 84 #[.pointer (some ⟨bl, 0, none⟩)] w2 fun e w' => e = .returned (.tuple #[]) ∧ PutAt w w' hi bl bs cp B n ks h all R S (N + t.data.toList.length) (l1.drop (Lib.decodeL l1).2).length) := Hid.mk0 (fun w2 f2 => by
        obtain ⟨k1, k2, k3, k4, k5, k6⟩ := HK.out
        have hne := (full_iff.1 HFL.out).1
        have hpos : 0 < l1.length := List.length_pos_iff.2 hne
        have hk := LinLeft.trans k1.2 HH.out.1 HH.out.2.1 (k1.1.same f2)
        refine (enterBytes_calls hk.1 hne (HE.out w2 hk.2) (by have := HH.out.2.2; omega)).mono ?_
        rintro e w' ⟨rfl, hen⟩
        exact ⟨rfl, PutAt.next HH.out.1 HH.out.2.1 hk k2 k3 k4 k6 HFL.out hen⟩)
      go_wp2_with (first
        | (go_at_call 83; refine HW.out.mono ?_; rintro e w2 ⟨v, rfl, hv, q, rfl⟩)
        | (go_at_call 82; refine (HFU.out v q hv).mono ?_; rintro e w3 ⟨rfl, hf3⟩)
        | (go_at_call 84; refine (HEB.out _ hf3).mono ?_; rintro e w4 ⟨rfl, hp4⟩))
      go_roundg (l1.drop (Lib.decodeL l1).2).length
      case measure => have := drop_shorter HFL.out; have := HK.out.2.2.2.2.1; omega
      case rel => exact hp4
    | false =>
      rw [hfl] at HFU
      have HFL : Hid (fullL l1 = false) := hfl
      clear hfl
      go_wp2_with (first
        | (go_at_call 83; refine HW.out.mono ?_; rintro e w2 ⟨v, rfl, hv, q, rfl⟩)
        | (go_at_call 82; refine (HFU.out v q hv).mono ?_; rintro e w3 ⟨rfl, hf3⟩))
      go_end0
      obtain ⟨k1, k2, k3, k4, k5, k6⟩ := HK.out
      obtain ⟨s1, s2⟩ := sure_stop HFL.out
      rw [s1, List.append_nil] at k2
      rw [s2] at k3
      refine ⟨rfl, d, by rw [← k2]; exact k4, ?_⟩
      rw [← k2, ← k3]
      exact LinLeft.trans k1.2 HH.out.1 HH.out.2.1 (k1.1.same hf3)

end Go.Proofs.YtmhaknejeobfgabGreatDoor

/- LineB3. -/
namespace Go.Proofs.YtmhaknejeobfgabGreatDoor
open Go.RowKit Go.Proofs.YtmhaknejeobfgabGreatDoor.Stable Go.Proofs.YtmhaknejeobfgabGreatDoor.Order Go.Proofs.YtmhaknejeobfgabGreatDoor.Points
attribute [local go_sem ↓] Go.wp_at_zero Go.wp_at_succ

/-- Where End's first loop stands. -/
def EndB (w wr : World) (hi bl bs cp B n : Nat) (ks : Nat → Bool × Bool) (h : List Int) (all : List UInt8) (R : List Int) (S : Nat → Prop) (N g : Nat) : Prop :=
  ∃ h1 l1 d, LinLeft w wr hi bl bs cp B n ks h1 l1 false (R ++ d) S N ∧ h1 ++ codes l1 = h ++ codes all ∧ inAt ks false h1 n = inAt ks false h n ++ d ∧ l1.length = g ∧ h1.length + l1.length ≤ h.length + all.length

theorem EndB.next {w wr w' : World} {hi bl bs cp B n : Nat} {ks : Nat → Bool × Bool} {h : List Int} {all : List UInt8} {R : List Int} {S : Nat → Prop} {N : Nat} {h1 : List Int} {l1 : List UInt8} {d : List Int} (hh : hi ≤ w.heap.size) (hS : ∀ x, S x → hi ≤ x) (k1 : LinLeft w wr hi bl bs cp B n ks h1 l1 false (R ++ d) S N) (k2 : h1 ++ codes l1 = h ++ codes all) (k4 : inAt ks false h1 n = inAt ks false h n ++ d) (k6 : h1.length + l1.length ≤ h.length + all.length) (hne : l1 ≠ [])
    (hen : Entered wr w' hi bl bs cp B n ks h1 (Lib.decodeL l1).1 (l1.drop (Lib.decodeL l1).2) (R ++ d) (fun x => S x ∨ w.heap.size ≤ x) N) : EndB w w' hi bl bs cp B n ks h all R S N (l1.drop (Lib.decodeL l1).2).length := by
  obtain ⟨d2, e1, hL⟩ := hen
  have hw := Lib.decodeL_width l1
  have hp : 0 < l1.length := List.length_pos_iff.2 hne
  refine ⟨h1 ++ [((Lib.decodeL l1).1 : Int)], l1.drop (Lib.decodeL l1).2, d ++ d2, ?_, ?_, ?_, rfl, ?_⟩
  · rw [← List.append_assoc]
    exact LinLeft.trans k1.2 hh hS hL
  · rw [← k2, codes_step l1 hne]
    simp
  · rw [e1, k4, List.append_assoc]
  · simp only [List.length_append, List.length_singleton, List.length_drop]
    omega

/-- What End leaves. -/
def EndLeaves (w w' : World) (hi bl bs cp B n : Nat) (ks : Nat → Bool × Bool) (h : List Int) (all : List UInt8) (R : List Int) (S : Nat → Prop) (N : Nat) : Prop :=
  ∃ d, inAt ks true (h ++ codes all) n = inAt ks false h n ++ d ∧ LinLeft w w' hi bl bs cp B n ks (h ++ codes all) [] true (R ++ d) S N

set_option maxRecDepth 100000 in
set_option maxHeartbeats 1600000 in
theorem lineEnd_calls {w : World} {hi bl bs cp B n : Nat} {ks : Nat → Bool × Bool} {h : List Int} {lb : List UInt8} {R : List Int} {S : Nat → Prop} {N : Nat} (H : Lin w hi bl bs cp B n ks h lb false R S N) (hE : Env w) (hg : 11 ≤ hi) (hb : 432 * (h.length + lb.length) ≤ 1099511627776) (hN : N ≤ 1099511627776) :
    Calls Tryz.prog 98 #[.pointer (some ⟨bl, 0, none⟩)] w fun e w' => e = .returned (.tuple #[]) ∧ EndLeaves w w' hi bl bs cp B n ks h lb R S N := by
  have hlt := H.lt
  have HB0 : Hid (EndB w w hi bl bs cp B n ks h lb R S N lb.length) := ⟨h, lb, [], by rw [List.append_nil]; exact H.same (Fr.refl _ _), rfl, by simp, rfl, Nat.le_refl _⟩
  have HH : Hid (hi ≤ w.heap.size ∧ (∀ x, S x → hi ≤ x) ∧ 432 * (h.length + lb.length) ≤ 1099511627776) := ⟨by omega, H.hiS, hb⟩
  have HE : Hid (∀ wr, Fr S w wr → Env wr) := Hid.mk0 (fun wr f => hE.kept f (fun k hk hs => by have := H.hiS k hs; omega))
  have HSN : Hid (Slim ks ∧ 0 < n) := ⟨H.sl, H.n0⟩
  have hn : n ≤ 3 := H.n3
  clear H hE hb hlt
  go_enter Tryz.func98, Tryz.ntmps98
  go_wp2
  go_loopg [7] lb.length (fun g _ wr => Hid (EndB w wr hi bl bs cp B n ks h lb R S N g))
  case atStart => exact HB0.out
  case round =>
    obtain ⟨h1, l1, d, k1, k2, k4, k5, k6⟩ := hrel.out
    obtain ⟨cl, gb, S0, g1, g2, g3, g4, g5, g6, g7, g8, g9⟩ := k1.1.ex
    have HLE : Hid (Calls Tryz.prog 119 #[.pointer (some ⟨bl, 0, none⟩)] wr fun e w' => e = .returned (.int .i64 l1.length) ∧ ∃ q, w' = wr.drewN q) := by
      have := Q_len_B g1 g3 hN
      rw [l8_length] at this
      exact this
    have HK : Hid (LinLeft w wr hi bl bs cp B n ks h1 l1 false (R ++ d) S N ∧ h1 ++ codes l1 = h ++ codes lb ∧ inAt ks false h1 n = inAt ks false h n ++ d ∧ l1.length = gk ∧ h1.length + l1.length ≤ h.length + lb.length) := ⟨k1, k2, k4, k5, k6⟩
    by_cases hne : l1 = []
    · have HG : Hid (wr.heap[bl]? = some (.cells cl 145 (0, 0)) ∧ cl[2]? = some (.slice (some ⟨bs, 0, none⟩) n cp) ∧ StsIn wr hi bs 108 B n ks (gotE ks (fun _ => false) h1) (fun _ => false) (restR n (R ++ d)) S0 ∧ ¬ S0 bl ∧ bl < wr.heap.size) := ⟨g1, g2, g5, g6, lt_of g1⟩
      have HFI : Hid (∀ w', (∃ D, inAt ks true h1 n = inAt ks false h1 n ++ D ∧ StsLeft wr w' hi bs 108 B n ks (gotE ks (fun _ => true) h1) (fun _ => true) (restR n ((R ++ d) ++ D)) S0) → EndLeaves w w' hi bl bs cp B n ks h lb R S N) := Hid.mk0 (fun w' hx => by
        obtain ⟨D, hD, hl⟩ := hx
        have e1 : h1 = h ++ codes lb := by
          rw [hne] at k2
          simpa [codes_nil] using k2
        refine ⟨d ++ D, by rw [← e1, hD, k4, List.append_assoc], ?_⟩
        rw [← e1, ← List.append_assoc]
        have hR' : ∀ x ∈ (R ++ d) ++ D, Valid x := fun x hx => by
          rcases List.mem_append.1 hx with hx | hx
          · exact k1.1.hR x hx
          · exact inAt_valid k1.1.hv n x (by rw [hD]; exact List.mem_append_right _ hx)
        have g3' := g3
        rw [hne] at g3' k1
        exact LinLeft.trans k1.2 HH.out.1 HH.out.2.1 (k1.1.entered g1 g2 g3' g4 g6 g7 g8 g9 hl k1.1.hv hR'))
      have HV : Hid ((∀ c ∈ h1, Valid c) ∧ (∀ c ∈ R ++ d, Valid c) ∧ 432 * h1.length ≤ 1099511627776) := ⟨k1.1.hv, k1.1.hR, by have := HH.out.2.2; omega⟩
      have c2 : wr.cell? ⟨bl, 2, none⟩ = some (.slice (some ⟨bs, 0, none⟩) n cp) := cell_of g1 g2
      have hz : (l1.length : Int) = 0 := by rw [hne]; rfl
      rw [hz] at HLE
      clear k1 k2 k4 k5 k6 g1 g2 g3 g4 g5 g6 g7 g8 g9 hne hz hrel HK
      generalize wr = wb at *
      go_wp2_with (go_at_call 119; refine HLE.out.mono ?_; rintro e w' ⟨rfl, q, rfl⟩)
      have hE0 := EndAt.start HG.out.2.2.1 ((Fr.refl (fun _ => False) wb).drewN q)
      have HE0 : Hid (EndAt wb (wb.drewN q) hi bs 108 B n ks h1 (R ++ d) 0 S0) := hE0
      clear hE0
      go_loopw [15] (fun vi wr => ∃ k : Nat, vi = .int .i64 k ∧ k ≤ n ∧ Hid (EndAt wb wr hi bs 108 B n ks h1 (R ++ d) k S0)) (fun vi _ => n - (intOf vi).toNat)
      case atStart => exact ⟨0, rfl, Nat.zero_le _, HE0.out⟩
      case round =>
        obtain ⟨k, rfl, hk, hh⟩ := hrel
        by_cases hlt : k < n
        · obtain ⟨Ls, rs, es, S1, s1, s2, s3, s4, s5, s6, s7, s8, s9, s10⟩ := hh.out.next HSN.out.1 hlt hn HV.out.1 HV.out.2.1 HV.out.2.2
          have i0 : (0 : Int) ≤ (k : Int) := by omega
          have i1 : (k : Int) < (n : Int) := by omega
          have cL2 : wr.cell? ⟨bl, 2, none⟩ = some (.slice (some ⟨bs, 0, none⟩) n cp) := s4.cell HG.out.2.2.2.1 HG.out.2.2.2.2 (cell_of HG.out.1 HG.out.2.1)
          have HK : Hid (StsIn wr hi bs 108 B n ks Ls es rs S1 ∧ Fr S0 wb wr ∧ es k = false ∧ 2 * (Ls k).length ≤ 1099511627776 ∧ (∀ x, S1 x → S0 x ∨ wb.heap.size ≤ x) ∧ (∀ x, S0 x → S1 x)) := ⟨s3, s4, s5, s6, s1, s2⟩
          obtain ⟨R1, hR1⟩ : ∃ R1, R1 = upd rs k (rs k ++ sortC clsOf (waitOf false (Ls k))) := ⟨_, rfl⟩
          rw [← hR1] at s7 s9 s10
          have HA : Hid (AllV Ls R1) := s7
          have H8 : Hid (∀ j, k < j → j < n → upd es k true j = false) := s8
          have H9 : Hid (∀ m, m ≤ n - 1 - k → ∀ j, j < n → 2 * ((passes ks k Ls R1 m).1 j).length ≤ 1099511627776) := s9
          have H10 : Hid (∀ w2, StsLeft wb w2 hi bs 108 B n ks (passes ks k Ls R1 (n - 1 - k)).1 (upd es k true) (passes ks k Ls R1 (n - 1 - k)).2 S0 → EndAt wb w2 hi bs 108 B n ks h1 (R ++ d) (k + 1) S0) := s10
          have HR1 : Hid (R1 = upd rs k (rs k ++ sortC clsOf (waitOf false (Ls k)))) := hR1
          clear s1 s2 s3 s4 s5 s6 s7 s8 s9 s10 hR1 hh
          go_wp2_with (first
            | (go_at_call 120; refine (stRelease HK.out.1 k hlt HK.out.2.2.1 HK.out.2.2.2.1 _ (Nat.mul_comm _ _)).mono ?_; rintro e w1 ⟨rfl, hl1⟩; rw [← HR1.out] at hl1; have HL1 : Hid (StsLeft wb w1 hi bs 108 B n ks Ls (upd es k true) R1 S0) := StsLeft.trans HK.out.2.1 ⟨hl1.1.mono (fun x h => h.elim (fun h => .inl (HK.out.2.2.2.2.1 x h)) (fun h => .inr h)), hl1.2.mono (fun x _ h => HK.out.2.2.2.2.1 x h)⟩; clear hl1)
            | (go_at_call 79; refine (handOn_calls HL1.out.1 bl cp (fun h => h.elim HG.out.2.2.2.1 (fun h => absurd HG.out.2.2.2.2 (by omega))) (Nat.lt_of_lt_of_le HG.out.2.2.2.2 HL1.out.2.size) (HL1.out.2.cell HG.out.2.2.2.1 HG.out.2.2.2.2 (cell_of HG.out.1 HG.out.2.1)) k hlt hn H8.out HA.out H9.out).mono ?_; rintro e w2 ⟨rfl, hl2⟩))
          exact ⟨⟨k + 1, by go_num, by omega, H10.out _ (.trans HL1.out.2 hl2)⟩, by simp [intOf]; omega⟩
        · obtain rfl : k = n := by omega
          go_wp2
          go_end0
          exact ⟨rfl, HFI.out _ hh.out.done⟩
    · have hpos : 0 < l1.length := List.length_pos_iff.2 hne
      have i0 : (0 : Int) < (l1.length : Int) := by omega
      have HNE : Hid (l1 ≠ []) := hne
      clear k1 k2 k4 k5 k6 g1 g2 g3 g4 g5 g6 g7 g8 g9 hne hrel
      have HEB : Hid (∀ w2, Fr (fun _ => False) wr w2 → Calls Tryz.prog 84 #[.pointer (some ⟨bl, 0, none⟩)] w2 fun e w' => e = .returned (.tuple #[]) ∧ EndB w w' hi bl bs cp B n ks h lb R S N (l1.drop (Lib.decodeL l1).2).length) := Hid.mk0 (fun w2 f2 => by
        obtain ⟨k1, k2, k4, k5, k6⟩ := HK.out
        have hk := LinLeft.trans k1.2 HH.out.1 HH.out.2.1 (k1.1.same f2)
        refine (enterBytes_calls hk.1 HNE.out (HE.out w2 hk.2) (by have := HH.out.2.2; omega)).mono ?_
        rintro e w' ⟨rfl, hen⟩
        exact ⟨rfl, EndB.next HH.out.1 HH.out.2.1 hk k2 k4 k6 HNE.out hen⟩)
      go_wp2_with (first
        | (go_at_call 119; refine HLE.out.mono ?_; rintro e w2 ⟨rfl, q, rfl⟩)
        | (go_at_call 84; refine (HEB.out _ ((Fr.refl _ _).drewN q)).mono ?_; rintro e w4 ⟨rfl, hp4⟩))
      go_roundg (l1.drop (Lib.decodeL l1).2).length
      case measure =>
        have hw := Lib.decodeL_width l1
        have := HK.out.2.2.2.1
        rw [List.length_drop]
        omega
      case rel => exact hp4

set_option maxRecDepth 100000 in
theorem linTake_calls {w : World} {hi bl bs cp B n : Nat} {ks : Nat → Bool × Bool} {h : List Int} {lb : List UInt8} {e : Bool} {R : List Int} {S : Nat → Prop} {N : Nat} (H : Lin w hi bl bs cp B n ks h lb e R S N) (hb : 432 * h.length ≤ 1099511627776) :
    Calls Tryz.prog 73 #[.pointer (some ⟨bl, 0, none⟩)] w fun e' w' => ∃ x ok, e' = .returned (.tuple #[.int .i32 x, .bool ok]) ∧ MidAt (.int .i32 x) (.bool ok) R ∧ LinLeft w w' hi bl bs cp B n ks h lb e R.tail S N := by
  obtain ⟨cl, gb, S0, g1, g2, g3, g4, g5, g6, g7, g8, g9⟩ := H.ex
  refine (lineTake_calls g5 ⟨cell_of g1 g2, lt_of g1⟩ g6 H.sl H.n0 H.n3 hb).mono ?_
  rintro e' w' ⟨x, ok, rfl, hm, hl⟩
  exact ⟨x, ok, rfl, hm, H.entered g1 g2 g3 g4 g6 g7 g8 g9 hl H.hv (fun c hc => H.hR c (List.mem_of_mem_tail hc))⟩

end Go.Proofs.YtmhaknejeobfgabGreatDoor
