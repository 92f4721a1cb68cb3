/- strconv.ParseInt at base 16 and 32 bits, at texts of one to six digits 0 to 9, A to F: the number that they spell, and no error. strconv.ParseInt at base 16 and 32 bits, and table.codePoint, at texts of one to six digits 0 to 9, A to F: the number that they spell. A text cut at each byte of one kind: what strings.Split hands back at a separator of one byte, as a plain function that the kernel reckons. table.codePoints: nothing at a lone hyphen; else the numbers of the words between the plus signs, in a row of new memory. The table's text, its rows as data, and that the one reads as the other: by the kernel. What the library's package-level variables hold that the program's road reads, and that it stays so. The table's map: what stands at each key; made, written, looked up, kept. table.New: a map in new memory that holds the table's rows. table.New: a map in new memory that holds the table's rows. The table in memory, as the stages read it, and what it tells of each code point. The table's Parts: one step of the decomposition of a code point. -/
import Derived.Test.YtmhaknejeobfgabGreatDoorChecked
import Derived.Test.YtmhaknejeobfgabGreatDoorShelf
import Derived.Shelf.Strconv.ParseUint10
import Derived.Test.YtmhaknejeobfgabGreatDoorBase
import Derived.WalkSpells
import Derived.Deep.OwnRows
import Derived.Deep.DrawnRows
import Derived.BigRegion
import Derived.WalkSmall
import Derived.Maps.OwnSet
import Derived.Deep.RegionHeld3
import Derived.Deep.RegionWith
import Derived.Maps.AppendAt

/- Hex. -/
namespace Go.Proofs.YtmhaknejeobfgabGreatDoor
open Go.RowKit

/-- A digit of base sixteen. -/
def isHex (c : UInt8) : Bool := (48 ≤ c.toNat && c.toNat ≤ 57) || (65 ≤ c.toNat && c.toNat ≤ 70)
def hexDigit (c : UInt8) : Nat := if c.toNat ≤ 57 then c.toNat - 48 else c.toNat - 55
def hexVal : Nat → List UInt8 → Nat
  | acc, [] => acc
  | acc, c :: r => hexVal (acc * 16 + hexDigit c) r

theorem hexDigit_lt (c : UInt8) (h : isHex c = true) : hexDigit c < 16 := by
  unfold isHex at h
  unfold hexDigit
  simp at h
  split <;> omega

theorem or32 (n : Nat) (h0 : 65 ≤ n) (h1 : n ≤ 70) : bits .or .u8 (n : Int) 32 = (n : Int) + 32 := by
  have : n = 65 ∨ n = 66 ∨ n = 67 ∨ n = 68 ∨ n = 69 ∨ n = 70 := by omega
  rcases this with rfl | rfl | rfl | rfl | rfl | rfl <;> rfl

theorem hexVal_lt : ∀ (l : List UInt8) (acc k : Nat), (∀ c ∈ l, isHex c = true) → acc < 16 ^ k → hexVal acc l < 16 ^ (k + l.length)
  | [], acc, k, _, h => by simpa [hexVal] using h
  | c :: r, acc, k, hc, h => by
    have := hexVal_lt r (acc * 16 + hexDigit c) (k + 1) (fun x hx => hc x (by simp [hx])) (by
      have := hexDigit_lt c (hc c (by simp))
      rw [Nat.pow_succ]; omega)
    simp only [hexVal, List.length_cons]
    rw [show k + (r.length + 1) = k + 1 + r.length by omega]
    exact this

set_option maxHeartbeats 32000000 in
set_option maxRecDepth 100000 in
theorem parseUint16 (t : ByteArray) (hne : t.size ≠ 0) (hmax : t.size ≤ 6) (hx : ∀ c ∈ t.data.toList, isHex c = true) (w : World) :
    Calls Tryz.prog 154 #[.string t, .int .i64 16, .int .i64 32] w fun e w' => e = .returned (.tuple #[.int .u64 (hexVal 0 t.data.toList), .nilIface]) ∧ w' = Lib.bytesWorld w 5 t := by
  have hemp : t.toList.isEmpty = false := by
    rw [← decide_eq_emptyBytes]
    exact decide_eq_false (fun h => hne (by rw [h]; rfl))
  have hcv := Lib.run_convert_string_bytes (P := Tryz.prog) w 9 96 5 t (u := .string) Tryz.underlying9 Tryz.underlying96 Tryz.underlying5
  have hB : ∀ j, j < t.size → (Lib.bytesWorld w 5 t).cell? ⟨w.heap.size, j, none⟩ = some (.int .u8 (t.data.toList.getD j 0).toNat) := fun j hj => Lib.bytesWorld_cell w 5 t j hj
  obtain ⟨W1, hW1⟩ : ∃ W1, W1 = Lib.bytesWorld w 5 t := ⟨_, rfl⟩
  rw [← hW1] at hcv hB ⊢
  clear hW1
  obtain ⟨bs, hL⟩ : ∃ bs, bs = t.data.toList := ⟨_, rfl⟩
  have hLn : bs.length = t.size := by rw [hL, Lib.size_eq]
  rw [← hL] at hB hx ⊢
  clear hL
  have hmv : IntKind.u64.wrap (IntKind.u64.wrap 4294967296 - 1) = 4294967295 := by
    rw [IntKind.wrap_u64, IntKind.wrap_u64]
    decide
  have HX : Hid (∀ c ∈ bs, isHex c = true) := hx
  clear hx
  go_enter Tryz.func154, Tryz.ntmps154
  go_wp2
  go_loop [12, 13, 101] (fun vu vn vi => ∃ (k acc : Nat) (a : Int), vu = .bool false ∧ vn = .int .u64 a ∧ vi = .int .i64 k ∧ k ≤ t.size ∧ Hid (a = (acc : Int) ∧ acc < 16 ^ k ∧ hexVal 0 bs = hexVal acc (bs.drop k)))
    (fun _ _ vi => t.size - (intOf vi).toNat)
  case atStart => exact ⟨0, 0, 0, rfl, rfl, rfl, by omega, rfl, by decide, rfl⟩
  case round =>
    obtain ⟨k, acc, a, rfl, rfl, rfl, hk, hh⟩ := hrel
    obtain ⟨ha, hacc, hdec⟩ := hh.out
    clear hh
    by_cases hkn : k < t.size
    · have hc := hB k hkn
      have hdrop : bs.drop k = bs[k]'(by omega) :: bs.drop (k + 1) := List.drop_eq_getElem_cons (by omega)
      have hget : bs.getD k 0 = bs[k]'(by omega) := by simp [List.getD, List.getElem?_eq_getElem (show k < bs.length by omega)]
      have hhex := HX.out (bs[k]'(by omega)) (List.getElem_mem _)
      rw [hdrop] at hdec
      rw [hget] at hc
      generalize bs[k]'(by omega) = c at hc hdec hhex
      have hacc6 : acc < 1048576 := Nat.lt_of_lt_of_le hacc (by
        have : 16 ^ k ≤ 16 ^ 5 := Nat.pow_le_pow_right (by omega) (by omega)
        simpa using this)
      have a0 : 0 ≤ a := by omega
      have a1 : a < 1048576 := by omega
      have hdl := hexDigit_lt c hhex
      have hdec' : hexVal acc (c :: bs.drop (k + 1)) = hexVal (acc * 16 + hexDigit c) (bs.drop (k + 1)) := rfl
      have HN : Hid (acc * 16 + hexDigit c < 16 ^ (k + 1) ∧ hexVal 0 bs = hexVal (acc * 16 + hexDigit c) (bs.drop (k + 1))) := ⟨by rw [Nat.pow_succ]; omega, hdec.trans hdec'⟩
      have HA : Hid (a = (acc : Int)) := ha
      clear hB hdrop hget hdec hdec' hacc hacc6 ha
      unfold isHex at hhex
      by_cases hdig : c.toNat ≤ 57
      · have hd0 : 48 ≤ c.toNat := by simp at hhex; omega
        have hD : Hid (((acc * 16 + hexDigit c : Nat) : Int) = a * 16 + ((c.toNat : Int) - 48)) := by
          have := HA.out
          unfold hexDigit
          rw [if_pos hdig]
          show _ = _
          omega
        have i0 : (48 : Int) ≤ (c.toNat : Int) := by omega
        have i1 : (c.toNat : Int) ≤ 57 := by omega
        clear hhex hdl hdig hd0
        generalize (c.toNat : Int) = x at hc i0 i1 hD
        go_wp2
        refine ⟨⟨k + 1, _, a * 16 + (x - 48), rfl, (by first | rfl | (congr 1; omega)), (by first | rfl | (congr 1; omega)), by omega, ⟨hD.out.symm, HN.out⟩⟩, by simp [intOf]; omega⟩
      · have hd0 : 65 ≤ c.toNat ∧ c.toNat ≤ 70 := by simp at hhex; omega
        have hD : Hid (((acc * 16 + hexDigit c : Nat) : Int) = a * 16 + ((c.toNat : Int) - 55)) := by
          have := HA.out
          unfold hexDigit
          rw [if_neg hdig]
          show _ = _
          omega
        have hor := or32 c.toNat hd0.1 hd0.2
        have i0 : (65 : Int) ≤ (c.toNat : Int) := by omega
        have i1 : (c.toNat : Int) ≤ 70 := by omega
        clear hhex hdl hdig hd0
        generalize (c.toNat : Int) = x at hc i0 i1 hD hor
        go_wp2_with (go_at_call 164; refine (Tryz.internal_strconv_lower _ _).mono ?_; rintro e w' ⟨rfl, rfl⟩)
        refine ⟨⟨k + 1, _, a * 16 + (x - 55), rfl, (by first | rfl | (congr 1; omega)), (by first | rfl | (congr 1; omega)), by omega, ⟨hD.out.symm, HN.out⟩⟩, by simp [intOf]; omega⟩
    · have hkk : k = t.size := by omega
      subst hkk
      have hF : hexVal acc (bs.drop t.size) = acc := by rw [List.drop_eq_nil_of_le (by omega)]; rfl
      rw [hF] at hdec
      subst ha
      clear hacc hF
      go_wp2
      go_ret2
      exact ⟨rfl, rfl⟩

end Go.Proofs.YtmhaknejeobfgabGreatDoor

/- Hex2. -/
namespace Go.Proofs.YtmhaknejeobfgabGreatDoor
open Go.RowKit

theorem bytesWorld_fr (w : World) (T : TypeId) (t : ByteArray) : Fr (fun _ => False) w (Lib.bytesWorld w T t) := by
  unfold Lib.bytesWorld World.freeze
  rw [if_neg (by decide)]
  refine ⟨rfl, rfl, rfl, by simp, fun k hk _ => ?_⟩
  show (Array.modify _ _ _)[k]? = _
  rw [Array.getElem?_modify, if_neg (by show ¬ w.heap.size = k; omega)]
  exact Below.heap_alloc w.drew _ k hk

theorem hexVal_small (l : List UInt8) (h : ∀ c ∈ l, isHex c = true) (hl : l.length ≤ 6) : hexVal 0 l < 16777216 := by
  have := hexVal_lt l 0 0 h (by decide)
  have h6 : 16 ^ (0 + l.length) ≤ 16 ^ 6 := Nat.pow_le_pow_right (by omega) (by omega)
  have h7 : (16 : Nat) ^ 6 = 16777216 := by decide
  omega

theorem parseUint16v (t : ByteArray) (hne : t.size ≠ 0) (hmax : t.size ≤ 6) (hx : ∀ c ∈ t.data.toList, isHex c = true) (v : Int) (hv : (hexVal 0 t.data.toList : Int) = v) (w : World) :
    Calls Tryz.prog 154 #[.string t, .int .i64 16, .int .i64 32] w fun e w' => e = .returned (.tuple #[.int .u64 v, .nilIface]) ∧ w' = Lib.bytesWorld w 5 t := hv ▸ parseUint16 t hne hmax hx w

set_option maxHeartbeats 3200000 in
set_option maxRecDepth 100000 in
theorem parseInt16in (t : ByteArray) (hne : t.size ≠ 0) (hmax : t.size ≤ 6) (hx : ∀ c ∈ t.data.toList, isHex c = true) (w : World) :
    Calls Tryz.prog 142 #[.string t, .int .i64 16, .int .i64 32] w fun e w' => e = .returned (.tuple #[.int .i64 (hexVal 0 t.data.toList), .nilIface]) ∧ w' = Lib.bytesWorld w 5 t := by
  have hemp : t.toList.isEmpty = false := by
    rw [← decide_eq_emptyBytes]
    exact decide_eq_false (fun h => hne (by rw [h]; rfl))
  have hpos : 0 < t.size := by omega
  have hc0 : isHex t[0] = true := hx _ (by simp [ByteArray.getElem_eq_getElem_data])
  have hv := hexVal_small t.data.toList hx (by have := Lib.size_eq t; omega)
  have k1 : ((t[0].toNat : Int) == 43) = false := by
    unfold isHex at hc0; simp at hc0 ⊢; omega
  have k2 : ((t[0].toNat : Int) == 45) = false := by
    unfold isHex at hc0; simp at hc0 ⊢; omega
  have v0 : (0 : Int) ≤ (hexVal 0 t.data.toList : Int) := by omega
  have v1 : (hexVal 0 t.data.toList : Int) < 16777216 := by omega
  have HX : Hid (∀ c ∈ t.data.toList, isHex c = true) := hx
  generalize hvv : (hexVal 0 t.data.toList : Int) = v at v0 v1 ⊢
  have HV : Hid ((hexVal 0 t.data.toList : Int) = v) := hvv
  clear hvv hx hc0 hv
  go_enter Tryz.func142, Tryz.ntmps142
  go_wp2_with (go_at_call 154; refine (parseUint16v t hne hmax HX.out v HV.out _).mono ?_; rintro e w' ⟨rfl, rfl⟩)
  go_ret2
  exact ⟨rfl, rfl⟩

theorem parseInt16inv (t : ByteArray) (hne : t.size ≠ 0) (hmax : t.size ≤ 6) (hx : ∀ c ∈ t.data.toList, isHex c = true) (v : Int) (hv : (hexVal 0 t.data.toList : Int) = v) (w : World) :
    Calls Tryz.prog 142 #[.string t, .int .i64 16, .int .i64 32] w fun e w' => e = .returned (.tuple #[.int .i64 v, .nilIface]) ∧ w' = Lib.bytesWorld w 5 t := hv ▸ parseInt16in t hne hmax hx w

set_option maxHeartbeats 3200000 in
set_option maxRecDepth 100000 in
theorem parseInt16 (t : ByteArray) (hne : t.size ≠ 0) (hmax : t.size ≤ 6) (hx : ∀ c ∈ t.data.toList, isHex c = true) (v : Int) (hv : (hexVal 0 t.data.toList : Int) = v) (w : World) :
    Calls Tryz.prog 126 #[.string t, .int .i64 16, .int .i64 32] w fun e w' => e = .returned (.tuple #[.int .i64 v, .nilIface]) ∧ w' = Lib.bytesWorld w 5 t := by
  have HX : Hid (∀ c ∈ t.data.toList, isHex c = true) := hx
  have HV : Hid ((hexVal 0 t.data.toList : Int) = v) := hv
  clear hx hv
  go_enter Tryz.func126, Tryz.ntmps126
  go_wp2_with (go_at_call 142; refine (parseInt16inv t hne hmax HX.out v HV.out _).mono ?_; rintro e w' ⟨rfl, rfl⟩)
  go_ret2
  exact ⟨rfl, rfl⟩

set_option maxHeartbeats 3200000 in
set_option maxRecDepth 100000 in
theorem codePoint_calls (t : ByteArray) (hne : t.size ≠ 0) (hmax : t.size ≤ 6) (hx : ∀ c ∈ t.data.toList, isHex c = true) (v : Int) (hv : (hexVal 0 t.data.toList : Int) = v) (w : World) :
    Calls Tryz.prog 103 #[.string t] w fun e w' => e = .returned (.int .i32 v) ∧ Fr (fun _ => False) w w' := by
  have h6 := hexVal_small t.data.toList hx (by have := Lib.size_eq t; omega)
  have v0 : (0 : Int) ≤ v := by omega
  have v1 : v < 16777216 := by omega
  have HX : Hid (∀ c ∈ t.data.toList, isHex c = true) := hx
  have HV : Hid ((hexVal 0 t.data.toList : Int) = v) := hv
  clear hx hv h6
  go_enter Tryz.func103, Tryz.ntmps103
  go_wp2_with (go_at_call 126; refine (parseInt16 t hne hmax HX.out v HV.out _).mono ?_; rintro e w' ⟨rfl, rfl⟩)
  go_ret
  exact ⟨rfl, bytesWorld_fr _ _ _⟩

end Go.Proofs.YtmhaknejeobfgabGreatDoor

/- Cut. -/
namespace Go.Proofs.YtmhaknejeobfgabGreatDoor

def cutAt (c : UInt8) : List UInt8 → List (List UInt8)
  | [] => [[]]
  | b :: l => if b == c then [] :: cutAt c l else
    match cutAt c l with
    | h :: t => (b :: h) :: t
    | [] => [[b]]

theorem indexByte_mem (c : UInt8) : ∀ l : List UInt8, c ∈ l → Lib.indexByte l c ≠ -1
  | [], h => by simp at h
  | b :: l, h => by
    unfold Lib.indexByte
    by_cases hb : b = c
    · rw [if_pos (by simpa using hb)]; decide
    · rw [if_neg (by simpa using hb)]
      have hm : c ∈ l := by
        rcases List.mem_cons.1 h with e | h
        · exact absurd e.symm hb
        · exact h
      have ih := indexByte_mem c l hm
      have hge := Lib.indexByte_ge l c
      rw [if_neg (by simpa using ih)]
      omega

theorem splitK_cut (c : UInt8) : ∀ s : List UInt8, Lib.splitK [c] 0 (s.count c) s = cutAt c s
  | [] => rfl
  | b :: l => by
    have ih := splitK_cut c l
    by_cases hb : b = c
    · subst hb
      rw [List.count_cons_self]
      unfold Lib.splitK
      have e0 : Lib.index (b :: l) [b] = 0 := by rw [Lib.index_one]; simp [Lib.indexByte]
      rw [e0]
      simp [cutAt, ih]
    · rw [List.count_cons_of_ne hb]
      unfold cutAt
      rw [if_neg (by simpa using hb), ← ih]
      cases hk : l.count c with
      | zero => rfl
      | succ n =>
        have hmem : c ∈ l := List.count_pos_iff.1 (by omega)
        have hi : Lib.indexByte l c ≠ -1 := indexByte_mem c l hmem
        have e1 : Lib.index (b :: l) [c] = Lib.indexByte l c + 1 := by
          rw [Lib.index_one]
          simp [Lib.indexByte, hb, hi]
        have hge := Lib.indexByte_ge l c
        unfold Lib.splitK
        rw [e1, Lib.index_one]
        have e2 : ¬ (Lib.indexByte l c + 1 == -1) = true := by simp; omega
        have e3 : ¬ (Lib.indexByte l c == -1) = true := by simpa using hi
        rw [if_neg e2, if_neg e3]
        have e4 : (Lib.indexByte l c + 1).toNat = (Lib.indexByte l c).toNat + 1 := by omega
        rw [e4]
        simp

theorem splitB_cut (c : UInt8) (s : ByteArray) : Lib.splitB ⟨#[c]⟩ 0 (Lib.countB s ⟨#[c]⟩) s = (cutAt c s.data.toList).map (fun l => (⟨l.toArray⟩ : ByteArray)) := by
  have h := Lib.splitB_data ⟨#[c]⟩ 0 (Lib.countB s ⟨#[c]⟩) s
  have e1 : Lib.countB s ⟨#[c]⟩ = s.data.toList.count c := Lib.count_one c s.data.toList
  have e2 : (⟨#[c]⟩ : ByteArray).data.toList = [c] := rfl
  rw [e2] at h
  rw [show Lib.splitK [c] 0 (Lib.countB s ⟨#[c]⟩) s.data.toList = cutAt c s.data.toList by rw [e1]; exact splitK_cut c _] at h
  rw [← h, List.map_map]
  have e3 : ((fun l : List UInt8 => (⟨l.toArray⟩ : ByteArray)) ∘ fun x : ByteArray => x.data.toList) = id := by
    funext x
    simp
  rw [e3, List.map_id]

theorem countB_cut (c : UInt8) (s : ByteArray) : Lib.countB s ⟨#[c]⟩ + 1 = (cutAt c s.data.toList).length := by
  have h := congrArg List.length (splitB_cut c s)
  rw [Lib.splitB_all ⟨#[c]⟩ (Nat.le_refl 1) 0 _ s rfl, List.length_map] at h
  exact h

end Go.Proofs.YtmhaknejeobfgabGreatDoor

/- CodePoints. -/
namespace Go.Proofs.YtmhaknejeobfgabGreatDoor
open Go.RowKit
attribute [local go_sem ↓] Go.wp_at_zero Go.wp_at_succ

theorem Tryz.info_rune : (Tryz.prog.info? 21).map (fun i => (i.zero, i.size, i.bytes)) = some (some (.int .i32 0), 1, 4) := by kernel_rfl

/-- strings.Split where what comes of it is known. -/
theorem splitV (s sep : ByteArray) (ws : List ByteArray) (m : Int) (w : World) (hs : s.size < 4294967281) (hm : w.cell? ⟨6, 0, none⟩ = some (.int .i64 m)) (h1 : 1 ≤ sep.size) (hc : Lib.countB s sep + 1 = ws.length) (hw : Lib.splitB sep 0 (Lib.countB s sep) s = ws) :
    Calls Tryz.prog 99 #[.string s, .string sep] w fun e w' => e = .returned (.slice (some ⟨w.heap.size, 0, none⟩) ws.length ws.length) ∧ w' = w.alloc (.cells (ws.map Value.string).toArray 9) := by
  have := Tryz.strings_Split s sep m w hs hm h1
  rw [hw, hc] at this
  exact this

/-- A word that spells a code point. -/
def isWord (x : ByteArray) : Bool := decide (x.size ≠ 0) && decide (x.size ≤ 6) && x.data.toList.all isHex
def wordVal (x : ByteArray) : Int := hexVal 0 x.data.toList

theorem codePointV (x : ByteArray) (h : isWord x = true) (w : World) : Calls Tryz.prog 103 #[.string x] w fun e w' => e = .returned (.int .i32 (wordVal x)) ∧ Fr (fun _ => False) w w' := by
  unfold isWord at h
  simp only [Bool.and_eq_true, decide_eq_true_eq, List.all_eq_true] at h
  exact codePoint_calls x h.1.1 h.1.2 h.2 _ rfl w

/-- What a row of numbers holds while it is filled. -/
def filled (vals : List Int) (k n : Nat) : Array Value := ((vals.take k).map (Value.int .i32) ++ List.replicate (n - k) (Value.int .i32 0)).toArray

theorem filled_zero (vals : List Int) (n : Nat) : madeCells #[.int .i32 0] n = filled vals 0 n := by
  unfold filled
  apply Array.ext
  · simp [madeCells]
  · intro i h1 h2
    simp [madeCells]
    rw [Nat.mod_one]
    rfl

theorem filled_size (vals : List Int) (k n : Nat) (h : k ≤ n) (hn : vals.length = n) : (filled vals k n).size = n := by
  unfold filled
  simp
  omega

theorem filled_step (vals : List Int) (k n : Nat) (h : k < n) (hn : vals.length = n) : (filled vals k n).setIfInBounds k (.int .i32 (vals[k]?.getD 0)) = filled vals (k + 1) n := by
  apply Array.ext (by simp [filled_size vals k n (by omega) hn, filled_size vals (k + 1) n (by omega) hn])
  intro i h1 h2
  have hi : i < n := by rw [filled_size vals (k + 1) n (by omega) hn] at h2; exact h2
  rw [Array.getElem_setIfInBounds (by rw [filled_size vals k n (by omega) hn]; exact hi)]
  split
  · rename_i e
    subst e
    have : k < vals.length := by omega
    simp [filled, List.length_take, this, Nat.min_eq_left (show k + 1 ≤ vals.length by omega)]
  · rename_i e
    by_cases hlt : i < k
    · have : i < vals.length := by omega
      simp [filled, List.length_take, show i < min k vals.length by omega, show i < min (k + 1) vals.length by omega]
    · simp [filled, List.getElem_append, List.length_take, show ¬ i < min k vals.length by omega, show ¬ i < min (k + 1) vals.length by omega]

theorem filled_get (vals : List Int) (k n : Nat) (h : k < n) (hn : vals.length = n) : ∃ v, (filled vals k n)[k]? = some v := by
  have := filled_size vals k n (by omega) hn
  exact ⟨_, Array.getElem?_eq_getElem (by omega)⟩

theorem filled_all (vals : List Int) (n : Nat) (hn : vals.length = n) : filled vals n n = (vals.map (Value.int .i32)).toArray := by
  unfold filled
  rw [List.take_of_length_le (by omega), Nat.sub_self]
  simp

set_option maxHeartbeats 3200000 in
set_option maxRecDepth 100000 in
theorem codePoints_some (t : ByteArray) (ws : List ByteArray) (m : Int) (w : World) (hdash : (t.toList == [45]) = false) (hs : t.size < 4294967281) (hm : w.cell? ⟨6, 0, none⟩ = some (.int .i64 m)) (hc : Lib.countB t ⟨#[43]⟩ + 1 = ws.length) (hw : Lib.splitB ⟨#[43]⟩ 0 (Lib.countB t ⟨#[43]⟩) t = ws) (hx : ∀ x ∈ ws, isWord x = true) (hlen : ws.length ≤ 1000) :
    Calls Tryz.prog 102 #[.string t] w fun e w' => ∃ g, e = .returned (.slice (some ⟨g, 0, none⟩) ws.length ws.length) ∧ w.heap.size ≤ g ∧ w'.heap[g]? = some (.cells ((ws.map wordVal).map (Value.int .i32)).toArray 21 (0, 0)) ∧ Fr (fun _ => False) w w' := by
  have hmk := fun w => run_make_row' (P := Tryz.prog) 104 21 (.int .i32 0) 4 Tryz.underlying104 Tryz.info_rune rfl .i64 .i64 ws.length (by omega) (by omega) w
  have HW : Hid (Lib.countB t ⟨#[43]⟩ + 1 = ws.length ∧ Lib.splitB ⟨#[43]⟩ 0 (Lib.countB t ⟨#[43]⟩) t = ws) := ⟨hc, hw⟩
  have HX : Hid (∀ x ∈ ws, isWord x = true) := hx
  clear hc hw hx
  go_enter Tryz.func102, Tryz.ntmps102
  go_wp2_with (go_at_call 99; refine (splitV t ⟨#[43]⟩ ws m _ hs hm (by decide) HW.out.1 HW.out.2).mono ?_; rintro e w' ⟨rfl, rfl⟩)
  go_loopw [16] (fun vi wr => ∃ k : Nat, vi = .int .i64 k ∧ k ≤ ws.length ∧ Hid (wr.heap[w.heap.size]? = some (.cells (ws.map Value.string).toArray 9 (0, 0)) ∧ wr.heap[w.heap.size + 1]? = some (.cells (filled (ws.map wordVal) k ws.length) 21 (0, 0)) ∧ Fr (fun _ => False) w wr))
    (fun vi _ => ws.length - (intOf vi).toNat)
  case atStart =>
    refine ⟨0, rfl, Nat.zero_le _, ?_, ?_, ?_⟩
    · rw [Below.heap_alloc _ _ _ (by simp)]
      exact heap_alloc_new w _
    · rw [← filled_zero]
      have := heap_alloc_new (w.alloc (.cells (ws.map Value.string).toArray 9)) (.cells (madeCells #[.int .i32 0] ws.length) 21)
      simpa using this
    · exact ((Fr.refl _ _).alloc _).alloc _
  case round =>
    obtain ⟨k, rfl, hk, hh⟩ := hrel
    obtain ⟨hb1, hb2, hfr⟩ := hh.out
    clear hh
    by_cases hlt : k < ws.length
    · obtain ⟨x, hxk⟩ : ∃ x, ws[k]? = some x := ⟨_, List.getElem?_eq_getElem hlt⟩
      have hword := HX.out x (List.mem_of_getElem? hxk)
      have hcell := cell_of hb1 (o := k) (v := .string x) (by simp [hxk])
      have hval : (ws.map wordVal)[k]?.getD 0 = wordVal x := by simp [hxk]
      have HB2 : Hid (wr.heap[w.heap.size + 1]? = some (.cells (filled (ws.map wordVal) k ws.length) 21 (0, 0))) := hb2
      have HB1 : Hid (wr.heap[w.heap.size]? = some (.cells (ws.map Value.string).toArray 9 (0, 0))) := hb1
      have HV : Hid ((ws.map wordVal)[k]?.getD 0 = wordVal x) := hval
      clear hb1 hb2 hval hxk
      have i0 : (0 : Int) ≤ (k : Int) := by omega
      have i1 : (k : Int) < (ws.length : Int) := by omega
      obtain ⟨v2, hv2⟩ := filled_get (ws.map wordVal) k ws.length hlt (by simp)
      have HV2 : Hid ((filled (ws.map wordVal) k ws.length)[k]? = some v2) := hv2
      clear hv2
      have hst : ∀ w1, Fr (fun _ => False) wr w1 → w1.cell? ⟨w.heap.size + 1, k, none⟩ = some v2 ∧ w1.frozen? ⟨w.heap.size + 1, k, none⟩ = false := fun w1 hf1 => by
        have hw1 := (hf1.block _ (lt_of HB2.out) id).trans HB2.out
        exact ⟨cell_of hw1 HV2.out, frozen_of hw1 k⟩
      have HST : Hid (∀ w1, Fr (fun _ => False) wr w1 → w1.cell? ⟨w.heap.size + 1, k, none⟩ = some v2 ∧ w1.frozen? ⟨w.heap.size + 1, k, none⟩ = false) := hst
      clear hst
      go_wp2_with (go_at_call 103; refine (codePointV x hword _).mono ?_; rintro e w1 ⟨rfl, hf1⟩; obtain ⟨hc2, hf2⟩ := HST.out w1 hf1)
      refine ⟨⟨k + 1, by go_num, by omega, ?_⟩, by simp [intOf]; omega⟩
      have hw1 := (hf1.block _ (lt_of HB1.out) id).trans HB1.out
      have hw2 := (hf1.block _ (lt_of HB2.out) id).trans HB2.out
      refine ⟨?_, ?_, ?_⟩
      · rw [set_other (by omega)]; exact hw1
      · rw [set_of hw2, ← HV.out, filled_step _ _ _ hlt (by simp)]
      · refine Fr.setCell ?_ _ _ (fun h => by have : w.heap.size + 1 < w.heap.size := h; omega)
        exact hfr.trans hf1 (fun _ _ h => h)
    · obtain rfl : k = ws.length := by omega
      go_wp2
      go_ret
      refine ⟨w.heap.size + 1, rfl, by omega, ?_, hfr⟩
      rw [hb2, filled_all _ _ (by simp)]

theorem codePoints_none (t : ByteArray) (w : World) (hdash : (t.toList == [45]) = true) :
    Calls Tryz.prog 102 #[.string t] w fun e w' => e = .returned (.slice none 0 0) ∧ w' = w := by
  go_enter Tryz.func102, Tryz.ntmps102
  go_wp2_with fail
  go_ret
  exact ⟨rfl, rfl⟩

/-- A field of the table's text: a hyphen alone, or words that spell code points. -/
def fieldWords (t : List UInt8) : List ByteArray := if t == [45] then [] else (cutAt 43 t).map (fun l => (⟨l.toArray⟩ : ByteArray))
def isField (t : List UInt8) : Bool := t == [45] || (decide (t.length < 1000) && decide ((fieldWords t).length ≤ 1000) && (fieldWords t).all isWord)

/-- The row of a field. -/
theorem codePointsV (t : List UInt8) (m : Int) (w : World) (h : isField t = true) (hm : w.cell? ⟨6, 0, none⟩ = some (.int .i64 m)) :
    Calls Tryz.prog 102 #[.string ⟨t.toArray⟩] w fun e w' => ∃ a n c, e = .returned (.slice a n c) ∧ Shows w' .i32 (.slice a n c) (Value.slice a n c).ownBlock ((fieldWords t).map wordVal) ∧ n = (fieldWords t).length ∧ (∀ x, (Value.slice a n c).ownBlock = some x → w.heap.size ≤ x) ∧ Fr (fun _ => False) w w' := by
  have et : (⟨t.toArray⟩ : ByteArray).toList = t := by rw [Lib.toList_data]
  by_cases hd : (t == [45]) = true
  · refine (codePoints_none ⟨t.toArray⟩ w (by rw [et]; exact hd)).mono ?_
    rintro e w' ⟨rfl, rfl⟩
    have e1 : fieldWords t = [] := by unfold fieldWords; rw [if_pos hd]
    rw [e1]
    exact ⟨none, 0, 0, rfl, .inl ⟨rfl, .inl rfl⟩, rfl, fun x hx => by simp [Value.ownBlock] at hx, Fr.refl _ _⟩
  · have hd' : (t == [45]) = false := by simpa using hd
    unfold isField at h
    rw [hd'] at h
    simp only [Bool.false_or, Bool.and_eq_true, decide_eq_true_eq, List.all_eq_true] at h
    have e1 : fieldWords t = (cutAt 43 t).map (fun l => (⟨l.toArray⟩ : ByteArray)) := by unfold fieldWords; rw [if_neg hd]
    have hsz : (⟨t.toArray⟩ : ByteArray).size = t.length := by simp [ByteArray.size]
    refine (codePoints_some ⟨t.toArray⟩ (fieldWords t) m w (by rw [et]; exact hd') (by omega) hm (by rw [e1, List.length_map]; exact countB_cut 43 ⟨t.toArray⟩) (by rw [e1]; exact splitB_cut 43 ⟨t.toArray⟩) h.2 h.1.2).mono ?_
    rintro e w' ⟨g, rfl, hg, hb, hf⟩
    refine ⟨_, _, _, rfl, ?_, rfl, fun x hx => by simp [Value.ownBlock] at hx; omega, hf⟩
    right
    refine ⟨g, 0, _, _, _, rfl, by rw [List.length_map], hb, fun j hj => ?_⟩
    simp at hj
    simp [hj]

end Go.Proofs.YtmhaknejeobfgabGreatDoor

/- Data. -/
namespace Go.Proofs.YtmhaknejeobfgabGreatDoor

/-- The text of the table. -/
def dataText : List UInt8 := [
  48, 48, 65, 48, 32, 48, 32, 107, 32, 48, 48, 50, 48, 32, 45, 10, 48, 48, 66, 50, 32, 48, 32, 107, 32, 48, 48, 51, 50, 32, 45, 10, 48, 48, 66, 68, 32, 48, 32, 107,
  32, 48, 48, 51, 49, 43, 50, 48, 52, 52, 43, 48, 48, 51, 50, 32, 45, 10, 48, 48, 67, 48, 32, 48, 32, 99, 32, 48, 48, 52, 49, 43, 48, 51, 48, 48, 32, 48, 48, 69,
  48, 10, 48, 48, 67, 49, 32, 48, 32, 99, 32, 48, 48, 52, 49, 43, 48, 51, 48, 49, 32, 48, 48, 69, 49, 10, 48, 48, 67, 53, 32, 48, 32, 99, 32, 48, 48, 52, 49, 43,
  48, 51, 48, 65, 32, 48, 48, 69, 53, 10, 48, 48, 67, 55, 32, 48, 32, 99, 32, 48, 48, 52, 51, 43, 48, 51, 50, 55, 32, 48, 48, 69, 55, 10, 48, 48, 68, 70, 32, 48,
  32, 45, 32, 45, 32, 48, 48, 55, 51, 43, 48, 48, 55, 51, 10, 48, 48, 69, 48, 32, 48, 32, 99, 32, 48, 48, 54, 49, 43, 48, 51, 48, 48, 32, 45, 10, 48, 48, 69, 49,
  32, 48, 32, 99, 32, 48, 48, 54, 49, 43, 48, 51, 48, 49, 32, 45, 10, 48, 48, 69, 53, 32, 48, 32, 99, 32, 48, 48, 54, 49, 43, 48, 51, 48, 65, 32, 45, 10, 48, 48,
  69, 55, 32, 48, 32, 99, 32, 48, 48, 54, 51, 43, 48, 51, 50, 55, 32, 45, 10, 48, 48, 69, 57, 32, 48, 32, 99, 32, 48, 48, 54, 53, 43, 48, 51, 48, 49, 32, 45, 10,
  48, 48, 70, 54, 32, 48, 32, 99, 32, 48, 48, 54, 70, 43, 48, 51, 48, 56, 32, 45, 10, 48, 49, 51, 48, 32, 48, 32, 99, 32, 48, 48, 52, 57, 43, 48, 51, 48, 55, 32,
  48, 48, 54, 57, 43, 48, 51, 48, 55, 10, 48, 49, 55, 70, 32, 48, 32, 107, 32, 48, 48, 55, 51, 32, 48, 48, 55, 51, 10, 48, 49, 70, 65, 32, 48, 32, 99, 32, 48, 48,
  67, 53, 43, 48, 51, 48, 49, 32, 48, 49, 70, 66, 10, 48, 49, 70, 66, 32, 48, 32, 99, 32, 48, 48, 69, 53, 43, 48, 51, 48, 49, 32, 45, 10, 48, 51, 48, 48, 32, 50,
  51, 48, 32, 45, 32, 45, 32, 45, 10, 48, 51, 48, 49, 32, 50, 51, 48, 32, 45, 32, 45, 32, 45, 10, 48, 51, 48, 50, 32, 50, 51, 48, 32, 45, 32, 45, 32, 45, 10, 48,
  51, 48, 55, 32, 50, 51, 48, 32, 45, 32, 45, 32, 45, 10, 48, 51, 48, 56, 32, 50, 51, 48, 32, 45, 32, 45, 32, 45, 10, 48, 51, 48, 65, 32, 50, 51, 48, 32, 45, 32,
  45, 32, 45, 10, 48, 51, 50, 51, 32, 50, 50, 48, 32, 45, 32, 45, 32, 45, 10, 48, 51, 50, 55, 32, 50, 48, 50, 32, 45, 32, 45, 32, 45, 10, 48, 51, 51, 56, 32, 49,
  32, 45, 32, 45, 32, 45, 10, 48, 51, 52, 52, 32, 50, 51, 48, 32, 99, 32, 48, 51, 48, 56, 43, 48, 51, 48, 49, 32, 45, 10, 48, 51, 52, 53, 32, 50, 52, 48, 32, 45,
  32, 45, 32, 48, 51, 66, 57, 10, 48, 51, 65, 51, 32, 48, 32, 45, 32, 45, 32, 48, 51, 67, 51, 10, 48, 51, 65, 57, 32, 48, 32, 45, 32, 45, 32, 48, 51, 67, 57, 10,
  48, 51, 67, 50, 32, 48, 32, 45, 32, 45, 32, 48, 51, 67, 51, 10, 48, 53, 66, 52, 32, 49, 52, 32, 45, 32, 45, 32, 45, 10, 48, 70, 55, 49, 32, 49, 50, 57, 32, 45,
  32, 45, 32, 45, 10, 48, 70, 55, 50, 32, 49, 51, 48, 32, 45, 32, 45, 32, 45, 10, 48, 70, 55, 51, 32, 48, 32, 99, 32, 48, 70, 55, 49, 43, 48, 70, 55, 50, 32, 45,
  10, 49, 69, 54, 49, 32, 48, 32, 99, 32, 48, 48, 55, 51, 43, 48, 51, 48, 55, 32, 45, 10, 49, 69, 57, 66, 32, 48, 32, 99, 32, 48, 49, 55, 70, 43, 48, 51, 48, 55,
  32, 49, 69, 54, 49, 10, 49, 69, 57, 69, 32, 48, 32, 45, 32, 45, 32, 48, 48, 55, 51, 43, 48, 48, 55, 51, 10, 49, 69, 65, 48, 32, 48, 32, 99, 32, 48, 48, 52, 49,
  43, 48, 51, 50, 51, 32, 49, 69, 65, 49, 10, 49, 69, 65, 49, 32, 48, 32, 99, 32, 48, 48, 54, 49, 43, 48, 51, 50, 51, 32, 45, 10, 49, 69, 65, 67, 32, 48, 32, 99,
  32, 49, 69, 65, 48, 43, 48, 51, 48, 50, 32, 49, 69, 65, 68, 10, 49, 69, 65, 68, 32, 48, 32, 99, 32, 49, 69, 65, 49, 43, 48, 51, 48, 50, 32, 45, 10, 49, 70, 66,
  51, 32, 48, 32, 99, 32, 48, 51, 66, 49, 43, 48, 51, 52, 53, 32, 48, 51, 66, 49, 43, 48, 51, 66, 57, 10, 50, 49, 50, 54, 32, 48, 32, 99, 32, 48, 51, 65, 57, 32,
  48, 51, 67, 57, 10, 50, 49, 50, 65, 32, 48, 32, 99, 32, 48, 48, 52, 66, 32, 48, 48, 54, 66, 10, 50, 49, 50, 66, 32, 48, 32, 99, 32, 48, 48, 67, 53, 32, 48, 48,
  69, 53, 10, 50, 52, 54, 48, 32, 48, 32, 107, 32, 48, 48, 51, 49, 32, 45, 10, 51, 48, 57, 57, 32, 56, 32, 45, 32, 45, 32, 45, 10, 51, 48, 57, 65, 32, 56, 32, 45,
  32, 45, 32, 45, 10, 51, 48, 68, 48, 32, 48, 32, 99, 32, 51, 48, 67, 70, 43, 51, 48, 57, 57, 32, 45, 10, 51, 48, 68, 49, 32, 48, 32, 99, 32, 51, 48, 67, 70, 43,
  51, 48, 57, 65, 32, 45, 10, 51, 51, 48, 48, 32, 48, 32, 107, 32, 51, 48, 65, 50, 43, 51, 48, 68, 49, 43, 51, 48, 70, 67, 43, 51, 48, 67, 56, 32, 45, 10, 70, 66,
  48, 49, 32, 48, 32, 107, 32, 48, 48, 54, 54, 43, 48, 48, 54, 57, 32, 48, 48, 54, 54, 43, 48, 48, 54, 57, 10, 70, 68, 70, 65, 32, 48, 32, 107, 32, 48, 54, 51, 53,
  43, 48, 54, 52, 52, 43, 48, 54, 52, 57, 43, 48, 48, 50, 48, 43, 48, 54, 50, 55, 43, 48, 54, 52, 52, 43, 48, 54, 52, 52, 43, 48, 54, 52, 55, 43, 48, 48, 50, 48,
  43, 48, 54, 51, 57, 43, 48, 54, 52, 52, 43, 48, 54, 52, 65, 43, 48, 54, 52, 55, 43, 48, 48, 50, 48, 43, 48, 54, 52, 56, 43, 48, 54, 51, 51, 43, 48, 54, 52, 52,
  43, 48, 54, 52, 53, 32, 45, 10, 70, 70, 50, 49, 32, 48, 32, 107, 32, 48, 48, 52, 49, 32, 70, 70, 52, 49, 10, 70, 70, 52, 49, 32, 48, 32, 107, 32, 48, 48, 54, 49,
  32, 45, 10, 70, 70, 57, 69, 32, 48, 32, 107, 32, 51, 48, 57, 57, 32, 45, 10, 49, 68, 49, 53, 69, 32, 48, 32, 99, 32, 49, 68, 49, 53, 55, 43, 49, 68, 49, 54, 53,
  32, 45, 10, 49, 68, 49, 54, 53, 32, 50, 49, 54, 32, 45, 32, 45, 32, 45, 10, 49, 68, 52, 48, 48, 32, 48, 32, 107, 32, 48, 48, 52, 49, 32, 45, 10]

/-- A line that reads as a row. -/
def lineIs (l : List UInt8) (r : Fact) : Bool :=
  l.all (fun b => decide (b.toNat < 128)) && decide (l.length < 1000) &&
  match Lib.fields l with
  | [f0, f1, f2, f3, f4] => isWord ⟨f0.toArray⟩ && wordVal ⟨f0.toArray⟩ == r.cp && decide (f1.length ≤ 18) && Lib.atoi f1 == some r.cls && (f2 == [107]) == r.compat && isField f3 && (fieldWords f3).map wordVal == r.parts && isField f4 && (fieldWords f4).map wordVal == r.fold
  | _ => false

def linesAre : List (List UInt8) → List Fact → Bool
  | [l], [] => l == []
  | l :: ls, r :: rs => lineIs l r && linesAre ls rs
  | _, _ => false

theorem lines_are : linesAre (cutAt 10 dataText) facts = true := by decide +kernel

end Go.Proofs.YtmhaknejeobfgabGreatDoor

/- Env. -/
namespace Go.Proofs.YtmhaknejeobfgabGreatDoor
open Go.RowKit

structure Env (w : World) : Prop where
  size : 11 ≤ w.heap.size
  maxLen : ∃ m, w.cell? ⟨6, 0, none⟩ = some (.int .i64 m)
  space : Lib.TabIs Tryz.prog w "strings.asciiSpace" .u8 Lib.asciiSpaceTab
  utf8 : Lib.Utf8Tabs 0 1 w

theorem Env.kept {w w' : World} (h : Env w) {S : Nat → Prop} (hf : Fr S w w') (hS : ∀ k, k < 11 → ¬ S k) : Env w' := by
  have hsz := h.size
  have hb : Below 11 w w' := ⟨hf.os, hf.tape, hf.output, hf.size, fun k hk => hf.block k (by omega) (hS k hk)⟩
  have hc : ∀ b o, b < 11 → w'.cell? ⟨b, o, none⟩ = w.cell? ⟨b, o, none⟩ := fun b o hlt => hb.cell (p := ⟨b, o, none⟩) hlt
  refine ⟨by have := hf.size; omega, ?_, ?_, ?_, ?_⟩
  · obtain ⟨m, hm⟩ := h.maxLen
    exact ⟨m, (hc _ _ (by omega)).trans hm⟩
  · exact var?_below hb (g := 2) (by kernel_rfl) (by omega) h.space
  · intro c hlt
    exact (hc _ _ (by omega)).trans (h.utf8.1 c hlt)
  · intro i hi
    exact ⟨(hc _ _ (by omega)).trans (h.utf8.2 i hi).1, (hc _ _ (by omega)).trans (h.utf8.2 i hi).2⟩

theorem Env.drewN {w : World} (h : Env w) (q : Nat) : Env (w.drewN q) := ⟨h.size, h.maxLen, h.space, h.utf8⟩

end Go.Proofs.YtmhaknejeobfgabGreatDoor

/- MapIs. -/
namespace Go.Proofs.YtmhaknejeobfgabGreatDoor
open Go.RowKit

/-- An element is read as itself. -/
def rdEntry (v : Value) : Option (DataW Value × List MemPlace) := some (.held v, [])

/-- The element of a key that is not there. -/
def zeroEntry : Value := .agg #[.int .i64 0, .bool false, .slice none 0 0, .slice none 0 0]

theorem zeroEntry_run (w : World) : (zeroValue 174).run Tryz.prog w = .ok zeroEntry w := by kernel_rfl

theorem runeKeyed : Go.Maps.Keyed Tryz.prog 21 := Go.Maps.int_keyed Tryz.underlying21

/-- Block B is a map of at most n entries; what stands at a key f tells. -/
def MapIs (w : World) (B n : Nat) (f : Int → Option Value) : Prop :=
  ∃ D : DataW Value, w.ownsMap Tryz.prog 21 rdEntry B n D ∧ ∀ c, D.atKey (.int .i32 c) (.held zeroEntry) = .held ((f c).getD zeroEntry)

theorem MapIs.lt {w : World} {B n : Nat} {f : Int → Option Value} (h : MapIs w B n f) : B < w.heap.size := by
  obtain ⟨D, h, _⟩ := h
  exact h.lt

theorem MapIs.made (w : World) : MapIs (w.alloc (.map #[] 0)) w.heap.size 0 (fun _ => none) :=
  ⟨.map [], World.ownsMap_made w _ _ _, fun _ => rfl⟩

theorem MapIs.kept {w w' : World} {B n : Nat} {f : Int → Option Value} (h : MapIs w B n f) {S : Nat → Prop} (hf : Fr S w w') (hS : ¬ S B) : MapIs w' B n f := by
  obtain ⟨D, ⟨es, clock, hb, r⟩, h2⟩ := h
  exact ⟨D, ⟨es, clock, by rw [hf.block B (lt_of hb) hS]; exact hb, r⟩, h2⟩

theorem MapIs.mono {w : World} {B n n' : Nat} {f : Int → Option Value} (h : MapIs w B n f) (hn : n ≤ n') : MapIs w B n' f := by
  obtain ⟨D, h, h2⟩ := h
  exact ⟨D, h.mono hn, h2⟩

theorem wf_rune {c : Int} (h0 : -2147483648 ≤ c) (h1 : c ≤ 2147483647) : (Lit.int .i32 c).wf = true := by
  have e0 : IntKind.i32.min = -2147483648 := by decide
  have e1 : IntKind.i32.max = 2147483647 := by decide
  simp only [Lit.wf, Bool.and_eq_true, decide_eq_true_eq]
  omega

theorem MapIs.lookup {w : World} {B n : Nat} {f : Int → Option Value} (h : MapIs w B n f) {c : Int} (h0 : -2147483648 ≤ c) (h1 : c ≤ 2147483647) :
    (Instr.lookup 102 (.map (some B)) (.int .i32 c) false).run Tryz.prog w = .ok ((f c).getD zeroEntry) w := by
  obtain ⟨D, ho, hf⟩ := h
  obtain ⟨v, ps, hrun, hv⟩ := ho.lookup runeKeyed (t := 102) (e := 174) Tryz.underlying102 (zeroEntry_run w) (zd := .held zeroEntry) (zp := []) rfl (Go.Maps.keyOf_int_mk Tryz.underlying21 (wf_rune h0 h1))
  rw [hf c] at hv
  unfold rdEntry at hv
  simp at hv
  rw [hrun, hv.1]

theorem MapIs.update {w : World} {B n : Nat} {f : Int → Option Value} (h : MapIs w B n f) (hn : n < 1000) {c : Int} (h0 : -2147483648 ≤ c) (h1 : c ≤ 2147483647) (v : Value) :
    ∃ w', (Instr.mapUpdate 102 (.map (some B)) (.int .i32 c) v).run Tryz.prog w = .ok () w' ∧ MapIs w' B (n + 1) (fun x => if x = c then some v else f x) ∧ Fr (fun x => x = B) w w' := by
  obtain ⟨D, ho, hf⟩ := h
  obtain ⟨w', hrun, ho', hg⟩ := ho.update runeKeyed (t := 102) (e := 174) Tryz.underlying102 (by unfold maxLen; omega) (val := v) (d := .held v) (ps := []) (Go.Maps.keyOf_int_mk Tryz.underlying21 (wf_rune h0 h1)) rfl
  refine ⟨w', hrun, ⟨_, ho', fun x => ?_⟩, ⟨hg.os, hg.tape, hg.output, hg.size, fun k hk hn => hg.block k hk (fun e => hn (by simpa using e))⟩⟩
  by_cases hx : x = c
  · subst hx
    rw [Go.Maps.atKey_put_same (k := .int .i32 x) ho.isMap trivial]
    simp
  · rw [Go.Maps.atKey_put_other (k := .int .i32 c) (k' := .int .i32 x) (by intro e; simp at e; exact hx e)]
    simpa [hx] using hf x

end Go.Proofs.YtmhaknejeobfgabGreatDoor

/- TableNew. -/
namespace Go.Proofs.YtmhaknejeobfgabGreatDoor
open Go.RowKit
attribute [local go_sem ↓] Go.wp_at_zero Go.wp_at_succ


theorem look_snoc (l : List Fact) (r : Fact) (c : Int) : look (l ++ [r]) c = if r.cp = c then some r else look l c := by
  unfold look; rw [List.foldl_append]; rfl

/-- What stands in the map at a code point of that row. -/
def EntryIs (w : World) (base : Nat) (v : Option Value) : Option Fact → Prop
  | none => v = none
  | some r => ∃ p q, v = some (.agg #[.int .i64 r.cls, .bool r.compat, p, q]) ∧ Shows w .i32 p p.ownBlock r.parts ∧ Shows w .i32 q q.ownBlock r.fold ∧ (∀ x, p.ownBlock = some x → base ≤ x) ∧ (∀ x, q.ownBlock = some x → base ≤ x)

theorem Shows.kept {w w' : World} {k : IntKind} {v : Value} {g : Option Nat} {xs : List Int} (h : Shows w k v g xs) {S : Nat → Prop} (hf : Fr S w w') (hg : ∀ x, g = some x → ¬ S x) : Shows w' k v g xs := by
  rcases h with h | ⟨x, o, c, cur, e, hgx, hv, hb, hc⟩
  · exact .inl h
  · exact .inr ⟨x, o, c, cur, e, hgx, hv, by rw [hf.block x (lt_of hb) (hg x hgx)]; exact hb, hc⟩

theorem EntryIs.kept {w w' : World} {base : Nat} {v : Option Value} {r : Option Fact} (h : EntryIs w base v r) {S : Nat → Prop} (hf : Fr S w w') (hS : ∀ x, base ≤ x → ¬ S x) : EntryIs w' base v r := by
  cases r with
  | none => exact h
  | some r =>
    obtain ⟨p, q, h1, h2, h3, h4, h5⟩ := h
    exact ⟨p, q, h1, h2.kept hf (fun x hx => hS x (h4 x hx)), h3.kept hf (fun x hx => hS x (h5 x hx)), h4, h5⟩

theorem EntryIs.base {w : World} {base base' : Nat} {v : Option Value} {r : Option Fact} (h : EntryIs w base v r) (hb : base' ≤ base) : EntryIs w base' v r := by
  cases r with
  | none => exact h
  | some r =>
    obtain ⟨p, q, h1, h2, h3, h4, h5⟩ := h
    exact ⟨p, q, h1, h2, h3, fun x hx => Nat.le_trans hb (h4 x hx), fun x hx => Nat.le_trans hb (h5 x hx)⟩

theorem linesAre_get : ∀ (ls : List (List UInt8)) (rs : List Fact), linesAre ls rs = true → ls.length = rs.length + 1 ∧ (∀ (k : Nat) (l : List UInt8) (r : Fact), ls[k]? = some l → rs[k]? = some r → lineIs l r = true) ∧ ls[rs.length]? = some []
  | [], rs, h => by cases rs <;> simp [linesAre] at h
  | [l], [], h => by
    have : l = [] := by simpa [linesAre] using h
    subst this
    exact ⟨rfl, by intro k l r _ hr; simp at hr, rfl⟩
  | l :: l' :: ls, [], h => by simp [linesAre] at h
  | l :: ls, r :: rs, h => by
    have h' : lineIs l r = true ∧ linesAre ls rs = true := by
      cases ls with
      | nil => simp [linesAre] at h
      | cons l2 ls => simpa [linesAre] using h
    obtain ⟨h1, h2, h3⟩ := linesAre_get ls rs h'.2
    refine ⟨by simp [h1], ?_, by simpa using h3⟩
    intro k a b ha hb
    cases k with
    | zero =>
      simp at ha hb
      rw [← ha, ← hb]; exact h'.1
    | succ k => exact h2 k a b (by simpa using ha) (by simpa using hb)

theorem lines_facts : (cutAt 10 dataText).length = 62 ∧ facts.length = 61 := by
  have h := (linesAre_get _ _ lines_are).1
  have h2 : facts.length = 61 := rfl
  omega

end Go.Proofs.YtmhaknejeobfgabGreatDoor

/- TableN2. -/
namespace Go.Proofs.YtmhaknejeobfgabGreatDoor
open Go.RowKit
attribute [local go_sem ↓] Go.wp_at_zero Go.wp_at_succ

theorem Fr.of_drew {S : Nat → Prop} {w w' : World} (h : Fr S w.drew w') : Fr S w w' := ⟨h.os, h.tape, h.output, h.size, h.block⟩

theorem wordVal_range {x : ByteArray} (h : isWord x = true) : 0 ≤ wordVal x ∧ wordVal x < 16777216 := by
  unfold isWord at h
  simp only [Bool.and_eq_true, decide_eq_true_eq, List.all_eq_true] at h
  have := hexVal_small x.data.toList h.2 (by have := Lib.size_eq x; omega)
  unfold wordVal
  omega

theorem splitData (s : ByteArray) (hs : s = ⟨dataText.toArray⟩) (w : World) (hE : Env w) :
    Calls Tryz.prog 99 #[.string s, .string ⟨#[10]⟩] w fun e w' => e = .returned (.slice (some ⟨w.heap.size, 0, none⟩) 62 62) ∧ w' = w.alloc (.cells ((cutAt 10 dataText).map (fun l => Value.string ⟨l.toArray⟩)).toArray 9) := by
  subst hs
  obtain ⟨m, hm⟩ := hE.maxLen
  have h := Tryz.strings_Split ⟨dataText.toArray⟩ ⟨#[10]⟩ m w (by show dataText.toArray.size < _; decide +kernel) hm (Nat.le_refl 1)
  rw [splitB_cut, countB_cut] at h
  have e1 : (cutAt 10 (⟨dataText.toArray⟩ : ByteArray).data.toList) = cutAt 10 dataText := rfl
  rw [e1, lines_facts.1, List.map_map] at h
  exact h

theorem lineIs_parts {l : List UInt8} {r : Fact} (h : lineIs l r = true) : ∃ f0 f1 f2 f3 f4, l.length < 1000 ∧ l.all (fun b => decide (b.toNat < 128)) = true ∧ Lib.fields l = [f0, f1, f2, f3, f4] ∧
    isWord ⟨f0.toArray⟩ = true ∧ wordVal ⟨f0.toArray⟩ = r.cp ∧ f1.length ≤ 18 ∧ Lib.atoi f1 = some r.cls ∧ (f2 == [107]) = r.compat ∧ True ∧ (isField f3 = true ∧ (fieldWords f3).map wordVal = r.parts) ∧ (isField f4 = true ∧ (fieldWords f4).map wordVal = r.fold) := by
  unfold lineIs at h
  rw [Bool.and_eq_true, Bool.and_eq_true] at h
  obtain ⟨⟨ha, hl⟩, h⟩ := h
  split at h
  · rename_i f0 f1 f2 f3 f4 hf
    simp only [Bool.and_eq_true, decide_eq_true_eq, beq_iff_eq] at h
    obtain ⟨⟨⟨⟨⟨⟨⟨⟨h0, h1⟩, h2⟩, h3⟩, h4⟩, h5⟩, h6⟩, h7⟩, h8⟩ := h
    exact ⟨f0, f1, f2, f3, f4, of_decide_eq_true hl, ha, hf, h0, h1, h2, h3, h4, trivial, ⟨h5, h6⟩, ⟨h7, h8⟩⟩
  · cases h

theorem fieldsV (l : List UInt8) (fs : List (List UInt8)) (w : World) (hE : Env w) (hl : l.length < 1000) (ha : l.all (fun b => decide (b.toNat < 128)) = true) (hf : Lib.fields l = fs) :
    Calls Tryz.prog 100 #[.string ⟨l.toArray⟩] w fun e w' => e = .returned (.slice (some ⟨w.heap.size, 0, none⟩) fs.length fs.length) ∧ w' = w.alloc (.cells (fs.map fun l => Value.string ⟨l.toArray⟩).toArray 9) := by
  have h := Tryz.strings_Fields ⟨l.toArray⟩ w (by show l.toArray.size < _; simp; omega) (by
    intro j b hb
    have : b ∈ l := List.mem_of_getElem? hb
    exact of_decide_eq_true (List.all_eq_true.1 ha b this)) hE.space
  have e1 : (⟨l.toArray⟩ : ByteArray).data.toList = l := rfl
  rw [e1, hf] at h
  exact h

/-- Five texts in a row. -/
def Five (W : World) (g : Nat) (f0 f1 f2 f3 f4 : List UInt8) : Prop := W.heap[g]? = some (.cells #[.string ⟨f0.toArray⟩, .string ⟨f1.toArray⟩, .string ⟨f2.toArray⟩, .string ⟨f3.toArray⟩, .string ⟨f4.toArray⟩] 9 (0, 0))

theorem Five.kept {W W' : World} {g : Nat} {f0 f1 f2 f3 f4 : List UInt8} (h : Five W g f0 f1 f2 f3 f4) (hf : Fr (fun _ => False) W W') : Five W' g f0 f1 f2 f3 f4 := (hf.block g (lt_of h) id).trans h

theorem Five.cells {W : World} {g : Nat} {f0 f1 f2 f3 f4 : List UInt8} (h : Five W g f0 f1 f2 f3 f4) : W.cell? ⟨g, 0, none⟩ = some (.string ⟨f0.toArray⟩) ∧ W.cell? ⟨g, 1, none⟩ = some (.string ⟨f1.toArray⟩) ∧ W.cell? ⟨g, 2, none⟩ = some (.string ⟨f2.toArray⟩) ∧ W.cell? ⟨g, 3, none⟩ = some (.string ⟨f3.toArray⟩) ∧ W.cell? ⟨g, 4, none⟩ = some (.string ⟨f4.toArray⟩) :=
  ⟨cell_of h rfl, cell_of h rfl, cell_of h rfl, cell_of h rfl, cell_of h rfl⟩

theorem fields5 (l f0 f1 f2 f3 f4 : List UInt8) (w : World) (hE : Env w) (hl : l.length < 1000) (ha : l.all (fun b => decide (b.toNat < 128)) = true) (hf : Lib.fields l = [f0, f1, f2, f3, f4]) :
    Calls Tryz.prog 100 #[.string ⟨l.toArray⟩] w fun e w' => ∃ g, e = .returned (.slice (some ⟨g, 0, none⟩) 5 5) ∧ w.heap.size ≤ g ∧ Five w' g f0 f1 f2 f3 f4 ∧ Fr (fun _ => False) w w' := by
  refine (fieldsV l _ w hE hl ha hf).mono ?_
  rintro e w' ⟨rfl, rfl⟩
  exact ⟨w.heap.size, rfl, Nat.le_refl _, heap_alloc_new w _, (Fr.refl _ _).alloc _⟩

theorem codePointsE (t : List UInt8) (w : World) (h : isField t = true) (hE : Env w) :
    Calls Tryz.prog 102 #[.string ⟨t.toArray⟩] w fun e w' => ∃ a n c, e = .returned (.slice a n c) ∧ Shows w' .i32 (.slice a n c) (Value.slice a n c).ownBlock ((fieldWords t).map wordVal) ∧ (∀ x, (Value.slice a n c).ownBlock = some x → w.heap.size ≤ x) ∧ Fr (fun _ => False) w w' := by
  obtain ⟨m, hm⟩ := hE.maxLen
  refine (codePointsV t m w h hm).mono ?_
  rintro e w' ⟨a, n, c, rfl, h1, _, h3, h4⟩
  exact ⟨a, n, c, rfl, h1, h3, h4⟩

theorem atoiV (f : List UInt8) (n : Int) (w : World) (hl : f.length ≤ 18) (h : Lib.atoi f = some n) :
    Calls Tryz.prog 101 #[.string ⟨f.toArray⟩] w fun e w' => e = .returned (.tuple #[.int .i64 n, .nilIface]) ∧ Fr (fun _ => False) w w' := by
  refine (Tryz.strconv_Atoi ⟨f.toArray⟩ n (by show f.toArray.size ≤ _; simpa using hl) h w).mono ?_
  rintro e w' ⟨rfl, t, rfl⟩
  exact ⟨rfl, bytesWorld_fr _ _ _⟩

set_option maxHeartbeats 6400000 in
set_option maxRecDepth 100000 in
theorem parse_calls (s : ByteArray) (hs : s = ⟨dataText.toArray⟩) (w : World) (hE : Env w) :
    Calls Tryz.prog 76 #[.string s] w fun e w' => ∃ B f, e = .returned (.map (some B)) ∧ w.heap.size ≤ B ∧ MapIs w' B 100 f ∧ (∀ c, EntryIs w' w.heap.size (f c) (look facts c)) ∧ Fr (fun _ => False) w w' := by
  have hmm : ∀ w, (Instr.makeMap 102 (some (.int .i64 62))).run Tryz.prog w = .ok (.map (some w.heap.size)) (w.alloc (.map #[] 0)) := fun w => by kernel_rfl
  have HE : Hid (Env w) := hE
  have HS : Hid (s = ⟨dataText.toArray⟩) := hs
  clear hE hs
  go_enter Tryz.func76, Tryz.ntmps76
  go_wp2_with (go_at_call 99; refine (splitData _ HS.out _ HE.out).mono ?_; rintro e w' ⟨rfl, rfl⟩)
  go_loopw [17] (fun vi wr => ∃ k : Nat, vi = .int .i64 k ∧ k ≤ 62 ∧ Hid (∃ f, wr.heap[w.heap.size]? = some (.cells ((cutAt 10 dataText).map (fun l => Value.string ⟨l.toArray⟩)).toArray 9 (0, 0)) ∧ MapIs wr (w.heap.size + 1) k f ∧ (∀ c, EntryIs wr (w.heap.size + 2) (f c) (look (facts.take k) c)) ∧ Fr (fun _ => False) w wr ∧ w.heap.size + 2 ≤ wr.heap.size))
    (fun vi _ => 62 - (intOf vi).toNat)
  case atStart =>
    refine ⟨0, rfl, Nat.zero_le _, fun _ => none, ?_, ?_, ?_, ?_, ?_⟩
    · rw [Below.heap_alloc _ _ _ (by simp)]
      exact heap_alloc_new w _
    · have := MapIs.made (w.alloc (.cells ((cutAt 10 dataText).map (fun l => Value.string ⟨l.toArray⟩)).toArray 9))
      simpa using this
    · intro c; rfl
    · exact ((Fr.refl _ _).alloc _).alloc _
    · simp
  case round =>
    obtain ⟨k, rfl, hk, hh⟩ := hrel
    by_cases hlt : k < 61
    · obtain ⟨r, hr⟩ : ∃ r, facts[k]? = some r := ⟨_, List.getElem?_eq_getElem (by rw [lines_facts.2]; exact hlt)⟩
      obtain ⟨l, hl⟩ : ∃ l, (cutAt 10 dataText)[k]? = some l := ⟨_, List.getElem?_eq_getElem (by rw [lines_facts.1]; omega)⟩
      have hline := (linesAre_get _ _ lines_are).2.1 k l r hl hr
      obtain ⟨f0, f1, f2, f3, f4, hlen, hasc, hfs, b0, b1, b2, b3, b4, b5, b6, b7⟩ := lineIs_parts hline
      obtain ⟨f, h1, h2, h3, h4, h5⟩ := hh.out
      have hcell := cell_of h1 (o := k) (v := .string ⟨l.toArray⟩) (by simp [hl])
      have hEr : Env wr := HE.out.kept h4 (fun _ _ h => h)
      have HH1 : Hid (wr.heap[w.heap.size]? = some (.cells ((cutAt 10 dataText).map (fun l => Value.string ⟨l.toArray⟩)).toArray 9 (0, 0))) := h1
      have HFS : Hid (Lib.fields l = [f0, f1, f2, f3, f4] ∧ l.all (fun b => decide (b.toNat < 128)) = true) := ⟨hfs, hasc⟩
      have HB : Hid (wordVal ⟨f0.toArray⟩ = r.cp ∧ Lib.atoi f1 = some r.cls ∧ (f2 == [107]) = r.compat ∧ (fieldWords f3).map wordVal = r.parts ∧ (fieldWords f4).map wordVal = r.fold) := ⟨b1, b3, b4, b6.2, b7.2⟩
      have HR : Hid (facts[k]? = some r) := hr
      clear hh h1 hl hr hline hfs hasc b1 b3 b4
      have b60 := b6.1
      have b70 := b7.1
      clear b6 b7
      have i0 : (0 : Int) ≤ (k : Int) := by omega
      have i1 : (k : Int) < 62 := by omega
      go_wp2_with (first | (go_at_call 100; refine (fields5 l f0 f1 f2 f3 f4 _ hEr hlen HFS.out.2 HFS.out.1).mono ?_; rintro e W1 ⟨g, rfl, hg, hF1, hfr1⟩; obtain ⟨c0, c1, c2, c3, c4⟩ := hF1.cells) | (go_at_call 101; refine (atoiV f1 r.cls _ b2 HB.out.2.1).mono ?_; rintro e W2 ⟨rfl, hfr2⟩; obtain ⟨d0, d1, d2, d3, d4⟩ := (hF1.kept hfr2).cells))
      have hE2 : Env W2 := (hEr.kept hfr1 (fun _ _ h => h)).kept hfr2 (fun _ _ h => h)
      have hF2 := hF1.kept hfr2
      have hgB : g ≠ w.heap.size + 1 := by omega
      have hmap2 : MapIs W2 (w.heap.size + 1) k f := (h2.kept hfr1 id).kept hfr2 id
      have HUP : Hid (∀ W5, Fr (fun _ => False) W2 W5 → ∀ p q : Value, ∃ W6, (Instr.mapUpdate 102 (.map (some (w.heap.size + 1))) (.int .i32 (wordVal ⟨f0.toArray⟩)) (.agg #[.int .i64 r.cls, .bool (f2 == [107]), p, q])).run Tryz.prog W5 = .ok () W6 ∧ MapIs W6 (w.heap.size + 1) (k + 1) (fun x => if x = wordVal ⟨f0.toArray⟩ then some (.agg #[.int .i64 r.cls, .bool (f2 == [107]), p, q]) else f x) ∧ Fr (fun x => x = w.heap.size + 1) W5 W6 ∧ Five W6 g f0 f1 f2 f3 f4) := by
        intro W5 hfr p q
        have hw := wordVal_range b0
        obtain ⟨W6, hrun, hm6, hf6⟩ := (hmap2.kept hfr id).update (by omega) (c := wordVal ⟨f0.toArray⟩) (by omega) (by omega) (.agg #[.int .i64 r.cls, .bool (f2 == [107]), p, q])
        exact ⟨W6, hrun, hm6, hf6, (hf6.block g (lt_of (hF2.kept hfr)) hgB).trans (hF2.kept hfr)⟩
      go_region_held3 (fun w' => w'.cell? ⟨g, 0, none⟩ = some (.string ⟨f0.toArray⟩) ∧ w'.cell? ⟨g, 2, none⟩ = some (.string ⟨f2.toArray⟩) ∧ w'.cell? ⟨g, 3, none⟩ = some (.string ⟨f3.toArray⟩) ∧ w'.cell? ⟨g, 4, none⟩ = some (.string ⟨f4.toArray⟩)) (go_keep)
        (first
          | (go_at_call 103; refine (codePointV ⟨f0.toArray⟩ b0 _).mono ?_; rintro e W3 ⟨rfl, hfr3d⟩; have hfr3 := Fr.of_drew hfr3d; clear hfr3d; obtain ⟨e0, e1, e2, e3, e4⟩ := (hF2.kept hfr3).cells)
          | (go_at_call_of 102 (Value.string ⟨f3.toArray⟩); refine (codePointsE f3 _ b60 (hE2.kept hfr3 (fun _ _ h => h))).mono ?_; rintro e W4 ⟨a3, n3, c3, rfl, hs3, hg3, hfr4⟩; obtain ⟨g0, g1, g2, g3, g4⟩ := ((hF2.kept hfr3).kept hfr4).cells)
          | (go_at_call_of 102 (Value.string ⟨f4.toArray⟩); refine (codePointsE f4 _ b70 ((hE2.kept hfr3 (fun _ _ h => h)).kept hfr4 (fun _ _ h => h))).mono ?_; rintro e W5 ⟨a4, n4, c4, rfl, hs4, hg4, hfr5⟩; obtain ⟨j0, j1, j2, j3, j4⟩ := (((hF2.kept hfr3).kept hfr4).kept hfr5).cells; obtain ⟨W6, hrun, hmap6, hfr6, hF6⟩ := HUP.out W5 (((hfr3.trans hfr4 (fun _ _ h => h)).trans hfr5 (fun _ _ h => h))) (.slice a3 n3 c3) (.slice a4 n4 c4); obtain ⟨m0, m1, m2, m3, m4⟩ := hF6.cells))
      go_wp2
      refine ⟨⟨k + 1, by go_num, by omega, ?_⟩, by simp [intOf]; omega⟩
      have hN : ∀ {S : Nat → Prop} {x y z : World}, Fr S x y → Fr S y z → Fr S x z := fun h h' => h.trans h' (fun _ _ h => h)
      have fA : Fr (fun _ => False) wr W5 := hN hfr1 (hN hfr2 (hN hfr3 (hN hfr4 hfr5)))
      have sz1 := hfr1.size
      have sz2 := hfr2.size
      have sz3 := hfr3.size
      have sz4 := hfr4.size
      have sz5 := hfr5.size
      have sz6 := hfr6.size
      have fB : Fr (fun x => x = w.heap.size + 1) wr W6 := (fA.mono (S' := fun x => x = w.heap.size + 1) (fun _ _ h => h.elim)).trans hfr6 (fun _ _ h => h)
      refine ⟨_, ?_, hmap6, ?_, ?_, by omega⟩
      · exact (fB.block _ (lt_of HH1.out) (by omega)).trans HH1.out
      · intro c
        have et : facts.take (k + 1) = facts.take k ++ [r] := by rw [List.take_add_one, HR.out]; rfl
        rw [et, look_snoc]
        by_cases hc : r.cp = c
        · rw [if_pos hc, HB.out.1, if_pos hc.symm]
          refine ⟨.slice a3 n3 c3, .slice a4 n4 c4, by rw [HB.out.2.2.1], ?_, ?_, fun x hx => ?_, fun x hx => ?_⟩
          · rw [← HB.out.2.2.2.1]
            refine (hs3.kept hfr5 (fun _ _ => id)).kept hfr6 (fun x hx => ?_)
            have := hg3 x hx
            omega
          · rw [← HB.out.2.2.2.2]
            refine hs4.kept hfr6 (fun x hx => ?_)
            have := hg4 x hx
            omega
          · have := hg3 x hx; omega
          · have := hg4 x hx; omega
        · rw [if_neg hc, HB.out.1, if_neg (fun h => hc h.symm)]
          exact (h3 c).kept fB (fun x hx => by omega)
      · refine h4.trans fB (fun i hi h => ?_)
        omega
    · by_cases hlt2 : k < 62
      · obtain rfl : k = 61 := by omega
        obtain ⟨f, h1, h2, h3, h4, h5⟩ := hh.out
        have hl : (cutAt 10 dataText)[61]? = some [] := by
          have h := (linesAre_get _ _ lines_are).2.2
          rw [lines_facts.2] at h
          exact h
        have hcell := cell_of h1 (o := 61) (v := .string ⟨#[]⟩) (by simp [hl])
        have hEr : Env wr := HE.out.kept h4 (fun _ _ h => h)
        have HH1 : Hid (wr.heap[w.heap.size]? = some (.cells ((cutAt 10 dataText).map (fun l => Value.string ⟨l.toArray⟩)).toArray 9 (0, 0))) := h1
        clear hh h1 hl
        go_wp2_with (go_at_call 100; refine (fieldsV [] [] _ hEr (by decide) rfl rfl).mono ?_; rintro e W1 ⟨rfl, rfl⟩)
        refine ⟨⟨62, by go_num, by omega, f, ?_, ?_, ?_, ?_, ?_⟩, by simp [intOf]⟩
        · rw [Below.heap_alloc _ _ _ (lt_of HH1.out)]; exact HH1.out
        · exact (h2.kept ((Fr.refl (fun _ => False) wr).alloc _) id).mono (by omega)
        · intro c
          have et : facts.take 62 = facts.take 61 := by rw [List.take_of_length_le (by rw [lines_facts.2]; omega), List.take_of_length_le (by rw [lines_facts.2]; omega)]
          rw [et]
          exact (h3 c).kept ((Fr.refl (fun _ => False) wr).alloc _) (fun _ _ => id)
        · exact h4.alloc _
        · simp; omega
      · obtain rfl : k = 62 := by omega
        go_wp2
        go_ret
        obtain ⟨f, h1, h2, h3, h4, h5⟩ := hh.out
        refine ⟨w.heap.size + 1, f, rfl, by omega, h2.mono (by omega), fun c => ?_, h4⟩
        have := h3 c
        rw [List.take_of_length_le (by rw [lines_facts.2]; omega)] at this
        exact this.base (by omega)

set_option maxRecDepth 100000 in
theorem new_calls (w : World) (hE : Env w) :
    Calls Tryz.prog 52 #[] w fun e w' => ∃ B f, e = .returned (.map (some B)) ∧ w.heap.size ≤ B ∧ MapIs w' B 100 f ∧ (∀ c, EntryIs w' w.heap.size (f c) (look facts c)) ∧ Fr (fun _ => False) w w' := by
  have HE : Hid (Env w) := hE
  clear hE
  go_enter Tryz.func52, Tryz.ntmps52
  go_wp2_with (go_at_call 76; refine (parse_calls _ (by kernel_rfl) _ HE.out).mono ?_; rintro e w' ⟨B, f, rfl, h1, h2, h3, h4⟩)
  go_ret
  exact ⟨B, f, rfl, h1, h2, h3, h4⟩

end Go.Proofs.YtmhaknejeobfgabGreatDoor

/- TabIn. -/
namespace Go.Proofs.YtmhaknejeobfgabGreatDoor
open Go.RowKit


/-- What stands at a key, all of it in blocks below hi. -/
def EntryIn (w : World) (hi : Nat) (v : Value) (c : Int) : Prop :=
  ∃ p q gp gq, v = .agg #[.int .i64 (clsOf c), .bool (compatOf c), p, q] ∧ Shows w .i32 p gp (rawParts c) ∧ Shows w .i32 q gq (rawFold c) ∧ (∀ x, gp = some x → x < hi) ∧ (∀ x, gq = some x → x < hi)

/-- Block B is the table, all of it in blocks below hi. -/
def TabIn (w : World) (hi B : Nat) : Prop := ∃ f, MapIs w B 100 f ∧ B < hi ∧ ∀ c, EntryIn w hi ((f c).getD zeroEntry) c

theorem Shows.low {w : World} {k : IntKind} {v : Value} {g : Option Nat} {xs : List Int} (h : Shows w k v g xs) : ∃ g', Shows w k v g' xs ∧ ∀ x, g' = some x → x < w.heap.size := by
  rcases h with ⟨h1, h2⟩ | ⟨x, o, c, cur, e, hg, hv, hb, hc⟩
  · exact ⟨none, .inl ⟨h1, h2⟩, fun x hx => by cases hx⟩
  · exact ⟨some x, .inr ⟨x, o, c, cur, e, rfl, hv, hb, hc⟩, fun y hy => by cases hy; exact lt_of hb⟩

theorem TabIn.made {w w' : World} {B : Nat} {f : Int → Option Value} (h : MapIs w' B 100 f) (he : ∀ c, EntryIs w' w.heap.size (f c) (look facts c)) : TabIn w' w'.heap.size B := by
  refine ⟨f, h, h.lt, fun c => ?_⟩
  have hc := he c
  unfold EntryIn clsOf compatOf rawParts rawFold
  cases hl : look facts c with
  | none =>
    rw [hl] at hc
    have hn : f c = none := hc
    rw [hn]
    exact ⟨.slice none 0 0, .slice none 0 0, none, none, rfl, .inl ⟨rfl, .inl rfl⟩, .inl ⟨rfl, .inl rfl⟩, fun x hx => (by cases hx), fun x hx => (by cases hx)⟩
  | some r =>
    rw [hl] at hc
    obtain ⟨p, q, h1, h2, h3, _, _⟩ := hc
    obtain ⟨gp, h4, h5⟩ := h2.low
    obtain ⟨gq, h6, h7⟩ := h3.low
    rw [h1]
    exact ⟨p, q, gp, gq, rfl, h4, h6, h5, h7⟩

theorem TabIn.kept {w w' : World} {hi B : Nat} (h : TabIn w hi B) {S : Nat → Prop} (hf : Fr S w w') (hS : ∀ x, x < hi → ¬ S x) : TabIn w' hi B := by
  obtain ⟨f, h1, h2, h3⟩ := h
  refine ⟨f, h1.kept hf (hS B h2), h2, fun c => ?_⟩
  obtain ⟨p, q, gp, gq, e1, e2, e3, e4, e5⟩ := h3 c
  exact ⟨p, q, gp, gq, e1, e2.kept hf (fun x hx => hS x (e4 x hx)), e3.kept hf (fun x hx => hS x (e5 x hx)), e4, e5⟩

theorem TabIn.drewN {w : World} {hi B : Nat} (h : TabIn w hi B) (q : Nat) : TabIn (w.drewN q) hi B := h.kept (S := fun _ => False) ((Fr.refl _ _).drewN q) (fun _ _ => id)

/-- A look-up. -/
theorem TabIn.at {w : World} {hi B : Nat} (h : TabIn w hi B) {c : Int} (h0 : -2147483648 ≤ c) (h1 : c ≤ 2147483647) :
    ∃ p q gp gq, (Instr.lookup 102 (.map (some B)) (.int .i32 c) false).run Tryz.prog w = .ok (.agg #[.int .i64 (clsOf c), .bool (compatOf c), p, q]) w ∧ Shows w .i32 p gp (rawParts c) ∧ Shows w .i32 q gq (rawFold c) ∧ (∀ x, gp = some x → x < hi) ∧ (∀ x, gq = some x → x < hi) := by
  obtain ⟨f, h2, h3, h4⟩ := h
  obtain ⟨p, q, gp, gq, e1, e2, e3, e4, e5⟩ := h4 c
  exact ⟨p, q, gp, gq, by rw [h2.lookup h0 h1, e1], e2, e3, e4, e5⟩

theorem field0 (a b c d : Value) (w : World) : (Instr.field 174 (.agg #[a, b, c, d]) 0).run Tryz.prog w = .ok a w := by kernel_rfl
theorem field3 (a b c : Value) (x : Option Addr) (n m : Nat) (w : World) : (Instr.field 174 (.agg #[a, b, c, .slice x n m]) 3).run Tryz.prog w = .ok (.slice x n m) w := by kernel_rfl

set_option maxRecDepth 100000 in
theorem class_calls {w : World} {hi B : Nat} (h : TabIn w hi B) (c : Int) (h0 : -2147483648 ≤ c) (h1 : c ≤ 2147483647) :
    Calls Tryz.prog 93 #[.map (some B), .int .i32 c] w fun e w' => e = .returned (.int .i64 (clsOf c)) ∧ w' = w := by
  obtain ⟨p, q, gp, gq, hl, _⟩ := h.at h0 h1
  have hf := field0 (.int .i64 (clsOf c)) (.bool (compatOf c)) p q w
  go_enter Tryz.func93, Tryz.ntmps93
  go_wp2
  go_ret
  exact ⟨rfl, rfl⟩

/-- A slice that shows something is written so. -/
theorem Shows.form {w : World} {k : IntKind} {v : Value} {g : Option Nat} {xs : List Int} (h : Shows w k v g xs) : ∃ a c, v = .slice a xs.length c := by
  rcases h with ⟨rfl, rfl | ⟨a, c, rfl⟩⟩ | ⟨x, o, c, cur, e, _, rfl, _⟩
  · exact ⟨none, 0, rfl⟩
  · exact ⟨some a, c, rfl⟩
  · exact ⟨_, c, rfl⟩

/-- A row that is handed back: the table's own, or new memory; nothing has turned. -/
def Given (w w' : World) (hi : Nat) (v : Value) (xs : List Int) : Prop := ∃ g, Shows w' .i32 v g xs ∧ (∀ x, g = some x → x < hi ∨ w.heap.size ≤ x) ∧ Fr (fun _ => False) w w'


set_option maxRecDepth 100000 in
theorem folding_calls {w : World} {hi B : Nat} (h : TabIn w hi B) (c : Int) (h0 : -2147483648 ≤ c) (h1 : c ≤ 2147483647) :
    Calls Tryz.prog 127 #[.map (some B), .int .i32 c] w fun e w' => ∃ a m, e = .returned (.slice a (foldOf c).length m) ∧ Given w w' hi (.slice a (foldOf c).length m) (foldOf c) := by
  by_cases hA : 65 ≤ c ∧ c ≤ 90
  · obtain ⟨ha, hz⟩ := hA
    have e1 : foldOf c = [c + 32] := by unfold foldOf; rw [if_pos ⟨ha, hz⟩]
    rw [e1]
    go_enter Tryz.func127, Tryz.ntmps127
    go_wp2
    go_ret
    refine ⟨_, _, rfl, some w.heap.size, ?_, fun x hx => .inr (by simp at hx; omega), (Fr.refl _ _).alloc _⟩
    refine .inr ⟨w.heap.size, 0, _, _, _, rfl, rfl, heap_alloc_new w _, fun j hj => ?_⟩
    have hj0 : j = 0 := by simpa using hj
    subst hj0
    simp
  · have e1 : foldOf c = rawFold c := by unfold foldOf; rw [if_neg hA]
    rw [e1]
    obtain ⟨p, q, gp, gq, hl, _, hq, _, hgq⟩ := h.at h0 h1
    obtain ⟨a, m, rfl⟩ := hq.form
    have hf := field3 (.int .i64 (clsOf c)) (.bool (compatOf c)) p a (rawFold c).length m w
    rcases (by omega : c < 65 ∨ (65 ≤ c ∧ 90 < c)) with hc | ⟨hc, hc'⟩
    · go_enter Tryz.func127, Tryz.ntmps127
      go_wp2
      go_ret
      exact ⟨_, _, rfl, gq, hq, fun x hx => .inl (hgq x hx), Fr.refl _ _⟩
    · go_enter Tryz.func127, Tryz.ntmps127
      go_wp2
      go_ret
      exact ⟨_, _, rfl, gq, hq, fun x hx => .inl (hgq x hx), Fr.refl _ _⟩

theorem shows_of_row {w : World} {k : IntKind} {e : TypeId} {v : Value} {n : Nat} {xs : List Int} (h : w.ownsRow 0 e 1 v n (xs.map (Value.int k))) : Shows w k v v.ownBlock xs := by
  rcases row_cases h with ⟨rfl, _, rfl⟩ | ⟨g, cap, cur, rfl, hg, _, _, _, hl, hc⟩
  · exact .inl ⟨rfl, .inl rfl⟩
  · exact .inr ⟨g, 0, cap, cur, e, rfl, by rw [hl], hg, fun j hj => by rw [Nat.zero_add]; exact hc j (by omega)⟩


set_option maxRecDepth 100000 in
theorem syllable_calls (w : World) (hi : Nat) (c : Int) (h0 : 44032 ≤ c) (h1 : c ≤ 55203) :
    Calls Tryz.prog 130 #[.int .i32 c] w fun e w' => ∃ a m, e = .returned (.slice a (sylOf c).length m) ∧ Given w w' hi (.slice a (sylOf c).length m) (sylOf c) := by
  obtain ⟨i0, hi0, hz0, hz1, hz2⟩ := info_parts Tryz.info_rune
  obtain ⟨n, hn⟩ : ∃ n, n = c - 44032 := ⟨_, rfl⟩
  have n0 : 0 ≤ n := by omega
  have n1 : n ≤ 11171 := by omega
  by_cases hz : n % 28 = 0
  · have e1 : sylOf c = [4352 + n / 588, 4449 + n % 588 / 28] := by unfold sylOf; rw [← hn, if_pos hz]; rfl
    rw [e1]
    have hzb : (n % 28 != 0) = false := by simp [hz]
    have hcn : c - 44032 = n := hn.symm
    clear hn
    have HZ : Hid (n % 28 = 0) := hz
    clear hz
    go_enter Tryz.func130, Tryz.ntmps130
    go_wp2
    go_ret
    refine ⟨_, _, rfl, some w.heap.size, ?_, fun x hx => .inr (by simp at hx; omega), (Fr.refl _ _).alloc _⟩
    refine .inr ⟨w.heap.size, 0, _, _, _, rfl, rfl, heap_alloc_new w _, fun j hj => ?_⟩
    have hj2 : j = 0 ∨ j = 1 := by have : j < 2 := hj; omega
    rcases hj2 with rfl | rfl <;> simp
  · have e1 : sylOf c = [4352 + n / 588, 4449 + n % 588 / 28, 4519 + n % 28] := by unfold sylOf; rw [← hn, if_neg hz]; rfl
    rw [e1]
    have hzb : (n % 28 != 0) = true := by simp [hz]
    have hcn : c - 44032 = n := hn.symm
    clear hn
    have HZ : Hid (¬ n % 28 = 0) := hz
    clear hz
    have HI : Hid (Tryz.prog.info? 21 = some i0 ∧ i0.zero = some (.int .i32 0) ∧ i0.size = 1 ∧ i0.bytes = 4) := ⟨hi0, hz0, hz1, hz2⟩
    clear hi0 hz0 hz1 hz2
    go_enter Tryz.func130, Tryz.ntmps130
    go_wp2_with (at_builtin; refine wpList_append_own_at _ rfl _ _ 104 rfl 0 21 i0 (.int .i32 0) 1 4 Tryz.underlying104 HI.out.1 HI.out.2.1 HI.out.2.2.1 HI.out.2.2.2 rfl (by decide) (.slice (some ⟨w.heap.size, 0, none⟩) 2 2) 2 ([4352 + n / 588, 4449 + n % 588 / 28].map (Value.int .i32)) rfl ?own ⟨w.heap.size + 1, 0, none⟩ 1 1 [.int .i32 (4519 + n % 28)] rfl rfl ?news (by intro u hu; simp at hu; subst hu; rfl) (by unfold maxLen; omega) (by omega) (Nat.zero_le _) ?grow)
    case own =>
      refine row_mk (cur := #[.int .i32 (4352 + n / 588), .int .i32 (4449 + n % 588 / 28)]) ?_ (Nat.le_refl _) (by unfold maxLen; omega) rfl rfl ?_
      · rw [Below.heap_alloc _ _ _ (by simp)]; exact heap_alloc_new w _
      · intro j hj
        have hj2 : j = 0 ∨ j = 1 := by omega
        rcases hj2 with rfl | rfl <;> simp
    case news =>
      intro j u hu
      match j, hu with
      | 0, hu => simp at hu; subst hu; simp [Addr.add]
    case grow =>
      intro v' w1 hown1 hgrow _ hloc
      obtain ⟨a', c', rfl⟩ : ∃ a' c', v' = .slice a' (2 + 1) c' := by
        rcases hown1.2 with ⟨h, h0⟩ | ⟨g, cap', _, h, _⟩
        · omega
        · exact ⟨_, cap', h⟩
      go_wp2
      go_ret
      have hrow : w1.ownsRow 0 21 1 (.slice a' (2 + 1) c') (2 + 1) ([4352 + n / 588, 4449 + n % 588 / 28, 4519 + n % 28].map (Value.int .i32)) := by simpa using hown1
      refine ⟨_, _, rfl, (Value.slice a' (2 + 1) c').ownBlock, shows_of_row hrow, fun x hx => .inr ?_, ?_⟩
      · rcases hloc with h | h
        · rw [h] at hx; simp [Value.ownBlock] at hx; omega
        · rw [h] at hx; simp at hx; omega
      · refine Fr.grown (((Fr.refl _ _).alloc _).alloc _) hgrow (fun k h hk => ?_)
        simp [Value.ownBlock] at h
        omega


end Go.Proofs.YtmhaknejeobfgabGreatDoor

/- TabParts. -/
namespace Go.Proofs.YtmhaknejeobfgabGreatDoor
open Go.RowKit
attribute [local go_sem ↓] Go.wp_at_zero Go.wp_at_succ

set_option maxRecDepth 100000 in
set_option maxHeartbeats 800000 in
theorem parts_calls {w : World} {hi B : Nat} (h : TabIn w hi B) (c : Int) (h0 : -2147483648 ≤ c) (h1 : c ≤ 2147483647) (compat : Bool) :
    Calls Tryz.prog 115 #[.map (some B), .int .i32 c, .bool compat] w fun e w' => ∃ a m, e = .returned (.slice a (partsOf compat c).length m) ∧ Given w w' hi (.slice a (partsOf compat c).length m) (partsOf compat c) := by
  by_cases hS : 44032 ≤ c ∧ c ≤ 55203
  · obtain ⟨ha, hz⟩ := hS
    have e1 : partsOf compat c = sylOf c := by unfold partsOf; rw [if_pos ⟨ha, hz⟩]
    rw [e1]
    go_enter Tryz.func115, Tryz.ntmps115
    go_wp2_with (go_at_call 130; refine (syllable_calls _ hi c ha hz).mono ?_; rintro e w' ⟨a, m, rfl, hg⟩)
    go_ret
    exact ⟨a, m, rfl, hg⟩
  · obtain ⟨p, q, gp, gq, hl, hp, hq, hgp, hgq⟩ := h.at h0 h1
    obtain ⟨a, m, rfl⟩ := hp.form
    obtain ⟨aq, mq, rfl⟩ := hq.form
    have hfin : ∀ (n : Nat) (o : Obj), Given w ((w.alloc o).drewN n) hi (.slice a (rawParts c).length m) (rawParts c) := fun n o => ⟨gp, (hp.kept (S := fun _ => False) (((Fr.refl _ _).alloc o).drewN n) (fun _ _ => id)), fun x hx => .inl (hgp x hx), ((Fr.refl _ _).alloc o).drewN n⟩
    have hnil : ∀ (n : Nat) (o : Obj), Given w ((w.alloc o).drewN n) hi (.slice none 0 0) [] := fun n o => ⟨none, .inl ⟨rfl, .inl rfl⟩, fun x hx => (by cases hx), ((Fr.refl _ _).alloc o).drewN n⟩
    have HF : Hid _ := hfin
    have HN : Hid _ := hnil
    clear hfin hnil
    have hval : partsOf compat c = if compatOf c && !compat then [] else rawParts c := by unfold partsOf; rw [if_neg hS]
    have HV : Hid (partsOf compat c = if compatOf c && !compat then [] else rawParts c) := hval
    clear hval
    have hnot : ∀ (x : Bool) (w : World), (Op.unary .not (.bool x)).run Tryz.prog w = .ok (.bool (!x)) w := fun _ _ => rfl
    have hT : c < 44032 ∨ (44032 ≤ c ∧ 55203 < c) := by omega
    clear hS
    cases hcp : compatOf c with
    | false =>
      rw [hcp] at hl
      have e1 : partsOf compat c = rawParts c := by rw [HV.out, hcp]; rfl
      rw [e1]
      clear HV e1
      rcases hT with hc | ⟨hc, hc'⟩
      all_goals
        go_enter Tryz.func115, Tryz.ntmps115
        go_wp2
        go_ret
        exact ⟨_, _, rfl, HF.out 0 _⟩
    | true =>
      rw [hcp] at hl
      cases compat with
      | true =>
        have e1 : partsOf true c = rawParts c := by rw [HV.out, hcp]; rfl
        rw [e1]
        clear HV e1
        rcases hT with hc | ⟨hc, hc'⟩
        all_goals
          go_enter Tryz.func115, Tryz.ntmps115
          go_wp2
          go_ret
          exact ⟨_, _, rfl, HF.out 0 _⟩
      | false =>
        have e1 : partsOf false c = [] := by rw [HV.out, hcp]; rfl
        rw [e1]
        clear HV e1
        rcases hT with hc | ⟨hc, hc'⟩
        all_goals
          go_enter Tryz.func115, Tryz.ntmps115
          go_wp2
          go_ret
          exact ⟨_, _, rfl, HN.out 0 _⟩

end Go.Proofs.YtmhaknejeobfgabGreatDoor
