/- The document's answer: code points as UTF-8. The document's answer: what a code point is taken apart into, walked. The document's answer: foldings, walked. Ranks: where each stands in the stable sort. Plain lists. The document's answer: marks by their classes, walked. A stage, as the document's answer makes it: where its loop stands. Plain lists. The document's answer: a stage, walked. The document's answer: its small functions: is it a mode, the sum of bytes, the sign of two lists. The document's answer: the form of a mode, walked. The document's answer: Key, Hash and Compare, walked. -/
import Derived.Test.YtmhaknejeobfgabGreatDoorQueues
import Derived.Test.YtmhaknejeobfgabGreatDoorKeys
import Derived.Test.YtmhaknejeobfgabGreatDoorRefs0
import Derived.Test.YtmhaknejeobfgabGreatDoorStages
import Derived.Test.YtmhaknejeobfgabGreatDoorChPlain
import Derived.Deep.CutBlock
import Derived.Deep.DeepCutAuto
import Derived.Test.YtmhaknejeobfgabGreatDoorBase
import Derived.Deep.OwnRows
import Derived.Test.YtmhaknejeobfgabGreatDoorRefs1
import Derived.Test.YtmhaknejeobfgabGreatDoorComparing

/- Ref4. -/
namespace Go.Proofs.YtmhaknejeobfgabGreatDoor
open Go.RowKit Go.Proofs.YtmhaknejeobfgabGreatDoor.Stable Go.Proofs.YtmhaknejeobfgabGreatDoor.Order Go.Proofs.YtmhaknejeobfgabGreatDoor.Points
attribute [local go_sem ↓] Go.wp_at_zero Go.wp_at_succ

theorem add_is3 {a b c : ByteArray} (h : c.data.toList = a.data.toList ++ b.data.toList) (hs : c.data.toList.length ≤ 1099511627776) (w : World) : (Op.stringOp .add a b).run Tryz.prog w = .ok (.string c) w := by
  have e : a ++ b = c := by
    have e : (a ++ b).data = c.data := Array.toList_inj.1 (by rw [h]; simp)
    cases hab : a ++ b; cases c
    rw [hab] at e
    simp at e
    rw [e]
  rw [run_string_add_sum w a b ?_, e]
  rw [Lib.size_eq, Lib.size_eq]
  rw [h, List.length_append] at hs
  omega

/-- Bytes that were just laid, as a text. -/
theorem new_text {n : Nat} {cs : Array Value} {bs : List UInt8} {zs : List Int} (hb : bs = zs.map fun z => z.toNat.toUInt8) (hz : ∀ z ∈ zs, 0 ≤ z ∧ z ≤ 255) (hc : cs.toList = zs.map (Value.int .u8)) (hn : zs.length = n) (hm : n ≤ 4) (w : World) : (convert 96 9 (.slice (some ⟨w.heap.size, 0, none⟩) n n)).run Tryz.prog (w.alloc (.cells cs 5)) = .ok (.string ⟨bs.toArray⟩) (w.alloc (.cells cs 5)) := by
  have hcs : cs.toList = Lib.byteCells bs := by
    rw [hc, hb]
    unfold Lib.byteCells
    rw [List.map_map]
    refine List.map_congr_left (fun z hzm => ?_)
    have h := hz z hzm
    have e := u8 (z := z) (n := z.toNat) (by omega) (by omega)
    simp only [Function.comp]
    rw [e]
    congr 1
    omega
  have hl : bs.length = n := by rw [hb, List.length_map, hn]
  have hsz : cs.size = n := by rw [← Array.length_toList, hc, List.length_map, hn]
  clear hn
  subst hl
  have hB : Buf (w.alloc (.cells cs 5)) 0 (.slice (some ⟨w.heap.size, 0, none⟩) bs.length bs.length) bs := by
    refine ⟨by simp [Lib.byteCells], .inr ⟨w.heap.size, bs.length, cs, rfl, Nat.zero_le _, heap_alloc_new w _, Nat.le_refl _, by unfold maxLen; omega, hsz.trans (Nat.mul_one _).symm, ?_⟩⟩
    rw [hcs, List.take_of_length_le]
    simp [Lib.byteCells]
  exact hB.text

theorem utf8_take {l : List Int} {i : Nat} {c : Int} (h : l[i]? = some c) : utf8 (l.take (i + 1)) = utf8 (l.take i) ++ Lib.encodeRune c := by
  have hl := (List.getElem?_eq_some_iff.1 h).1
  rw [List.take_add_one, h, utf8_append]
  simp [utf8]

/-- The text so far, and a code point more. -/
theorem text_more {l : List Int} {i : Nat} {c : Int} {t : ByteArray} (h : l[i]? = some c) (ht : t.data.toList = utf8 (l.take i)) (hl : l.length ≤ 274877906944) : ∃ t2 : ByteArray, t2.data.toList = utf8 (l.take (i + 1)) ∧ ∀ w : World, (Op.stringOp .add t ⟨(Lib.encodeRune c).toArray⟩).run Tryz.prog w = .ok (.string t2) w := by
  refine ⟨⟨(utf8 (l.take (i + 1))).toArray⟩, rfl, fun w => add_is3 ?_ ?_ w⟩
  · show utf8 (l.take (i + 1)) = t.data.toList ++ Lib.encodeRune c
    rw [ht, utf8_take h]
  · have h1 := utf8_length (l.take (i + 1))
    have h2 := List.length_take_le (i + 1) l
    have h3 : (l.take (i + 1)).length ≤ l.length := by rw [List.length_take]; omega
    show (utf8 (l.take (i + 1))).length ≤ _
    omega

set_option maxRecDepth 100000 in
set_option maxHeartbeats 1600000 in
theorem utf8_calls (a : Option Addr) (cp : Nat) (l : List Int) (w : World) (hv : ∀ c ∈ l, Valid c) (hl : l.length ≤ 274877906944) (hI : IntsAt w a l) :
    Calls Tryz.prog 33 #[.slice a l.length cp] w fun e w' => ∃ t : ByteArray, e = .returned (.string t) ∧ t.data.toList = utf8 l ∧ Fr (fun _ => False) w w' := by
  have HI : Hid ((∀ c ∈ l, Valid c) ∧ l.length ≤ 274877906944 ∧ IntsAt w a l) := ⟨hv, hl, hI⟩
  have n1 : (l.length : Int) ≤ 274877906944 := by omega
  obtain ⟨n, hn⟩ : ∃ n, n = l.length := ⟨_, rfl⟩
  rw [← hn] at n1 ⊢
  have HN : Hid (n = l.length) := hn
  clear hv hl hI hn
  go_enter Tryz.func33, Tryz.ntmps33
  go_wp2
  go_loopw [3, 4] (fun v3 v4 wr => ∃ (t : ByteArray) (i : Nat), v3 = .string t ∧ v4 = .int .i64 i ∧ i ≤ n ∧ Hid (t.data.toList = utf8 (l.take i) ∧ Fr (fun _ => False) w wr)) (fun _ v4 _ => n - (intOf v4).toNat)
  case atStart => exact ⟨⟨#[]⟩, 0, rfl, rfl, Nat.zero_le _, hid ⟨rfl, Fr.refl _ _⟩⟩
  case round =>
    obtain ⟨t, i, rfl, rfl, hin, HT⟩ := hrel
    have j0 : (0 : Int) ≤ (i : Int) := by omega
    by_cases hlt : i < n
    · have j1 : (i : Int) < (n : Int) := by omega
      obtain ⟨c, hc⟩ : ∃ c, l[i]? = some c := ⟨_, List.getElem?_eq_getElem (by rw [← HN.out]; exact hlt)⟩
      obtain ⟨b, off, rfl, hcell⟩ := (HI.out.2.2.keep HT.out.2) i c hc
      have hval := HI.out.1 c (List.mem_of_getElem? hc)
      obtain ⟨k, rfl⟩ : ∃ k : Nat, c = (k : Int) := ⟨c.toNat, by unfold Valid at hval; omega⟩
      have k0 : (0 : Int) ≤ (k : Int) := by omega
      have k1 : (k : Int) ≤ 1114111 := by unfold Valid at hval; omega
      have HC : Hid (l[i]? = some (k : Int) ∧ Valid (k : Int)) := ⟨hc, hval⟩
      clear hc hval hlt hin
      obtain ⟨t2, ht2, hadd⟩ := text_more HC.out.1 HT.out.1 HI.out.2.1
      have HT2 : Hid (t2.data.toList = utf8 (l.take (i + 1))) := ht2
      obtain ⟨cb, hcb⟩ : ∃ cb : ByteArray, cb = ⟨(Lib.encodeRune (k : Int)).toArray⟩ := ⟨_, rfl⟩
      rw [← hcb] at hadd
      clear ht2
      by_cases c1 : k < 128
      · have m1 : (k : Int) < 128 := by omega
        have hx : ∀ w : World, (convert 96 9 (.slice (some ⟨w.heap.size, 0, none⟩) 1 1)).run Tryz.prog (w.alloc (.cells #[.int .u8 (k : Int)] 5)) = .ok (.string cb) (w.alloc (.cells #[.int .u8 (k : Int)] 5)) := fun w => by
          rw [hcb]
          exact new_text (bs := Lib.encodeRune (k : Int)) (zs := [(k : Int)]) (by unfold Lib.encodeRune; rw [Lib.encodeRuneZ_one (by omega) (by omega)]) (by intro z hz; simp at hz; omega) rfl rfl (by simp) w
        clear hcb c1
        go_wp2
        go_roundw
        case rel => exact ⟨t2, i + 1, rfl, by go_num, by omega, hid ⟨HT2.out, HT.out.2.alloc _⟩⟩
        case measure => simp [intOf]; omega
      have m1 : (128 : Int) ≤ (k : Int) := by omega
      have d1 : decide ((k : Int) < 128) = false := decide_eq_false (by omega)
      by_cases c2 : k < 2048
      · have m2 : (k : Int) < 2048 := by omega
        have hx : ∀ w : World, (convert 96 9 (.slice (some ⟨w.heap.size, 0, none⟩) 2 2)).run Tryz.prog (w.alloc (.cells #[.int .u8 (192 + (k : Int) / 64), .int .u8 (128 + (k : Int) % 64)] 5)) = .ok (.string cb) (w.alloc (.cells #[.int .u8 (192 + (k : Int) / 64), .int .u8 (128 + (k : Int) % 64)] 5)) := fun w => by
          rw [hcb]
          exact new_text (bs := Lib.encodeRune (k : Int)) (zs := [192 + (k : Int) / 64, 128 + (k : Int) % 64]) (by unfold Lib.encodeRune; rw [Lib.encodeRuneZ_two (by omega) (by omega)]) (by intro z hz; simp at hz; omega) rfl rfl (by simp) w
        clear hcb c1 c2
        go_wp2
        go_roundw
        case rel => exact ⟨t2, i + 1, rfl, by go_num, by omega, hid ⟨HT2.out, HT.out.2.alloc _⟩⟩
        case measure => simp [intOf]; omega
      have m2 : (2048 : Int) ≤ (k : Int) := by omega
      have d2 : decide ((k : Int) < 2048) = false := decide_eq_false (by omega)
      by_cases c3 : k < 65536
      · have m3 : (k : Int) < 65536 := by omega
        obtain ⟨q, hq⟩ : ∃ q : Nat, (k : Int) / 4096 = (q : Int) := ⟨k / 4096, by omega⟩
        have q0 : (0 : Int) ≤ (q : Int) := by omega
        have q1 : (q : Int) ≤ 15 := by omega
        have hx : ∀ w : World, (convert 96 9 (.slice (some ⟨w.heap.size, 0, none⟩) 3 3)).run Tryz.prog (w.alloc (.cells #[.int .u8 (224 + (q : Int)), .int .u8 (128 + (k : Int) / 64 % 64), .int .u8 (128 + (k : Int) % 64)] 5)) = .ok (.string cb) (w.alloc (.cells #[.int .u8 (224 + (q : Int)), .int .u8 (128 + (k : Int) / 64 % 64), .int .u8 (128 + (k : Int) % 64)] 5)) := fun w => by
          rw [hcb]
          have hv := HC.out.2
          unfold Valid at hv
          exact new_text (bs := Lib.encodeRune (k : Int)) (zs := [224 + (q : Int), 128 + (k : Int) / 64 % 64, 128 + (k : Int) % 64]) (by unfold Lib.encodeRune; unfold Lib.encodeRuneZ; rw [if_neg (by omega), if_neg (by omega), if_pos (by omega), hq]) (by intro z hz; simp at hz; omega) rfl rfl (by simp) w
        clear hcb c1 c2 c3
        go_wp2
        go_roundw
        case rel => exact ⟨t2, i + 1, rfl, by go_num, by omega, hid ⟨HT2.out, HT.out.2.alloc _⟩⟩
        case measure => simp [intOf]; omega
      have m3 : (65536 : Int) ≤ (k : Int) := by omega
      have d3 : decide ((k : Int) < 65536) = false := decide_eq_false (by omega)
      obtain ⟨q, hq⟩ : ∃ q : Nat, (k : Int) / 262144 = (q : Int) := ⟨k / 262144, by omega⟩
      have q0 : (0 : Int) ≤ (q : Int) := by omega
      have q1 : (q : Int) ≤ 4 := by omega
      obtain ⟨r, hr⟩ : ∃ r : Nat, (k : Int) / 4096 = (r : Int) := ⟨k / 4096, by omega⟩
      have r0 : (0 : Int) ≤ (r : Int) := by omega
      have r1 : (r : Int) ≤ 272 := by omega
      have hx : ∀ w : World, (convert 96 9 (.slice (some ⟨w.heap.size, 0, none⟩) 4 4)).run Tryz.prog (w.alloc (.cells #[.int .u8 (240 + (q : Int)), .int .u8 (128 + (r : Int) % 64), .int .u8 (128 + (k : Int) / 64 % 64), .int .u8 (128 + (k : Int) % 64)] 5)) = .ok (.string cb) (w.alloc (.cells #[.int .u8 (240 + (q : Int)), .int .u8 (128 + (r : Int) % 64), .int .u8 (128 + (k : Int) / 64 % 64), .int .u8 (128 + (k : Int) % 64)] 5)) := fun w => by
        rw [hcb]
        exact new_text (bs := Lib.encodeRune (k : Int)) (zs := [240 + (q : Int), 128 + (r : Int) % 64, 128 + (k : Int) / 64 % 64, 128 + (k : Int) % 64]) (by unfold Lib.encodeRune; unfold Lib.encodeRuneZ; rw [if_neg (by omega), if_neg (by omega), if_neg (by omega), if_pos (by omega), hq, hr]) (by intro z hz; simp at hz; omega) rfl rfl (by simp) w
      clear hcb c1 c2 c3
      go_wp2
      go_roundw
      case rel => exact ⟨t2, i + 1, rfl, by go_num, by omega, hid ⟨HT2.out, HT.out.2.alloc _⟩⟩
      case measure => simp [intOf]; omega
    · have j1 : (n : Int) ≤ (i : Int) := by omega
      have HE : Hid (t.data.toList = utf8 l) := hid (by
        have h := HT.out.1
        have h2 := HN.out
        rw [List.take_of_length_le (by omega)] at h
        exact h)
      clear hlt
      go_wp2
      go_ret
      exact ⟨t, rfl, HE.out, HT.out.2⟩

end Go.Proofs.YtmhaknejeobfgabGreatDoor

/- Ref10. -/
namespace Go.Proofs.YtmhaknejeobfgabGreatDoor
open Go.RowKit Go.Proofs.YtmhaknejeobfgabGreatDoor.Stable Go.Proofs.YtmhaknejeobfgabGreatDoor.Order Go.Proofs.YtmhaknejeobfgabGreatDoor.Points
attribute [local go_sem ↓] Go.wp_at_zero Go.wp_at_succ

theorem pieces_plain (k : Bool) (c : Int) : pieces k false c = apart k c := by
  unfold pieces foldL
  simp

theorem apart_len (k : Bool) (c : Int) : (apart k c).length ≤ 18 := by
  rw [← pieces_plain]
  exact (ok_all c).len k false

theorem apart_ne (k : Bool) (c : Int) : apart k c ≠ [] := by
  rw [← pieces_plain]
  exact (ok_all c).ne k false

theorem apart_step {k : Bool} {c : Int} (hne : partsOf k c ≠ []) : apart k c = (partsOf k c).flatMap (apart k) := by
  have := (ok_all c).step k
  rwa [if_neg hne] at this

theorem Row.at {w : World} {base : Nat} {a : Option Addr} {cp : Nat} {l : List Int} (h : Row w base a cp l) {i : Nat} {x : Int} (hx : l[i]? = some x) : ∃ g, a = some ⟨g, 0, Option.none⟩ ∧ w.cell? ⟨g, i, Option.none⟩ = some (.int .i64 x) ∧ g < w.heap.size := by
  have hlt : i < l.length := (List.getElem?_eq_some_iff.1 hx).1
  obtain ⟨g, rfl, hc⟩ := row_cell h hlt (v := .int .i64 x) (by simp [YtmhaknejeobfgabGreatDoor.ints, hx])
  exact ⟨g, rfl, hc, World.block_lt_of_cell? _ ⟨g, i, Option.none⟩ hc⟩

theorem Row.of {w : World} {base : Nat} {v : Value} {n : Nat} {l : List Int} (hn : l.length = n) (h : w.ownsRow base 3 1 v n (YtmhaknejeobfgabGreatDoor.ints l)) : ∃ a' c', v = .slice a' n c' ∧ Row w base a' c' l := by
  obtain ⟨a', c', rfl⟩ := row_form h
  refine ⟨a', c', rfl, ?_⟩
  unfold Row
  rw [hn]
  exact h

theorem Row.row {w : World} {base : Nat} {a : Option Addr} {cp n : Nat} {l : List Int} (h : Row w base a cp l) (hn : l.length = n) : w.ownsRow base 3 1 (.slice a n cp) n (YtmhaknejeobfgabGreatDoor.ints l) := by
  rw [← hn]
  exact h

/-- The syllables' numbers. -/
theorem syl_nums {c : Int} {N : Nat} (hc : c = 44032 + N) : sylOf c = [4352 + ((N / 588 : Nat) : Int), 4449 + ((N % 588 / 28 : Nat) : Int)] ++ if N % 28 = 0 then [] else [4519 + ((N % 28 : Nat) : Int)] := by
  subst hc
  unfold sylOf
  have e1 : (44032 + (N : Int) - 44032) = (N : Int) := by omega
  rw [e1]
  by_cases h : N % 28 = 0
  · rw [if_pos h, if_pos (by omega)]
    simp
  · rw [if_neg h, if_neg (by omega)]
    simp

set_option maxRecDepth 100000 in
set_option maxHeartbeats 1600000 in
theorem apart_syls (k : Bool) (c : Int) (w : World) (h0 : 44032 ≤ c) (h1 : c ≤ 55203) :
    Calls Tryz.prog 113 #[.int .i64 c, .bool k] w fun e w' => ∃ a cp, e = .returned (.slice a (apart k c).length cp) ∧ Row w' w.heap.size a cp (apart k c) ∧ Fr (fun _ => False) w w' := by
  obtain ⟨i0, hi0, hz0, hz1, hz2⟩ := info_parts Tryz.info_int
  have HI : Hid (Tryz.prog.info? 3 = some i0 ∧ i0.zero = some (.int .i64 0) ∧ i0.size = 1 ∧ i0.bytes = 8) := ⟨hi0, hz0, hz1, hz2⟩
  obtain ⟨N, hN⟩ : ∃ N : Nat, c = 44032 + N := ⟨(c - 44032).toNat, by omega⟩
  have HA : Hid (apart k c = sylOf c) := apart_syl k h0 h1
  rw [HA.out, syl_nums hN]
  have hw : IntKind.i64.wrap (c - 44032) = (N : Int) := by
    rw [show c - 44032 = (N : Int) by omega]
    exact Go.IntWalk.i64_in _ ⟨by omega, by omega⟩
  obtain ⟨q1, hq1⟩ : ∃ q, q = N / 588 := ⟨_, rfl⟩
  obtain ⟨q2, hq2⟩ : ∃ q, q = N % 588 := ⟨_, rfl⟩
  obtain ⟨q3, hq3⟩ : ∃ q, q = N % 588 / 28 := ⟨_, rfl⟩
  obtain ⟨q4, hq4⟩ : ∃ q, q = N % 28 := ⟨_, rfl⟩
  have t1 : (N : Int).tdiv 588 = (q1 : Int) := by rw [Int.tdiv_eq_ediv_of_nonneg (by omega)]; omega
  have t2 : (N : Int).tmod 588 = (q2 : Int) := by rw [Int.tmod_eq_emod_of_nonneg (by omega)]; omega
  have t3 : (q2 : Int).tdiv 28 = (q3 : Int) := by rw [Int.tdiv_eq_ediv_of_nonneg (by omega)]; omega
  have t4 : (N : Int).tmod 28 = (q4 : Int) := by rw [Int.tmod_eq_emod_of_nonneg (by omega)]; omega
  have b1 : (q1 : Int) ≤ 20 := by omega
  have b3 : (q3 : Int) ≤ 28 := by omega
  have b4 : (q4 : Int) ≤ 28 := by omega
  rw [← hq1, ← hq3, ← hq4]
  clear hi0 hz0 hz1 hz2 hq1 hq2 hq3 hq4 hN HA
  go_enter Tryz.func113, Tryz.ntmps113
  by_cases hz : q4 = 0
  · subst hz
    go_wp2
    go_ret
    exact ⟨_, _, rfl, Row.new w [4352 + (q1 : Int), 4449 + (q3 : Int)] rfl rfl (by omega), (Fr.refl _ _).alloc _⟩
  · have z0 : (0 : Int) < (q4 : Int) := by omega
    rw [if_neg hz]
    clear hz
    obtain ⟨x1, hx1⟩ : ∃ x1, x1 = 4352 + (q1 : Int) := ⟨_, rfl⟩
    obtain ⟨x2, hx2⟩ : ∃ x2, x2 = 4449 + (q3 : Int) := ⟨_, rfl⟩
    obtain ⟨x3, hx3⟩ : ∃ x3, x3 = 4519 + (q4 : Int) := ⟨_, rfl⟩
    have HW : Hid (Row ((w.alloc (.cells #[.int .i64 x1, .int .i64 x2] 3)).alloc (.cells #[.int .i64 x3] 3)) w.heap.size (some ⟨w.heap.size, 0, none⟩) 2 [x1, x2] ∧ Fr (fun _ => False) w ((w.alloc (.cells #[.int .i64 x1, .int .i64 x2] 3)).alloc (.cells #[.int .i64 x3] 3)) ∧ ∀ j u, (ints [x3])[j]? = some u → ((w.alloc (.cells #[.int .i64 x1, .int .i64 x2] 3)).alloc (.cells #[.int .i64 x3] 3)).cell? ((⟨w.heap.size + 1, 0, none⟩ : Addr).add j) = some u) := by
      have h1 := Row.new w [x1, x2] (cs := #[.int .i64 x1, .int .i64 x2]) (n := 2) rfl rfl (by omega)
      have f1 : Fr (fun _ => False) (w.alloc (.cells #[.int .i64 x1, .int .i64 x2] 3)) ((w.alloc (.cells #[.int .i64 x1, .int .i64 x2] 3)).alloc (.cells #[.int .i64 x3] 3)) := (Fr.refl _ _).alloc _
      refine ⟨h1.keep f1, ((Fr.refl _ _).alloc _).alloc _, fun j u hu => ?_⟩
      have h2 := cell_one_new (w.alloc (.cells #[.int .i64 x1, .int .i64 x2] 3)) (.int .i64 x3) 3 j u hu
      rwa [show (w.alloc (.cells #[.int .i64 x1, .int .i64 x2] 3)).heap.size = w.heap.size + 1 by simp] at h2
    rw [← hx1, ← hx2, ← hx3]
    have HX : Hid (x1 = 4352 + (q1 : Int) ∧ x2 = 4449 + (q3 : Int) ∧ x3 = 4519 + (q4 : Int)) := ⟨hx1, hx2, hx3⟩
    clear hx1 hx2 hx3
    go_wp2_with (at_builtin; rw [← HX.out.1, ← HX.out.2.1, ← HX.out.2.2]; refine wpList_append_own_at _ rfl _ _ 31 rfl w.heap.size 3 i0 (.int .i64 0) 1 8 Tryz.underlying31 HI.out.1 HI.out.2.1 HI.out.2.2.1 HI.out.2.2.2 rfl (by decide) (.slice (some ⟨w.heap.size, 0, none⟩) 2 2) 2 (ints [x1, x2]) rfl ?own ⟨w.heap.size + 1, 0, none⟩ 1 1 (ints [x3]) rfl rfl ?cells (ints_one _) ?len ?bytes ?base ?grow)
    case own => exact HW.out.1
    case cells => exact HW.out.2.2
    case len => unfold maxLen; omega
    case bytes => omega
    case base => exact HW.out.2.1.size
    case grow =>
      intro v1 w1 k1 g1 _ _
      have HF : Hid (Fr (fun _ => False) w w1) := grown_new HW.out.2.1 HW.out.1 (Nat.le_refl _) g1
      obtain ⟨a', c', rfl, m1⟩ := Row.more (l := [x1, x2]) (xs := [x3]) (n := 1) k1 rfl
      have HM : Hid (Row w1 w.heap.size a' c' ([x1, x2] ++ [x3])) := m1
      clear k1 g1 m1
      go_wp2
      go_ret
      exact ⟨a', c', rfl, HM.out, HF.out⟩

/-- What Of told, in a variable. -/
theorem factV_eq (c : Int) (a : Option Addr) (ca : Nat) (b : Option Addr) (cb : Nat) : factV c a ca b cb = .agg #[.int .i64 (clsOf c), .int .u8 (kindOf c), .slice a (rawParts c).length ca, .slice b (rawFold c).length cb] := rfl

def factC (z : Int) (kd : Nat) (a : Option Addr) (n ca : Nat) (b : Option Addr) (m cb : Nat) : Obj := .cells #[.int .i64 z, .int .u8 kd, .slice a n ca, .slice b m cb] 160

set_option maxRecDepth 100000 in
set_option maxHeartbeats 1600000 in
theorem apart_calls (k : Bool) : ∀ (n : Nat) (c : Int) (w : World), 0 ≤ c → c ≤ 1114111 → rk k c < n →
    Calls Tryz.prog 113 #[.int .i64 c, .bool k] w fun e w' => ∃ a cp, e = .returned (.slice a (apart k c).length cp) ∧ Row w' w.heap.size a cp (apart k c) ∧ Fr (fun _ => False) w w' := by
  intro n
  induction n with
  | zero => intro c w _ _ h; omega
  | succ n ih =>
    intro c w h0 h1 hr
    by_cases hs : 44032 ≤ c ∧ c ≤ 55203
    · exact apart_syls k c w hs.1 hs.2
    obtain ⟨i0, hi0, hz0, hz1, hz2⟩ := info_parts Tryz.info_int
    have HI : Hid (Tryz.prog.info? 3 = some i0 ∧ i0.zero = some (.int .i64 0) ∧ i0.size = 1 ∧ i0.bytes = 8) := ⟨hi0, hz0, hz1, hz2⟩
    obtain ⟨kd, hkd⟩ : ∃ kd, kd = kindOf c := ⟨_, rfl⟩
    have hkp := kind_parts k c hs
    rw [← hkd] at hkp
    have HKD : Hid (kd = kindOf c) := hkd
    have hkl : kd ≤ 255 := by rw [hkd]; exact kind_le c
    have HIH : Hid (∀ (x : Int) (w : World), x ∈ partsOf k c → Calls Tryz.prog 113 #[.int .i64 x, .bool k] w fun e w' => ∃ a cp, e = .returned (.slice a (apart k x).length cp) ∧ Row w' w.heap.size a cp (apart k x) ∧ Fr (fun _ => False) w w') := Hid.mk0 (fun x w hx => by
      obtain ⟨q1, q2⟩ := rk_parts hs x hx
      unfold Valid at q2
      exact ih x w (by omega) (by omega) (by omega))
    have HC : Hid (0 ≤ c ∧ c ≤ 1114111) := ⟨h0, h1⟩
    obtain ⟨R, hR⟩ : ∃ R, R = apart k c := ⟨_, rfl⟩
    obtain ⟨nR, hnR⟩ : ∃ nR, nR = R.length := ⟨_, rfl⟩
    rw [← hR, ← hnR]
    have HR : Hid (R = apart k c ∧ nR = R.length) := ⟨hR, hnR⟩
    clear hi0 hz0 hz1 hz2 hkd ih hr hR hnR
    go_enter Tryz.func113, Tryz.ntmps113
    go_upto_region 1 with fail
    go_cut [16] (fun v wc => v = .bool false ∧ wc = w)
    case first =>
      by_cases h2 : 44032 ≤ c
      · have h3 : ¬ c ≤ 55203 := fun h => hs ⟨h2, h⟩
        go_wp2
        go_meet
        case rel => exact ⟨rfl, rfl⟩
      · go_wp2
        go_meet
        case rel => exact ⟨rfl, rfl⟩
    case rest =>
      obtain ⟨rfl, rfl⟩ := hcut
      obtain ⟨w, hww⟩ : ∃ w, w = wc := ⟨_, rfl⟩
      subst hww
      go_wp2_with fail
      refine (fact_calls c _ HC.out.1 HC.out.2).mono ?_
      rintro e w1 ⟨a, ca, b, cb, rfl, hfi, hf1⟩
      rw [factV_eq, ← HKD.out]
      obtain ⟨np, hnp⟩ : ∃ np, np = (rawParts c).length := ⟨_, rfl⟩
      obtain ⟨nf, hnf⟩ : ∃ nf, nf = (rawFold c).length := ⟨_, rfl⟩
      obtain ⟨z, hz⟩ : ∃ z, z = clsOf c := ⟨_, rfl⟩
      rw [← hnp, ← hnf, ← hz]
      have HFI : Hid (Row w1 w.heap.size a ca (rawParts c) ∧ np = (rawParts c).length ∧ Fr (fun _ => False) w w1) := ⟨hfi.ra, hnp, hf1⟩
      clear hfi hf1 hnp hnf hz
      go_upto_region 8 with fail
      change Code.wp _ _ _ _ (w1.alloc (factC z kd a np ca b nf cb))
      have hv : (w1.alloc (factC z kd a np ca b nf cb)).heap[w1.heap.size]? = some (factC z kd a np ca b nf cb) := heap_alloc_new w1 _
      have HW : Hid ((w1.alloc (factC z kd a np ca b nf cb)).heap[w1.heap.size]? = some (factC z kd a np ca b nf cb) ∧ Row (w1.alloc (factC z kd a np ca b nf cb)) w.heap.size a ca (rawParts c) ∧ np = (rawParts c).length ∧ Fr (fun _ => False) w (w1.alloc (factC z kd a np ca b nf cb))) := ⟨hv, HFI.out.1.keep ((Fr.refl _ _).alloc _), HFI.out.2.1, HFI.out.2.2.alloc _⟩
      obtain ⟨vf, hvf⟩ : ∃ vf, vf = w1.heap.size := ⟨_, rfl⟩
      rw [← hvf] at HW ⊢
      clear hv HFI hvf
      generalize w1.alloc (factC z kd a np ca b nf cb) = W at *
      have d1 : W.cell? ⟨vf, 1, none⟩ = some (.int .u8 kd) := cell_of HW.out.1 rfl
      have d2 : W.cell? ⟨vf, 2, none⟩ = some (.slice a np ca) := cell_of HW.out.1 rfl
      obtain ⟨bad, hbad⟩ : ∃ bad, bad = decide (partsOf k c = []) := ⟨_, rfl⟩
      go_cut [50] (fun v wc => v = .bool bad ∧ wc = W)
      case first =>
        rcases hkp with ⟨e1, e2, e3⟩ | ⟨e1, e2, e3⟩
        · obtain rfl : bad = true := by rw [hbad]; exact decide_eq_true e1
          have g1 : ((kd : Int) != 99) = true := by rw [bne_iff_ne]; omega
          by_cases e4 : kd = 107
          · have hk : k = false := by
              rcases e3 with h | h
              · exact absurd e4 h
              · exact h
            subst hk
            have g2 : ((kd : Int) != 107) = false := by rw [bne_eq_false_iff_eq]; omega
            clear e1 e2 e3 e4 hbad hs
            go_wp2
            go_meet
            case rel => exact ⟨rfl, rfl⟩
          · have g2 : ((kd : Int) != 107) = true := by rw [bne_iff_ne]; omega
            clear e1 e2 e3 e4 hbad hs
            go_wp2
            go_meet
            case rel => exact ⟨rfl, rfl⟩
        · obtain rfl : bad = false := by rw [hbad]; exact decide_eq_false (by rw [e1]; exact e2)
          by_cases e4 : kd = 99
          · have g1 : ((kd : Int) != 99) = false := by rw [bne_eq_false_iff_eq]; omega
            clear e1 e2 e3 e4 hbad hs
            go_wp2
            go_meet
            case rel => exact ⟨rfl, rfl⟩
          · have e5 : kd = 107 ∧ k = true := by
              rcases e3 with h | h
              · exact absurd h e4
              · exact h.2
            have g1 : ((kd : Int) != 99) = true := by rw [bne_iff_ne]; omega
            have g2 : ((kd : Int) != 107) = false := by rw [bne_eq_false_iff_eq]; omega
            obtain ⟨_, rfl⟩ := e5
            clear e1 e2 e3 e4 hbad hs
            go_wp2
            go_meet
            case rel => exact ⟨rfl, rfl⟩
      case rest =>
        obtain ⟨rfl, rfl⟩ := hcut
        obtain ⟨W, hWW⟩ : ∃ W, W = wc := ⟨_, rfl⟩
        subst hWW
        by_cases hp : partsOf k c = []
        · obtain rfl : bad = true := by rw [hbad]; exact decide_eq_true hp
          have hR1 : R = [c] := by rw [HR.out.1, apart_atom hp]
          subst hR1
          obtain rfl : nR = 1 := HR.out.2
          have HFW : Hid (Fr (fun _ => False) w W) := HW.out.2.2.2
          clear hbad hp hkp hs d1 d2
          go_wp2
          go_ret
          exact ⟨_, _, rfl, (Row.new W [c] (n := 1) rfl rfl (by omega)).low HFW.out.size, HFW.out.alloc _⟩
        · obtain rfl : bad = false := by rw [hbad]; exact decide_eq_false hp
          have hpr : partsOf k c = rawParts c := by
            rcases hkp with h | h
            · exact absurd h.1 hp
            · exact h.1
          have hRs : R = (partsOf k c).flatMap (apart k) := by rw [HR.out.1, apart_step hp]
          obtain ⟨ps, hps⟩ : ∃ ps, ps = partsOf k c := ⟨_, rfl⟩
          rw [← hps] at hRs
          rw [← hpr, ← hps] at HW
          have HRS : Hid (R = ps.flatMap (apart k) ∧ nR = R.length) := ⟨hRs, HR.out.2⟩
          rw [← hps] at HIH
          have hnp : np ≤ 100 := by
            have h1 := (raw_len c).1
            have h2 := HW.out.2.2.1
            rw [← hpr, ← hps] at h1
            omega
          clear hbad hp hkp hs d1 hpr hps HKD HR hRs
          go_wp2
          go_loopw [8, 9] (fun v8 v9 wr => ∃ (i nl : Nat) (a8 : Option Addr) (c8 : Nat), v8 = .slice a8 nl c8 ∧ v9 = .int .i64 i ∧ i ≤ np ∧ Hid (Row wr W.heap.size a8 c8 ((ps.take i).flatMap (apart k)) ∧ nl = ((ps.take i).flatMap (apart k)).length ∧ Fr (fun _ => False) W wr)) (fun _ v9 _ => np - (intOf v9).toNat)
          case atStart => exact ⟨0, 0, none, 0, rfl, rfl, Nat.zero_le _, Row.none _ _, rfl, Fr.refl _ _⟩
          case round =>
            obtain ⟨i, nl, a8, c8, rfl, rfl, hi, HX⟩ := hrel
            have d2' : wr.cell? ⟨vf, 2, none⟩ = some (.slice a np ca) := HX.out.2.2.cell id (lt_of HW.out.1) d2
            have hnl : nl ≤ 1800 := by
              have h1 := flat_length (f := apart k) (n := 18) (apart_len k) (ps.take i)
              have h2 := HX.out.2.1
              rw [List.length_take] at h1
              have h3 := HW.out.2.2.1
              have : min i ps.length ≤ 100 := by omega
              have : 18 * min i ps.length ≤ 1800 := by omega
              omega
            by_cases hlt : i < np
            · obtain ⟨x, hx⟩ : ∃ x, ps[i]? = some x := ⟨_, List.getElem?_eq_getElem (by have := HW.out.2.2.1; omega)⟩
              obtain ⟨g, rfl, hcx, hgl⟩ := HW.out.2.1.at hx
              have hcx' : wr.cell? ⟨g, i, none⟩ = some (.int .i64 x) := HX.out.2.2.cell id hgl hcx
              have i1 : (0 : Int) ≤ (i : Int) := by omega
              have i2 : (i : Int) < (np : Int) := by omega
              have HIX : Hid (x ∈ ps ∧ (ps.take (i + 1)).flatMap (apart k) = (ps.take i).flatMap (apart k) ++ apart k x) := ⟨List.mem_of_getElem? hx, by rw [take_snoc hx]; simp⟩
              clear hx hcx hgl
              go_wp2_with fail
              refine (HIH.out x _ HIX.out.1).mono ?_
              rintro e w2 ⟨am, cm, rfl, hm, hf2⟩
              obtain ⟨L, hL⟩ : ∃ L, L = (ps.take i).flatMap (apart k) := ⟨_, rfl⟩
              obtain ⟨M, hM⟩ : ∃ M, M = apart k x := ⟨_, rfl⟩
              rw [← hM] at hm ⊢
              obtain ⟨nm, hnm⟩ : ∃ nm, nm = M.length := ⟨_, rfl⟩
              rw [← hnm]
              have HM : Hid (Row w2 wr.heap.size am cm M ∧ nm = M.length ∧ nm ≤ 18 ∧ M ≠ [] ∧ Fr (fun _ => False) wr w2) := ⟨hm, hnm, by rw [hnm, hM]; exact apart_len k x, by rw [hM]; exact apart_ne k x, hf2⟩
              have HL : Hid (Row w2 W.heap.size a8 c8 L ∧ nl = L.length ∧ Fr (fun _ => False) W w2 ∧ (ps.take (i + 1)).flatMap (apart k) = L ++ M) := ⟨by rw [hL]; exact HX.out.1.keep hf2, by rw [hL]; exact HX.out.2.1, HX.out.2.2.trans hf2 (fun _ _ h => h), by rw [hL, hM]; exact HIX.out.2⟩
              obtain ⟨gm, rfl, hnews⟩ := hm.news HM.out.2.2.2.1
              have HNW : Hid (∀ j u, (ints M)[j]? = some u → w2.cell? ((⟨gm, 0, none⟩ : Addr).add j) = some u) := hnews
              clear hm hf2 hL hM hnm hnews HX HIX
              go_wp2_with (at_builtin; refine wpList_append_own_at _ rfl _ _ 31 rfl W.heap.size 3 i0 (.int .i64 0) 1 8 Tryz.underlying31 HI.out.1 HI.out.2.1 HI.out.2.2.1 HI.out.2.2.2 rfl (by decide) (.slice a8 nl c8) nl (ints L) rfl ?own ⟨gm, 0, none⟩ nm cm (ints M) rfl ?ln ?cells (ints_one _) ?len ?bytes ?base ?grow)
              case own => have := HL.out.1; unfold Row at this; rw [← HL.out.2.1] at this; exact this
              case ln => rw [ints_length, HM.out.2.1, Nat.mul_one]
              case cells => exact HNW.out
              case len => have := HM.out.2.2.1; unfold maxLen; omega
              case bytes => have := HM.out.2.2.1; omega
              case base => exact HL.out.2.2.1.size
              case grow =>
                intro v1 w3 k1 g1 _ _
                have HF : Hid (Fr (fun _ => False) W w3) := grown_new HL.out.2.2.1 HL.out.1 (Nat.le_refl _) g1
                have HM2 : Hid (∃ a' c', v1 = .slice a' (nl + nm) c' ∧ Row w3 W.heap.size a' c' (L ++ M)) := Hid.mk0 (Row.of (by rw [List.length_append, HL.out.2.1, HM.out.2.1]) (by rw [ints_append]; exact k1))
                clear g1 k1
                obtain ⟨a', c', rfl, hm⟩ := HM2.out
                have HM3 : Hid (Row w3 W.heap.size a' c' (L ++ M)) := hm
                clear hm HM2
                go_wp2
                exact ⟨⟨i + 1, nl + nm, a', c', rfl, by go_num, by omega, by rw [HL.out.2.2.2]; exact HM3.out, by rw [HL.out.2.2.2, List.length_append, HL.out.2.1, HM.out.2.1], HF.out⟩, by simp [intOf]; omega⟩
            · obtain rfl : i = np := by omega
              have hall : (ps.take i).flatMap (apart k) = R := by rw [HRS.out.1, List.take_of_length_le (by have := HW.out.2.2.1; omega)]
              have HX2 : Hid (Row wr W.heap.size a8 c8 R ∧ nl = R.length ∧ Fr (fun _ => False) W wr) := ⟨by rw [← hall]; exact HX.out.1, by rw [← hall]; exact HX.out.2.1, HX.out.2.2⟩
              clear hall HX
              obtain rfl : nl = nR := by rw [HX2.out.2.1, HRS.out.2]
              go_wp2
              go_ret
              exact ⟨a8, c8, rfl, HX2.out.1.low HW.out.2.2.2.size, HW.out.2.2.2.trans HX2.out.2.2 (fun _ _ h => h)⟩

end Go.Proofs.YtmhaknejeobfgabGreatDoor

/- Ref11. -/
namespace Go.Proofs.YtmhaknejeobfgabGreatDoor
open Go.RowKit Go.Proofs.YtmhaknejeobfgabGreatDoor.Stable Go.Proofs.YtmhaknejeobfgabGreatDoor.Order Go.Proofs.YtmhaknejeobfgabGreatDoor.Points
attribute [local go_sem ↓] Go.wp_at_zero Go.wp_at_succ

theorem foldL_len (c : Int) : (foldL true c).length ≤ 18 := by
  unfold foldL
  rw [if_pos rfl]
  split
  · simp
  · exact (fold_are c).1

theorem foldL_up {c : Int} (h : 65 ≤ c ∧ c ≤ 90) : foldL true c = [c + 32] := by
  unfold foldL foldOf
  rw [if_pos rfl, if_pos h]
  simp

theorem foldL_raw {c : Int} (h : ¬ (65 ≤ c ∧ c ≤ 90)) : foldL true c = if rawFold c = [] then [c] else rawFold c := by
  unfold foldL foldOf
  rw [if_pos rfl, if_neg h]

/-- Numbers that can be read, and stay. -/
structure Nums (w : World) (a : Option Addr) (l : List Int) : Prop where
  at_ : IntsAt w a l
  ok : ∀ c ∈ l, 0 ≤ c ∧ c ≤ 1114111
  len : l.length ≤ 68719476736

theorem Nums.keep {w w' : World} {a : Option Addr} {l : List Int} (h : Nums w a l) (f : Fr (fun _ => False) w w') : Nums w' a l := ⟨h.at_.keep f, h.ok, h.len⟩

/-- Where a loop that makes a list out of a list stands. -/
structure Mk1 (w wr : World) (f : Int → List Int) (l : List Int) (i nl : Nat) (a8 : Option Addr) (c8 : Nat) : Prop where
  row : Row wr w.heap.size a8 c8 ((l.take i).flatMap f)
  len : nl = ((l.take i).flatMap f).length
  fr : Fr (fun _ => False) w wr

theorem Mk1.step {w w3 : World} {f : Int → List Int} {l : List Int} {i nl nm : Nat} {a' : Option Addr} {c' : Nat} {L M : List Int} {x : Int} (hx : l[i]? = some x) (hL : L = (l.take i).flatMap f) (hM : M = f x) (hr : Row w3 w.heap.size a' c' (L ++ M)) (hn : nl = L.length) (hm : nm = M.length) (hf : Fr (fun _ => False) w w3) : Mk1 w w3 f l (i + 1) (nl + nm) a' c' := by
  have e : (l.take (i + 1)).flatMap f = L ++ M := by rw [take_snoc hx, hL, hM]; simp
  exact ⟨by rw [e]; exact hr, by rw [e, List.length_append, hn, hm], hf⟩

theorem Mk1.small {w wr : World} {f : Int → List Int} {l : List Int} {i nl : Nat} {a8 : Option Addr} {c8 : Nat} (h : Mk1 w wr f l i nl a8 c8) (hf : ∀ c, (f c).length ≤ 18) (hl : l.length ≤ 68719476736) : nl ≤ 1236950581248 := by
  have h1 := flat_length (f := f) (n := 18) hf (l.take i)
  rw [List.length_take] at h1
  have h2 := h.len
  have : 18 * min i l.length ≤ 18 * 68719476736 := Nat.mul_le_mul_left _ (by omega)
  omega

set_option maxRecDepth 100000 in
set_option maxHeartbeats 1600000 in
theorem fold_calls {w : World} {a : Option Addr} {l : List Int} {cp n : Nat} (h : Nums w a l) (hn : n = l.length) :
    Calls Tryz.prog 112 #[.slice a n cp] w fun e w' => ∃ a' c' n', e = .returned (.slice a' n' c') ∧ n' = (l.flatMap (foldL true)).length ∧ Row w' w.heap.size a' c' (l.flatMap (foldL true)) ∧ Fr (fun _ => False) w w' := by
  obtain ⟨i0, hi0, hz0, hz1, hz2⟩ := info_parts Tryz.info_int
  have HI : Hid (Tryz.prog.info? 3 = some i0 ∧ i0.zero = some (.int .i64 0) ∧ i0.size = 1 ∧ i0.bytes = 8) := ⟨hi0, hz0, hz1, hz2⟩
  have HN : Hid (Nums w a l ∧ n = l.length) := ⟨h, hn⟩
  have hnb : n ≤ 68719476736 := by rw [hn]; exact h.len
  clear hi0 hz0 hz1 hz2 h hn
  go_enter Tryz.func112, Tryz.ntmps112
  go_wp2
  go_loopw [3, 4] (fun v3 v4 wr => ∃ (i nl : Nat) (a8 : Option Addr) (c8 : Nat), v3 = .slice a8 nl c8 ∧ v4 = .int .i64 i ∧ i ≤ n ∧ Hid (Mk1 w wr (foldL true) l i nl a8 c8)) (fun _ v4 _ => n - (intOf v4).toNat)
  case atStart => exact ⟨0, 0, none, 0, rfl, rfl, Nat.zero_le _, Row.none _ _, rfl, Fr.refl _ _⟩
  case round =>
    obtain ⟨i, nl, a8, c8, rfl, rfl, hi, HX⟩ := hrel
    have hnl : nl ≤ 1236950581248 := HX.out.small foldL_len HN.out.1.len
    by_cases hlt : i < n
    · obtain ⟨x, hx⟩ : ∃ x, l[i]? = some x := ⟨_, List.getElem?_eq_getElem (by have := HN.out.2; omega)⟩
      obtain ⟨x0, x1⟩ := HN.out.1.ok x (List.mem_of_getElem? hx)
      obtain ⟨b, off, rfl, hcx⟩ := (HN.out.1.keep HX.out.fr).at_ i x hx
      have i1 : (0 : Int) ≤ (i : Int) := by omega
      have i2 : (i : Int) < (n : Int) := by omega
      have HX1 : Hid (l[i]? = some x) := hx
      clear hx
      go_wp2_with fail
      refine (fact_calls x _ x0 x1).mono ?_
      rintro e w1 ⟨af, ca, bf, cb, rfl, hfi, hf1⟩
      rw [factV_eq]
      obtain ⟨np, hnp⟩ : ∃ np, np = (rawParts x).length := ⟨_, rfl⟩
      obtain ⟨nf, hnf⟩ : ∃ nf, nf = (rawFold x).length := ⟨_, rfl⟩
      obtain ⟨z, hz⟩ : ∃ z, z = clsOf x := ⟨_, rfl⟩
      obtain ⟨kd, hkd⟩ : ∃ kd, kd = kindOf x := ⟨_, rfl⟩
      rw [← hnp, ← hnf, ← hz, ← hkd]
      have hcx1 : w1.cell? ⟨b, off + i, none⟩ = some (.int .i64 x) := hf1.cell id (World.block_lt_of_cell? _ ⟨b, off + i, none⟩ hcx) hcx
      have HFI : Hid (Row w1 wr.heap.size bf cb (rawFold x) ∧ nf = (rawFold x).length ∧ Fr (fun _ => False) wr w1) := ⟨hfi.rb, hnf, hf1⟩
      have hnf2 : nf ≤ 100 := by rw [hnf]; exact (raw_len x).2.1
      clear hfi hf1 hnp hnf hz hkd hcx
      go_upto_region 7 with fail
      change Code.wp _ _ _ _ (w1.alloc (factC z kd af np ca bf nf cb))
      have hv : (w1.alloc (factC z kd af np ca bf nf cb)).heap[w1.heap.size]? = some (factC z kd af np ca bf nf cb) := heap_alloc_new w1 _
      have fW : Fr (fun _ => False) w1 (w1.alloc (factC z kd af np ca bf nf cb)) := (Fr.refl _ _).alloc _
      have HW : Hid ((w1.alloc (factC z kd af np ca bf nf cb)).heap[w1.heap.size]? = some (factC z kd af np ca bf nf cb) ∧ Row (w1.alloc (factC z kd af np ca bf nf cb)) wr.heap.size bf cb (rawFold x) ∧ nf = (rawFold x).length ∧ Fr (fun _ => False) wr (w1.alloc (factC z kd af np ca bf nf cb))) := ⟨hv, HFI.out.1.keep fW, HFI.out.2.1, HFI.out.2.2.trans fW (fun _ _ h => h)⟩
      have hcxW : (w1.alloc (factC z kd af np ca bf nf cb)).cell? ⟨b, off + i, none⟩ = some (.int .i64 x) := fW.cell id (World.block_lt_of_cell? _ ⟨b, off + i, none⟩ hcx1) hcx1
      obtain ⟨vf, hvf⟩ : ∃ vf, vf = w1.heap.size := ⟨_, rfl⟩
      rw [← hvf] at HW ⊢
      clear hv HFI hvf fW hcx1
      generalize w1.alloc (factC z kd af np ca bf nf cb) = W at *
      have d3 : W.cell? ⟨vf, 3, none⟩ = some (.slice bf nf cb) := cell_of HW.out.1 rfl
      obtain ⟨L, hL⟩ : ∃ L, L = (l.take i).flatMap (foldL true) := ⟨_, rfl⟩
      have HL : Hid (Row W w.heap.size a8 c8 L ∧ nl = L.length ∧ L = (l.take i).flatMap (foldL true) ∧ Fr (fun _ => False) w W) := ⟨by rw [hL]; exact HX.out.row.keep HW.out.2.2.2, by rw [hL]; exact HX.out.len, hL, HX.out.fr.trans HW.out.2.2.2 (fun _ _ h => h)⟩
      clear hL HX
      by_cases hup : 65 ≤ x ∧ x ≤ 90
      · obtain ⟨u1, u2⟩ := hup
        have HFX : Hid (foldL true x = [x + 32]) := foldL_up ⟨u1, u2⟩
        go_wp2_with (at_builtin; refine wpList_append_own_at _ rfl _ _ 31 rfl w.heap.size 3 i0 (.int .i64 0) 1 8 Tryz.underlying31 HI.out.1 HI.out.2.1 HI.out.2.2.1 HI.out.2.2.2 rfl (by decide) (.slice a8 nl c8) nl (ints L) rfl ?own ⟨W.heap.size, 0, none⟩ 1 1 (ints [x + 32]) rfl ?ln ?cells (ints_one _) ?len ?bytes ?base ?grow)
        case own => exact (HL.out.1.keep ((Fr.refl (fun _ => False) W).alloc (Obj.cells #[.int .i64 (x + 32)] 3))).row HL.out.2.1.symm
        case ln => rfl
        case cells => exact cell_one_new _ _ _
        case len => unfold maxLen; omega
        case bytes => omega
        case base => have := HL.out.2.2.2.size; simp; omega
        case grow =>
          intro v1 w3 k1 g1 _ _
          have HF : Hid (Fr (fun _ => False) w w3) := grown_new (HL.out.2.2.2.alloc (Obj.cells #[.int .i64 (x + 32)] 3)) (HL.out.1.keep ((Fr.refl _ _).alloc _)) (Nat.le_refl _) g1
          have HM2 : Hid (∃ a' c', v1 = .slice a' (nl + 1) c' ∧ Row w3 w.heap.size a' c' (L ++ [x + 32])) := Hid.mk0 (Row.of (by rw [List.length_append, HL.out.2.1]; first | rfl | rw [HW.out.2.2.1]) (by rw [ints_append]; exact k1))
          clear g1 k1
          obtain ⟨a', c', rfl, hm⟩ := HM2.out
          have HM3 : Hid (Row w3 w.heap.size a' c' (L ++ [x + 32])) := hm
          clear hm HM2
          go_wp2
          exact ⟨⟨i + 1, nl + 1, a', c', rfl, by go_num, by omega, Mk1.step HX1.out HL.out.2.2.1 HFX.out.symm HM3.out HL.out.2.1 (by first | rfl | exact HW.out.2.2.1) HF.out⟩, by simp [intOf]; omega⟩
      · go_cut [24] (fun v wc => v = .bool false ∧ wc = W)
        case first =>
          by_cases u1 : 65 ≤ x
          · have u2 : ¬ x ≤ 90 := fun h => hup ⟨u1, h⟩
            go_wp2
            go_meet
            case rel => exact ⟨rfl, rfl⟩
          · go_wp2
            go_meet
            case rel => exact ⟨rfl, rfl⟩
        case rest =>
          obtain ⟨rfl, rfl⟩ := hcut
          obtain ⟨W, hWW⟩ : ∃ W, W = wc := ⟨_, rfl⟩
          subst hWW
          have hfr := foldL_raw hup
          by_cases hrf : rawFold x = []
          · rw [if_pos hrf] at hfr
            have HFX : Hid (foldL true x = [x]) := hfr
            have hnf0 : nf = 0 := by have := HW.out.2.2.1; rw [hrf] at this; exact this
            subst hnf0
            clear hfr hrf hup
            go_wp2_with (at_builtin; refine wpList_append_own_at _ rfl _ _ 31 rfl w.heap.size 3 i0 (.int .i64 0) 1 8 Tryz.underlying31 HI.out.1 HI.out.2.1 HI.out.2.2.1 HI.out.2.2.2 rfl (by decide) (.slice a8 nl c8) nl (ints L) rfl ?own ⟨W.heap.size, 0, none⟩ 1 1 (ints [x]) rfl ?ln ?cells (ints_one _) ?len ?bytes ?base ?grow)
            case own => exact (HL.out.1.keep ((Fr.refl (fun _ => False) W).alloc (Obj.cells #[.int .i64 x] 3))).row HL.out.2.1.symm
            case ln => rfl
            case cells => exact cell_one_new _ _ _
            case len => unfold maxLen; omega
            case bytes => omega
            case base => have := HL.out.2.2.2.size; simp; omega
            case grow =>
              intro v1 w3 k1 g1 _ _
              have HF : Hid (Fr (fun _ => False) w w3) := grown_new (HL.out.2.2.2.alloc (Obj.cells #[.int .i64 x] 3)) (HL.out.1.keep ((Fr.refl _ _).alloc _)) (Nat.le_refl _) g1
              have HM2 : Hid (∃ a' c', v1 = .slice a' (nl + 1) c' ∧ Row w3 w.heap.size a' c' (L ++ [x])) := Hid.mk0 (Row.of (by rw [List.length_append, HL.out.2.1]; first | rfl | rw [HW.out.2.2.1]) (by rw [ints_append]; exact k1))
              clear g1 k1
              obtain ⟨a', c', rfl, hm⟩ := HM2.out
              have HM3 : Hid (Row w3 w.heap.size a' c' (L ++ [x])) := hm
              clear hm HM2
              go_wp2
              exact ⟨⟨i + 1, nl + 1, a', c', rfl, by go_num, by omega, Mk1.step HX1.out HL.out.2.2.1 HFX.out.symm HM3.out HL.out.2.1 (by first | rfl | exact HW.out.2.2.1) HF.out⟩, by simp [intOf]; omega⟩
          · rw [if_neg hrf] at hfr
            obtain ⟨M, hM⟩ : ∃ M, M = rawFold x := ⟨_, rfl⟩
            rw [← hM] at hfr
            rw [← hM] at HW
            have HFX : Hid (foldL true x = M) := hfr
            obtain ⟨gm, rfl, hnews⟩ := HW.out.2.1.news (by rw [hM]; exact hrf)
            have HNW : Hid (∀ j u, (ints M)[j]? = some u → W.cell? ((⟨gm, 0, none⟩ : Addr).add j) = some u) := hnews
            have hn1 : (0 : Int) < (nf : Int) := by
              have h1 := HW.out.2.2.1
              have h2 := List.length_pos_iff.2 hrf
              rw [← hM] at h2
              omega
            clear hfr hrf hup hnews hM
            go_wp2_with (at_builtin; refine wpList_append_own_at _ rfl _ _ 31 rfl w.heap.size 3 i0 (.int .i64 0) 1 8 Tryz.underlying31 HI.out.1 HI.out.2.1 HI.out.2.2.1 HI.out.2.2.2 rfl (by decide) (.slice a8 nl c8) nl (ints L) rfl ?own ⟨gm, 0, none⟩ nf cb (ints M) rfl ?ln ?cells (ints_one _) ?len ?bytes ?base ?grow)
            case own => exact HL.out.1.row HL.out.2.1.symm
            case ln => rw [ints_length, HW.out.2.2.1, Nat.mul_one]
            case cells => exact HNW.out
            case len => unfold maxLen; omega
            case bytes => omega
            case base => exact HL.out.2.2.2.size
            case grow =>
              intro v1 w3 k1 g1 _ _
              have HF : Hid (Fr (fun _ => False) w w3) := grown_new HL.out.2.2.2 HL.out.1 (Nat.le_refl _) g1
              have HM2 : Hid (∃ a' c', v1 = .slice a' (nl + nf) c' ∧ Row w3 w.heap.size a' c' (L ++ M)) := Hid.mk0 (Row.of (by rw [List.length_append, HL.out.2.1]; first | rfl | rw [HW.out.2.2.1]) (by rw [ints_append]; exact k1))
              clear g1 k1
              obtain ⟨a', c', rfl, hm⟩ := HM2.out
              have HM3 : Hid (Row w3 w.heap.size a' c' (L ++ M)) := hm
              clear hm HM2
              go_wp2
              exact ⟨⟨i + 1, nl + nf, a', c', rfl, by go_num, by omega, Mk1.step HX1.out HL.out.2.2.1 HFX.out.symm HM3.out HL.out.2.1 (by first | rfl | exact HW.out.2.2.1) HF.out⟩, by simp [intOf]; omega⟩
    · obtain rfl : i = n := by omega
      have hall : (l.take i).flatMap (foldL true) = l.flatMap (foldL true) := by rw [List.take_of_length_le (by have := HN.out.2; omega)]
      have HX2 : Hid (Row wr w.heap.size a8 c8 (l.flatMap (foldL true)) ∧ nl = (l.flatMap (foldL true)).length ∧ Fr (fun _ => False) w wr) := ⟨by rw [← hall]; exact HX.out.row, by rw [← hall]; exact HX.out.len, HX.out.fr⟩
      clear hall HX
      go_wp2
      go_ret
      exact ⟨a8, c8, nl, rfl, HX2.out.2.1, HX2.out.1, HX2.out.2.2⟩

end Go.Proofs.YtmhaknejeobfgabGreatDoor

/- Ref12. -/
namespace Go.Proofs.YtmhaknejeobfgabGreatDoor
open Go.Proofs.YtmhaknejeobfgabGreatDoor.Stable

def cntP (p : Int → Bool) (l : List Int) : Nat := (l.filter p).length

theorem cntP_cons (p : Int → Bool) (x : Int) (l : List Int) : cntP p (x :: l) = (if p x = true then 1 else 0) + cntP p l := by
  unfold cntP
  by_cases h : p x = true
  · rw [List.filter_cons_of_pos h, List.length_cons, if_pos h]; omega
  · rw [List.filter_cons_of_neg h, if_neg h]; omega

theorem cntP_ins (cls : Int → Int) (p : Int → Bool) (x : Int) : ∀ l, cntP p (insC cls x l) = cntP p (x :: l)
  | [] => rfl
  | y :: r => by
    unfold insC
    split
    · rfl
    · rw [cntP_cons, cntP_ins cls p x r, cntP_cons, cntP_cons, cntP_cons]
      omega

theorem cntP_sort (cls : Int → Int) (p : Int → Bool) : ∀ l, cntP p (sortC cls l) = cntP p l
  | [] => rfl
  | x :: r => by rw [sortC, cntP_ins, cntP_cons, cntP_sort cls p r, cntP_cons]

/-- How many are less. -/
def lowC (cls : Int → Int) (c : Int) (l : List Int) : Nat := cntP (fun y => decide (cls y < c)) l

theorem lowC_cons (cls : Int → Int) (c x : Int) (l : List Int) : lowC cls c (x :: l) = (if cls x < c then 1 else 0) + lowC cls c l := by
  unfold lowC
  rw [cntP_cons]
  simp

theorem lowC_none (cls : Int → Int) {c : Int} : ∀ {l : List Int}, (∀ y ∈ l, c ≤ cls y) → lowC cls c l = 0
  | [], _ => rfl
  | y :: r, h => by
    have h1 := h y (by simp)
    rw [lowC_cons, if_neg (by omega), lowC_none cls (fun z hz => h z (by simp [hz]))]

theorem lowC_le (cls : Int → Int) (c : Int) : ∀ l : List Int, lowC cls c l ≤ l.length
  | [] => Nat.le_refl _
  | y :: r => by
    have := lowC_le cls c r
    rw [lowC_cons, List.length_cons]
    split <;> omega

/-- In what is sorted the lesser ones stand first. -/
theorem low_at (cls : Int → Int) {c : Int} : ∀ {l : List Int}, SortedC cls l → ∀ {j : Nat} {y : Int}, l[j]? = some y → (cls y < c ↔ j < lowC cls c l)
  | [], _, j, y, h => by cases h
  | x :: r, hs, j, y, h => by
    rcases List.pairwise_cons.1 hs with ⟨h1, h2⟩
    rw [lowC_cons]
    cases j with
    | zero =>
      cases h
      by_cases hx : cls x < c
      · rw [if_pos hx]; exact ⟨fun _ => by omega, fun _ => hx⟩
      · rw [if_neg hx, lowC_none cls (fun z hz => by have := h1 z hz; omega)]
        exact ⟨fun k => absurd k hx, fun k => by omega⟩
    | succ j =>
      have h3 := low_at cls (c := c) h2 (j := j) (y := y) h
      by_cases hx : cls x < c
      · rw [if_pos hx, h3]; omega
      · have h4 := h1 y (List.mem_of_getElem? (by exact h))
        rw [if_neg hx, lowC_none cls (fun z hz => by have := h1 z hz; omega)]
        exact ⟨fun k => by omega, fun k => by omega⟩

theorem ins_at (cls : Int → Int) (x : Int) : ∀ {l : List Int}, SortedC cls l → (insC cls x l)[lowC cls (cls x) l]? = some x ∧ (∀ j, j < lowC cls (cls x) l → (insC cls x l)[j]? = l[j]?) ∧ ∀ j, lowC cls (cls x) l ≤ j → (insC cls x l)[j + 1]? = l[j]?
  | [], _ => ⟨rfl, fun j hj => absurd hj (Nat.not_lt_zero _), fun j _ => by simp [insC]⟩
  | y :: r, hs => by
    rcases List.pairwise_cons.1 hs with ⟨h1, h2⟩
    rw [lowC_cons]
    unfold insC
    by_cases h : cls x ≤ cls y
    · rw [if_pos h, if_neg (by omega), lowC_none cls (fun z hz => by have := h1 z hz; omega)]
      exact ⟨rfl, fun j hj => absurd hj (Nat.not_lt_zero _), fun j _ => rfl⟩
    · obtain ⟨a, b, c⟩ := ins_at cls x h2
      rw [if_neg h, if_pos (by omega)]
      refine ⟨?_, fun j hj => ?_, fun j hj => ?_⟩
      · rw [Nat.add_comm]; exact a
      · cases j with
        | zero => rfl
        | succ j => exact b j (by omega)
      · cases j with
        | zero => omega
        | succ j => exact c j (by omega)

/-- Does k stand ahead of i? -/
abbrev less (cls : Int → Int) (l : List Int) (k i : Nat) : Prop := cls (l.getD k 0) < cls (l.getD i 0) ∨ (cls (l.getD k 0) = cls (l.getD i 0) ∧ k < i)

def rankN (cls : Int → Int) (l : List Int) (i : Nat) : Nat → Nat
  | 0 => 0
  | k + 1 => rankN cls l i k + if less cls l k i then 1 else 0

def rank (cls : Int → Int) (l : List Int) (i : Nat) : Nat := rankN cls l i l.length

theorem rank_head (cls : Int → Int) (x : Int) (r : List Int) : ∀ m, m ≤ r.length → rankN cls (x :: r) 0 (m + 1) = lowC cls (cls x) (r.take m)
  | 0, _ => by
    unfold rankN rankN less
    simp [lowC, cntP]
  | m + 1, h => by
    have ih := rank_head cls x r m (by omega)
    rw [rankN, ih]
    have hx : r[m]? = some (r[m]'(by omega)) := List.getElem?_eq_getElem (by omega)
    have e : r.take (m + 1) = r.take m ++ [r[m]'(by omega)] := by rw [List.take_add_one, hx]; rfl
    have e2 : lowC cls (cls x) (r.take (m + 1)) = lowC cls (cls x) (r.take m) + if cls (r[m]'(by omega)) < cls x then 1 else 0 := by
      rw [e]
      unfold lowC cntP
      rw [List.filter_append, List.length_append]
      congr 1
      by_cases h : cls (r[m]'(by omega)) < cls x
      · simp [h]
      · simp [h]
    rw [e2]
    congr 1
    have hd : (x :: r).getD (m + 1) 0 = r[m]'(by omega) := by simp [List.getD, hx]
    have e3 : less cls (x :: r) (m + 1) 0 ↔ cls (r[m]'(by omega)) < cls x := by
      unfold less
      rw [hd]
      have h0 : (x :: r).getD 0 0 = x := rfl
      rw [h0]
      omega
    by_cases h : cls (r[m]'(by omega)) < cls x
    · rw [if_pos (e3.2 h), if_pos h]
    · rw [if_neg (fun k => h (e3.1 k)), if_neg h]

theorem rank_tail (cls : Int → Int) (x : Int) (r : List Int) (i : Nat) : ∀ m, rankN cls (x :: r) (i + 1) (m + 1) = (if cls x ≤ cls (r.getD i 0) then 1 else 0) + rankN cls r i m
  | 0 => by
    have e3 : less cls (x :: r) 0 (i + 1) ↔ cls x ≤ cls (r.getD i 0) := by
      unfold less
      have h0 : (x :: r).getD 0 0 = x := rfl
      have h1 : (x :: r).getD (i + 1) 0 = r.getD i 0 := rfl
      rw [h0, h1]
      omega
    unfold rankN rankN
    by_cases h : cls x ≤ cls (r.getD i 0)
    · rw [if_pos h, if_pos (e3.2 h)]
    · rw [if_neg h, if_neg (fun k => h (e3.1 k))]
  | m + 1 => by
    have ih := rank_tail cls x r i m
    rw [rankN, ih, rankN]
    have e : (less cls (x :: r) (m + 1) (i + 1)) ↔ less cls r m i := by
      unfold less
      have h1 : (x :: r).getD (i + 1) 0 = r.getD i 0 := rfl
      have h2 : (x :: r).getD (m + 1) 0 = r.getD m 0 := rfl
      rw [h1, h2]
      omega
    by_cases h : less cls r m i
    · rw [if_pos h, if_pos (e.2 h)]; omega
    · rw [if_neg h, if_neg (fun k => h (e.1 k))]; omega

theorem rank_ok (cls : Int → Int) : ∀ l : List Int, (∀ k x, l[k]? = some x → (sortC cls l)[rank cls l k]? = some x) ∧ ∀ j, j < l.length → ∃ k, k < l.length ∧ rank cls l k = j
  | [] => ⟨fun k x h => (by cases h), fun j h => absurd h (Nat.not_lt_zero _)⟩
  | x :: r => by
    obtain ⟨A, B⟩ := rank_ok cls r
    have hs := sortC_sorted cls r
    obtain ⟨i1, i2, i3⟩ := ins_at cls x hs
    have hlow : lowC cls (cls x) (sortC cls r) = lowC cls (cls x) r := cntP_sort cls _ r
    have r0 : rank cls (x :: r) 0 = lowC cls (cls x) r := by
      unfold rank
      rw [List.length_cons, rank_head cls x r r.length (Nat.le_refl _), List.take_length]
    have rs : ∀ k, rank cls (x :: r) (k + 1) = (if cls x ≤ cls (r.getD k 0) then 1 else 0) + rank cls r k := fun k => by
      unfold rank
      rw [List.length_cons, rank_tail]
    have low_of : ∀ k y, r[k]? = some y → (cls y < cls x ↔ rank cls r k < lowC cls (cls x) r) := fun k y hk => by
      rw [← hlow]
      exact low_at cls hs (A k y hk)
    refine ⟨fun k y hk => ?_, fun j hj => ?_⟩
    · rw [sortC]
      cases k with
      | zero =>
        cases hk
        rw [r0, ← hlow]
        exact i1
      | succ k =>
        have hk' : r[k]? = some y := hk
        have hd : r.getD k 0 = y := by simp [List.getD, hk']
        rw [rs, hd]
        by_cases h : cls y < cls x
        · have := (low_of k y hk').1 h
          rw [if_neg (by omega), Nat.zero_add, i2 _ (by omega)]
          exact A k y hk'
        · have h2 : ¬ rank cls r k < lowC cls (cls x) r := fun h3 => h ((low_of k y hk').2 h3)
          rw [if_pos (by omega), Nat.add_comm, i3 _ (by omega)]
          exact A k y hk'
    · rw [List.length_cons] at hj ⊢
      rcases Nat.lt_trichotomy j (lowC cls (cls x) r) with h | h | h
      · obtain ⟨k, k1, k2⟩ := B j (by have := lowC_le cls (cls x) r; omega)
        have hk : r[k]? = some r[k] := List.getElem?_eq_getElem k1
        have hd : r.getD k 0 = r[k] := by simp [List.getD, hk]
        refine ⟨k + 1, by omega, ?_⟩
        have := (low_of k _ hk).2 (by omega)
        rw [rs, hd, if_neg (by omega), k2, Nat.zero_add]
      · exact ⟨0, by omega, by rw [r0, h]⟩
      · obtain ⟨k, k1, k2⟩ := B (j - 1) (by omega)
        have hk : r[k]? = some r[k] := List.getElem?_eq_getElem k1
        have hd : r.getD k 0 = r[k] := by simp [List.getD, hk]
        refine ⟨k + 1, by omega, ?_⟩
        have h2 : ¬ cls r[k] < cls x := fun h3 => by have := (low_of k _ hk).1 h3; omega
        rw [rs, hd, if_pos (by omega), k2]
        omega

theorem rank_lt (cls : Int → Int) {l : List Int} {k : Nat} (h : k < l.length) : rank cls l k < l.length := by
  have h1 := (rank_ok cls l).1 k _ (List.getElem?_eq_getElem h)
  have := (List.getElem?_eq_some_iff.1 h1).1
  rwa [sortC_length] at this

/-- What has been put in its place. -/
def Placed (cls : Int → Int) (l O : List Int) (i : Nat) : Prop := O.length = l.length ∧ ∀ k, k < i → O[rank cls l k]? = (sortC cls l)[rank cls l k]?

theorem Placed.step {cls : Int → Int} {l O : List Int} {i : Nat} {x : Int} (h : Placed cls l O i) (hx : l[i]? = some x) : Placed cls l (O.set (rank cls l i) x) (i + 1) := by
  refine ⟨by rw [List.length_set]; exact h.1, fun k hk => ?_⟩
  have hil := (List.getElem?_eq_some_iff.1 hx).1
  have hr := rank_lt cls hil
  by_cases e : rank cls l k = rank cls l i
  · rw [e, List.getElem?_set_self (by rw [h.1]; exact hr), (rank_ok cls l).1 i x hx]
  · rw [List.getElem?_set_ne (fun q => e q.symm)]
    by_cases hki : k = i
    · subst hki; exact absurd rfl e
    · exact h.2 k (by omega)

theorem Placed.all {cls : Int → Int} {l O : List Int} (h : Placed cls l O l.length) : O = sortC cls l := by
  apply List.ext_getElem?
  intro j
  by_cases hj : j < l.length
  · obtain ⟨k, k1, rfl⟩ := (rank_ok cls l).2 j hj
    exact h.2 k k1
  · rw [List.getElem?_eq_none (by rw [h.1]; omega), List.getElem?_eq_none (by rw [sortC_length]; omega)]

end Go.Proofs.YtmhaknejeobfgabGreatDoor

/- Ref13. -/
namespace Go.Proofs.YtmhaknejeobfgabGreatDoor
open Go.RowKit Go.Proofs.YtmhaknejeobfgabGreatDoor.Stable Go.Proofs.YtmhaknejeobfgabGreatDoor.Order Go.Proofs.YtmhaknejeobfgabGreatDoor.Points
attribute [local go_sem ↓] Go.wp_at_zero Go.wp_at_succ

theorem made_zero (n : Nat) : madeCells #[.int .i64 0] n = (ints (List.replicate n 0)).toArray := by
  apply Array.ext
  · simp [madeCells, ints]
  · intro i h1 h2
    simp [madeCells, ints]
    rw [Nat.mod_one]
    rfl

theorem ints_set (O : List Int) (i : Nat) (x : Int) : (ints O).toArray.setIfInBounds i (.int .i64 x) = (ints (O.set i x)).toArray := by
  simp [ints, List.map_set]

theorem ints_at {O : List Int} {i : Nat} (h : i < O.length) : ∃ v, (ints O).toArray[i]? = some v := ⟨_, Array.getElem?_eq_getElem (by simp [ints, h])⟩

/-- How far the ordering has come. -/
structure Ordg (w wr : World) (l O : List Int) (i : Nat) : Prop where
  blk : wr.heap[w.heap.size]? = some (.cells (ints O).toArray 3 (0, 0))
  pl : Placed clsOf l O i
  fr : Fr (fun _ => False) w wr

theorem Ordg.keep {w wr w' : World} {l O : List Int} {i : Nat} (h : Ordg w wr l O i) (f : Fr (fun _ => False) wr w') : Ordg w w' l O i :=
  ⟨(f.block _ (lt_of h.blk) id).trans h.blk, h.pl, h.fr.trans f (fun _ _ h => h)⟩

theorem Ordg.start (w : World) (l : List Int) {n : Nat} (hn : n = l.length) : Ordg w (w.alloc (.cells (madeCells #[.int .i64 0] n) 3)) l (List.replicate n 0) 0 := by
  refine ⟨?_, ⟨by simp [hn], fun k hk => absurd hk (Nat.not_lt_zero _)⟩, (Fr.refl _ _).alloc _⟩
  rw [← made_zero]
  exact heap_alloc_new w _

theorem Ordg.step {w wr : World} {l O : List Int} {i r : Nat} {x : Int} (h : Ordg w wr l O i) (hx : l[i]? = some x) (hr : r = rank clsOf l i) : Ordg w (wr.setCell ⟨w.heap.size, r, none⟩ (.int .i64 x)) l (O.set r x) (i + 1) := by
  refine ⟨?_, by rw [hr]; exact h.pl.step hx, h.fr.setCell _ _ (fun k => by have : w.heap.size < w.heap.size := k; omega)⟩
  rw [set_of h.blk, ints_set]

theorem Ordg.done {w wr : World} {l O : List Int} {n : Nat} (h : Ordg w wr l O n) (hn : n = l.length) (hl : n ≤ 68719476736) : Row wr w.heap.size (some ⟨w.heap.size, 0, none⟩) n (sortC clsOf l) := by
  subst hn
  have e := h.pl.all
  subst e
  have hs := sortC_length clsOf l
  have hz : (ints (sortC clsOf l)).toArray.size = l.length := by simp [ints, hs]
  refine ⟨by rw [ints_length, Nat.mul_one], .inr ⟨w.heap.size, l.length, _, by rw [hs], Nat.le_refl _, h.blk, by omega, by unfold maxLen; omega, by omega, ?_⟩⟩
  rw [List.take_of_length_le (by simp [ints])]

theorem Row.news2 {w : World} {base g : Nat} {cp : Nat} {l : List Int} (h : Row w base (some ⟨g, 0, Option.none⟩) cp l) : ∀ j u, (YtmhaknejeobfgabGreatDoor.ints l)[j]? = some u → w.cell? ((⟨g, 0, Option.none⟩ : Addr).add j) = some u := by
  by_cases hl : l = []
  · subst hl
    intro j u hu
    cases hu
  · obtain ⟨g', e, h2⟩ := h.news hl
    cases e
    exact h2

theorem Row.cap {w : World} {base : Nat} {a : Option Addr} {cp : Nat} {l : List Int} (h : Row w base a cp l) : l.length ≤ cp := by
  rcases h.2 with ⟨hn, h0⟩ | ⟨g, cap, cur, hs, hb, hgg, h1, h2, h3, h4⟩
  · omega
  · cases hs
    omega

theorem getD_of {l : List Int} {i : Nat} {x : Int} (h : l[i]? = some x) : l.getD i 0 = x := by simp [List.getD, h]

set_option maxRecDepth 100000 in
set_option maxHeartbeats 1600000 in
theorem ordered_calls {w : World} {a : Option Addr} {l : List Int} {cp n : Nat} (h : Nums w a l) (hn : n = l.length) :
    Calls Tryz.prog 114 #[.slice a n cp] w fun e w' => e = .returned (.slice (some ⟨w.heap.size, 0, none⟩) n n) ∧ Row w' w.heap.size (some ⟨w.heap.size, 0, none⟩) n (sortC clsOf l) ∧ Fr (fun _ => False) w w' := by
  have hnb : n ≤ 68719476736 := by rw [hn]; exact h.len
  have hmk := fun w => run_make_row' (P := Tryz.prog) 31 3 (.int .i64 0) 8 Tryz.underlying31 Tryz.info_int rfl .i64 .i64 n (by omega) (by omega) w
  have HN : Hid (Nums w a l ∧ n = l.length) := ⟨h, hn⟩
  clear h hn
  go_enter Tryz.func114, Tryz.ntmps114
  go_wp2
  go_loopw [4] (fun v4 wr => ∃ (i : Nat) (O : List Int), v4 = .int .i64 i ∧ i ≤ n ∧ Hid (Ordg w wr l O i)) (fun v4 _ => n - (intOf v4).toNat)
  case atStart => exact ⟨0, _, rfl, Nat.zero_le _, Ordg.start w l HN.out.2⟩
  case round =>
    obtain ⟨i, O, rfl, hi, HX⟩ := hrel
    by_cases hlt : i < n
    · obtain ⟨x, hx⟩ : ∃ x, l[i]? = some x := ⟨_, List.getElem?_eq_getElem (by have := HN.out.2; omega)⟩
      obtain ⟨x0, x1⟩ := HN.out.1.ok x (List.mem_of_getElem? hx)
      obtain ⟨b, off, rfl, hcx⟩ := (HN.out.1.keep HX.out.fr).at_ i x hx
      have i1 : (0 : Int) ≤ (i : Int) := by omega
      have i2 : (i : Int) < (n : Int) := by omega
      have HX1 : Hid (l[i]? = some x ∧ wr.cell? ⟨b, off + i, none⟩ = some (.int .i64 x)) := ⟨hx, hcx⟩
      clear hx
      go_wp2_with fail
      refine (fact_calls x _ x0 x1).mono ?_
      rintro e w1 ⟨af, ca, bf, cb, rfl, -, hf1⟩
      rw [factV_eq]
      obtain ⟨np, hnp⟩ : ∃ np, np = (rawParts x).length := ⟨_, rfl⟩
      obtain ⟨nf, hnf⟩ : ∃ nf, nf = (rawFold x).length := ⟨_, rfl⟩
      obtain ⟨z, hz⟩ : ∃ z, z = clsOf x := ⟨_, rfl⟩
      obtain ⟨kd, hkd⟩ : ∃ kd, kd = kindOf x := ⟨_, rfl⟩
      rw [← hnp, ← hnf, ← hz, ← hkd]
      have HZ : Hid (z = clsOf (l.getD i 0)) := Hid.mk0 (by rw [getD_of HX1.out.1]; exact hz)
      have HF1 : Hid (Fr (fun _ => False) wr w1) := hf1
      clear hf1 hnp hnf hz hkd hcx
      go_upto_region 6 with fail
      change Code.wp _ _ _ _ (w1.alloc (factC z kd af np ca bf nf cb))
      have hv : (w1.alloc (factC z kd af np ca bf nf cb)).heap[w1.heap.size]? = some (factC z kd af np ca bf nf cb) := heap_alloc_new w1 _
      have fW : Fr (fun _ => False) wr (w1.alloc (factC z kd af np ca bf nf cb)) := HF1.out.alloc _
      have HW : Hid ((w1.alloc (factC z kd af np ca bf nf cb)).heap[w1.heap.size]? = some (factC z kd af np ca bf nf cb) ∧ Ordg w (w1.alloc (factC z kd af np ca bf nf cb)) l O i ∧ Nums (w1.alloc (factC z kd af np ca bf nf cb)) (some ⟨b, off, none⟩) l) := ⟨hv, HX.out.keep fW, (HN.out.1.keep HX.out.fr).keep fW⟩
      obtain ⟨vf, hvf⟩ : ∃ vf, vf = w1.heap.size := ⟨_, rfl⟩
      rw [← hvf] at HW ⊢
      have HX3 : Hid (l[i]? = some x) := HX1.out.1
      clear hv HF1 hvf fW HX1 HX
      generalize w1.alloc (factC z kd af np ca bf nf cb) = W at *
      go_wp2
      go_loopw [6, 7] (fun v6 v7 wr => ∃ (k r : Nat), v6 = .int .i64 r ∧ v7 = .int .i64 k ∧ k ≤ n ∧ r ≤ k ∧ Hid (r = rankN clsOf l i k ∧ Fr (fun _ => False) W wr)) (fun _ v7 _ => n - (intOf v7).toNat)
      case atStart => exact ⟨0, 0, rfl, rfl, Nat.zero_le _, Nat.le_refl _, rfl, Fr.refl _ _⟩
      case round =>
        obtain ⟨k, r, rfl, rfl, hk, hr, HK⟩ := hrel
        by_cases hlt2 : k < n
        · obtain ⟨y, hy⟩ : ∃ y, l[k]? = some y := ⟨_, List.getElem?_eq_getElem (by have := HN.out.2; omega)⟩
          obtain ⟨y0, y1⟩ := HN.out.1.ok y (List.mem_of_getElem? hy)
          obtain ⟨b', off', hbo, hcy⟩ := (HW.out.2.2.keep HK.out.2).at_ k y hy
          cases hbo
          have k1 : (0 : Int) ≤ (k : Int) := by omega
          have k2 : (k : Int) < (n : Int) := by omega
          have HY : Hid (l[k]? = some y) := hy
          clear hy
          go_wp2_with fail
          refine (fact_calls y _ y0 y1).mono ?_
          rintro e w2 ⟨ag, da, bg, db, rfl, -, hf2⟩
          rw [factV_eq]
          obtain ⟨mp, hmp⟩ : ∃ np, np = (rawParts y).length := ⟨_, rfl⟩
          obtain ⟨mf, hmf⟩ : ∃ nf, nf = (rawFold y).length := ⟨_, rfl⟩
          obtain ⟨z2, hz2⟩ : ∃ z, z = clsOf y := ⟨_, rfl⟩
          obtain ⟨kd2, hkd2⟩ : ∃ kd, kd = kindOf y := ⟨_, rfl⟩
          rw [← hmp, ← hmf, ← hz2, ← hkd2]
          have HZ2 : Hid (z2 = clsOf (l.getD k 0)) := Hid.mk0 (by rw [getD_of HY.out]; exact hz2)
          have HF2 : Hid (Fr (fun _ => False) wr w2) := hf2
          clear hf2 hmp hmf hz2 hkd2 hcy
          go_upto_region 11 with fail
          change Code.wp _ _ _ _ (w2.alloc (factC z2 kd2 ag mp da bg mf db))
          have hv2 : (w2.alloc (factC z2 kd2 ag mp da bg mf db)).heap[w2.heap.size]? = some (factC z2 kd2 ag mp da bg mf db) := heap_alloc_new w2 _
          have fW2 : Fr (fun _ => False) W (w2.alloc (factC z2 kd2 ag mp da bg mf db)) := (HK.out.2.trans HF2.out (fun _ _ h => h)).alloc _
          have HW2 : Hid ((w2.alloc (factC z2 kd2 ag mp da bg mf db)).heap[w2.heap.size]? = some (factC z2 kd2 ag mp da bg mf db) ∧ Fr (fun _ => False) W (w2.alloc (factC z2 kd2 ag mp da bg mf db))) := ⟨hv2, fW2⟩
          obtain ⟨vg, hvg⟩ : ∃ vg, vg = w2.heap.size := ⟨_, rfl⟩
          rw [← hvg] at HW2 ⊢
          clear hv2 hvg fW2 HF2
          generalize w2.alloc (factC z2 kd2 ag mp da bg mf db) = W2 at *
          have d1 : W2.cell? ⟨vg, 0, none⟩ = some (.int .i64 z2) := cell_of HW2.out.1 rfl
          have d2 : W2.cell? ⟨vf, 0, none⟩ = some (.int .i64 z) := cell_of ((HW2.out.2.block _ (lt_of HW.out.1) id).trans HW.out.1) rfl
          have hls : less clsOf l k i ↔ (z2 < z ∨ (z2 = z ∧ k < i)) := by
            unfold less
            rw [← HZ.out, ← HZ2.out]
          by_cases c1 : z2 < z
          · have HR : Hid (r + 1 = rankN clsOf l i (k + 1)) := Hid.mk0 (by rw [rankN, ← HK.out.1, if_pos (hls.2 (.inl c1))])
            have HF3 : Hid (Fr (fun _ => False) W W2) := HW2.out.2
            clear hls HK HZ2 HW2
            go_wp2
            exact ⟨⟨k + 1, r + 1, by go_num, by go_num, by omega, by omega, HR.out, HF3.out⟩, by simp [intOf]; omega⟩
          · by_cases c2 : z2 = z ∧ k < i
            · obtain ⟨c2, c3⟩ := c2
              have HR : Hid (r + 1 = rankN clsOf l i (k + 1)) := Hid.mk0 (by rw [rankN, ← HK.out.1, if_pos (hls.2 (.inr ⟨c2, c3⟩))])
              have HF3 : Hid (Fr (fun _ => False) W W2) := HW2.out.2
              clear hls HK HZ2 HW2
              subst c2
              have c4 : (k : Int) < (i : Int) := by omega
              go_wp2
              exact ⟨⟨k + 1, r + 1, by go_num, by go_num, by omega, by omega, HR.out, HF3.out⟩, by simp [intOf]; omega⟩
            · have HR : Hid (r = rankN clsOf l i (k + 1)) := Hid.mk0 (by rw [rankN, ← HK.out.1, if_neg (fun h => by rcases hls.1 h with h | h; exact c1 h; exact c2 h)]; rfl)
              have HF3 : Hid (Fr (fun _ => False) W W2) := HW2.out.2
              clear hls HK HZ2 HW2
              go_cut [50] (fun v wc => v = .bool false ∧ wc = W2)
              case first =>
                by_cases c3 : z2 = z
                · have c4 : ¬ (k : Int) < (i : Int) := fun h => c2 ⟨c3, by omega⟩
                  subst c3
                  clear c2
                  go_wp2
                  go_meet
                  case rel => exact ⟨rfl, rfl⟩
                · have c4 : (z2 == z) = false := by rw [beq_eq_false_iff_ne]; exact c3
                  clear c2
                  go_wp2
                  go_meet
                  case rel => exact ⟨rfl, rfl⟩
              case rest =>
                obtain ⟨rfl, rfl⟩ := hcut
                clear c2
                go_wp2
                exact ⟨⟨k + 1, r, rfl, by go_num, by omega, by omega, HR.out, HF3.out⟩, by simp [intOf]; omega⟩
        · obtain rfl : k = n := by omega
          have hrk : r = rank clsOf l i := by rw [rank, ← HN.out.2]; exact HK.out.1
          have hrl : r < k := by rw [hrk, HN.out.2]; exact rank_lt clsOf (by have := HN.out.2; omega)
          have HO : Hid (Ordg w wr l O i ∧ r = rank clsOf l i) := ⟨HW.out.2.1.keep HK.out.2, hrk⟩
          obtain ⟨b', off', hbo, hcx⟩ := (HW.out.2.2.keep HK.out.2).at_ i x HX3.out
          cases hbo
          obtain ⟨v2, hv2⟩ := ints_at (O := O) (i := r) (by rw [HO.out.1.pl.1, ← HN.out.2]; exact hrl)
          have e1 : wr.cell? ⟨w.heap.size, r, none⟩ = some v2 := cell_of HO.out.1.blk hv2
          have e2 : wr.frozen? ⟨w.heap.size, r, none⟩ = false := frozen_of HO.out.1.blk r
          have r0 : (0 : Int) ≤ (r : Int) := by omega
          have r1 : (r : Int) < (k : Int) := by omega
          clear hrk hv2 HK
          go_wp2
          exact ⟨⟨i + 1, O.set r x, by go_num, by omega, HO.out.1.step HX3.out HO.out.2⟩, by simp [intOf]; omega⟩
    · obtain rfl : i = n := by omega
      have HX2 : Hid (Row wr w.heap.size (some ⟨w.heap.size, 0, none⟩) i (sortC clsOf l) ∧ Fr (fun _ => False) w wr) := ⟨HX.out.done HN.out.2 hnb, HX.out.fr⟩
      clear HX
      go_wp2
      go_ret
      exact ⟨rfl, HX2.out.1, HX2.out.2⟩

end Go.Proofs.YtmhaknejeobfgabGreatDoor

/- Ref14. -/
namespace Go.Proofs.YtmhaknejeobfgabGreatDoor
open Go.Proofs.YtmhaknejeobfgabGreatDoor.Stable Go.Proofs.YtmhaknejeobfgabGreatDoor.Order Go.Proofs.YtmhaknejeobfgabGreatDoor.Points

theorem rows_cls : facts.all (fun r => decide (0 ≤ r.cls)) = true := by decide +kernel

theorem cls_low (c : Int) : 0 ≤ clsOf c := by
  unfold clsOf
  cases h : look facts c with
  | none => exact Int.le_refl _
  | some r =>
    rcases look_some facts c none _ rfl with h2 | ⟨q, h2, h3, h4⟩
    · unfold look at h
      rw [h2] at h
      cases h
    · unfold look at h
      rw [h2] at h
      cases h
      have := List.all_eq_true.1 rows_cls _ h3
      simpa using this

/-- Where a stage stands that has seen i of them. -/
structure StA (all : List Int) (i fm : Nat) (out : List Int) (held : Nat) : Prop where
  le : fm ≤ i
  top : i ≤ all.length
  wait : (all.drop fm).take (i - fm) = waitOf false (all.take i)
  out : out = outOf false (all.take i)
  held : held = heldOf (all.take i)

theorem StA.start (all : List Int) : StA all 0 0 [] 0 := ⟨Nat.le_refl _, Nat.zero_le _, rfl, rfl, rfl⟩

theorem feed_mark {ms : List Int} {x : Int} (h : clsOf x ≠ 0) : feed clsOf ms [x] = (ms ++ [x], []) := by
  rw [feed, if_neg h, feed]

theorem feed_starter {ms : List Int} {x : Int} (h : clsOf x = 0) : feed clsOf ms [x] = ([], sortC clsOf ms ++ [x]) := by
  rw [feed, if_pos h, feed]

theorem StA.wlen {all : List Int} {i fm : Nat} {out : List Int} {held : Nat} (h : StA all i fm out held) : (waitOf false (all.take i)).length = i - fm := by
  have h1 := h.le
  have h2 := h.top
  rw [← h.wait, List.length_take, List.length_drop]
  omega

theorem take_next {all : List Int} {i : Nat} {x : Int} (hx : all[i]? = some x) : all.take (i + 1) = all.take i ++ [x] := by
  rw [List.take_add_one, hx]
  rfl

theorem StA.mark {all : List Int} {i fm : Nat} {out : List Int} {held : Nat} {x : Int} (h : StA all i fm out held) (hx : all[i]? = some x) (hc : clsOf x ≠ 0) : StA all (i + 1) fm out (max held (i - fm + 1)) := by
  have h1 := h.le
  have h2 := h.wlen
  have hlt : i < all.length := (List.getElem?_eq_some_iff.1 hx).1
  refine ⟨by omega, by omega, ?_, ?_, ?_⟩
  · rw [take_next hx, wait_snoc, feed_mark hc, ← h.wait]
    show _ = _ ++ [x]
    rw [show i + 1 - fm = i - fm + 1 by omega, List.take_add_one, List.getElem?_drop, show fm + (i - fm) = i by omega, hx]
    rfl
  · rw [take_next hx, out_snoc, feed_mark hc, List.append_nil]
    exact h.out
  · rw [take_next hx, heldOf_snoc, heldF, if_neg hc, heldF, ← h.held, h2]

theorem StA.starter {all : List Int} {i fm : Nat} {out : List Int} {held : Nat} {x : Int} (h : StA all i fm out held) (hx : all[i]? = some x) (hc : clsOf x = 0) : StA all (i + 1) (i + 1) ((out ++ sortC clsOf ((all.drop fm).take (i - fm))) ++ [x]) held := by
  have hlt : i < all.length := (List.getElem?_eq_some_iff.1 hx).1
  refine ⟨Nat.le_refl _, by omega, ?_, ?_, ?_⟩
  · rw [take_next hx, wait_snoc, feed_starter hc, Nat.sub_self, List.take_zero]
  · rw [take_next hx, out_snoc, feed_starter hc, h.wait, ← h.out, List.append_assoc]
  · rw [take_next hx, heldOf_snoc, heldF, if_pos hc, heldF, ← h.held]

theorem StA.ended {all : List Int} {i fm : Nat} {out : List Int} {held : Nat} (h : StA all i fm out held) (hi : i = all.length) : out ++ sortC clsOf ((all.drop fm).take (i - fm)) = outOf true all ∧ out = outOf false all ∧ held = heldOf all := by
  have e : all.take i = all := List.take_of_length_le (by omega)
  have h1 := h.wait
  have h2 := h.out
  have h3 := h.held
  rw [e] at h1 h2 h3
  exact ⟨by rw [out_end, h1, ← h2], h2, h3⟩

theorem got_len (k f : Bool) (l : List Int) : (l.flatMap (pieces k f)).length ≤ 18 * l.length := flat_length (fun c => (ok_all c).len k f) l

theorem heldF_le : ∀ (l ms : List Int) (mo : Nat), heldF mo ms l ≤ max mo (ms.length + l.length)
  | [], ms, mo => by rw [heldF]; omega
  | c :: l, ms, mo => by
    rw [heldF]
    split
    · have := heldF_le l [] mo
      simp only [List.length_cons, List.length_nil] at this ⊢
      omega
    · have := heldF_le l (ms ++ [c]) (max mo (ms.length + 1))
      simp only [List.length_cons, List.length_append, List.length_nil] at this ⊢
      omega

theorem held_le (l : List Int) : heldOf l ≤ l.length := by
  have := heldF_le l [] 0
  unfold heldOf
  simp at this
  omega

theorem out_le (e : Bool) (l : List Int) : (outOf e l).length ≤ l.length := by
  have := out_length e l
  omega

theorem got_valid {k f : Bool} {l : List Int} (h : ∀ c ∈ l, Valid c) : ∀ c ∈ l.flatMap (pieces k f), Valid c := fun c hc => by
  obtain ⟨d, hd, hx⟩ := List.mem_flatMap.1 hc
  exact (ok_all d).valid (h d hd) _ _ c hx

theorem flat_pieces (k : Bool) (l : List Int) : (l.flatMap (foldL true)).flatMap (apart k) = l.flatMap (pieces k true) := by
  induction l with
  | nil => rfl
  | cons c r ih => rw [List.flatMap_cons, List.flatMap_append, ih, List.flatMap_cons, pieces]

end Go.Proofs.YtmhaknejeobfgabGreatDoor

/- Ref15. -/
namespace Go.Proofs.YtmhaknejeobfgabGreatDoor
open Go.RowKit Go.Proofs.YtmhaknejeobfgabGreatDoor.Stable Go.Proofs.YtmhaknejeobfgabGreatDoor.Order Go.Proofs.YtmhaknejeobfgabGreatDoor.Points
attribute [local go_sem ↓] Go.wp_at_zero Go.wp_at_succ

theorem valid_range {c : Int} (h : Valid c) : 0 ≤ c ∧ c ≤ 1114111 := by unfold Valid at h; omega

theorem Nums.of {w : World} {a : Option Addr} {l : List Int} (h : IntsAt w a l) (hv : ∀ c ∈ l, Valid c) (hl : l.length ≤ 68719476736) : Nums w a l := ⟨h, fun c hc => valid_range (hv c hc), hl⟩

theorem addr_add (g j : Nat) : (⟨g, 0, none⟩ : Addr).add j = ⟨g, j, none⟩ := by unfold Addr.add; split <;> simp_all

theorem rk_lt (k : Bool) (c : Int) : rk k c < 3 := by
  unfold rk
  split
  · omega
  · split <;> omega

/-- What a stage gives. -/
structure StOut (w w' : World) (k f e : Bool) (l : List Int) (a : Option Addr) (c n hd : Nat) : Prop where
  row : Row w' w.heap.size a c (outOf e (l.flatMap (pieces k f)))
  len : n = (outOf e (l.flatMap (pieces k f))).length
  held : hd = heldOf (l.flatMap (pieces k f))
  fr : Fr (fun _ => False) w w'

/-- Where its last loop stands. -/
structure StL (w wr : World) (all : List Int) (e : Bool) (i fm hd no : Nat) (a : Option Addr) (c : Nat) (O : List Int) : Prop where
  row : Row wr w.heap.size a c O
  len : no = O.length
  fr : Fr (fun _ => False) w wr
  st : (i ≤ all.length ∧ StA all i fm O hd) ∨ (i = all.length + 1 ∧ O = outOf e all ∧ hd = heldOf all)

theorem StL.in {w wr : World} {all : List Int} {e : Bool} {i fm hd no : Nat} {a : Option Addr} {c : Nat} {O : List Int} (h : StL w wr all e i fm hd no a c O) (hi : i ≤ all.length) : StA all i fm O hd := by
  rcases h.st with h | h
  · exact h.2
  · omega

theorem StA.olen {all : List Int} {i fm : Nat} {out : List Int} {held : Nat} (h : StA all i fm out held) : out.length ≤ all.length ∧ held ≤ all.length := by
  have h1 := out_le false (all.take i)
  have h2 := held_le (all.take i)
  have h3 : (all.take i).length ≤ all.length := by rw [List.length_take]; omega
  rw [h.out, h.held]
  omega

theorem flat_plain (k : Bool) (l : List Int) : l.flatMap (apart k) = l.flatMap (pieces k false) := by
  induction l with
  | nil => rfl
  | cons c r ih => rw [List.flatMap_cons, List.flatMap_cons, ih, pieces_plain]

theorem fold_valid {l : List Int} (h : ∀ c ∈ l, Valid c) : ∀ c ∈ l.flatMap (foldL true), Valid c := fun c hc => by
  obtain ⟨d, hd, hx⟩ := List.mem_flatMap.1 hc
  have hv := h d hd
  by_cases hu : 65 ≤ d ∧ d ≤ 90
  · rw [foldL_up hu, List.mem_singleton] at hx
    subst hx
    unfold Valid
    omega
  · rw [foldL_raw hu] at hx
    split at hx
    · rw [List.mem_singleton] at hx
      subst hx
      exact hv
    · exact (raw_len d).2.2 c hx

/-- What is left when foldings have been put in. -/
def unfolded (f : Bool) (l : List Int) : List Int := if f = true then l.flatMap (foldL true) else l

theorem unfolded_is (k f : Bool) (l : List Int) : (unfolded f l).flatMap (apart k) = l.flatMap (pieces k f) := by
  unfold unfolded
  cases f with
  | true => rw [if_pos rfl, flat_pieces]
  | false => rw [if_neg (by decide), flat_plain]

theorem unfolded_valid {f : Bool} {l : List Int} (h : ∀ c ∈ l, Valid c) : ∀ c ∈ unfolded f l, Valid c := by
  unfold unfolded
  cases f with
  | true => rw [if_pos rfl]; exact fold_valid h
  | false => rw [if_neg (by decide)]; exact h

theorem unfolded_len (f : Bool) (l : List Int) : (unfolded f l).length ≤ 18 * l.length := by
  unfold unfolded
  cases f with
  | true => rw [if_pos rfl]; exact flat_length foldL_len l
  | false => rw [if_neg (by decide)]; omega

set_option maxRecDepth 100000 in
set_option maxHeartbeats 1600000 in
theorem stage_calls (k f e : Bool) {w : World} {a : Option Addr} {l : List Int} {cp n : Nat} (h : IntsAt w a l) (hv : ∀ c ∈ l, Valid c) (hn : n = l.length) (hl : n ≤ 2147483648) :
    Calls Tryz.prog 89 #[.slice a n cp, .bool k, .bool f, .bool e] w fun x w' => ∃ (a' : Option Addr) (c' n' hd : Nat), x = .returned (.tuple #[.slice a' n' c', .int .i64 hd]) ∧ StOut w w' k f e l a' c' n' hd := by
  obtain ⟨i0, hi0, hz0, hz1, hz2⟩ := info_parts Tryz.info_int
  have HI : Hid (Tryz.prog.info? 3 = some i0 ∧ i0.zero = some (.int .i64 0) ∧ i0.size = 1 ∧ i0.bytes = 8) := ⟨hi0, hz0, hz1, hz2⟩
  obtain ⟨all, hall⟩ : ∃ all, all = l.flatMap (pieces k f) := ⟨_, rfl⟩
  obtain ⟨L1, hL1⟩ : ∃ L1, L1 = unfolded f l := ⟨_, rfl⟩
  have hAl : all.length ≤ 38654705664 := by
    have := got_len k f l
    rw [← hall] at this
    omega
  have HA : Hid (all = l.flatMap (pieces k f) ∧ L1.flatMap (apart k) = all ∧ (∀ c ∈ all, Valid c) ∧ (∀ c ∈ L1, Valid c) ∧ L1.length ≤ 38654705664) := ⟨hall, by rw [hL1, hall]; exact unfolded_is k f l, by rw [hall]; exact got_valid hv, by rw [hL1]; exact unfolded_valid hv, by have := unfolded_len f l; rw [hL1]; omega⟩
  have HN : Hid (Nums w a l ∧ n = l.length ∧ L1 = unfolded f l) := ⟨Nums.of h hv (by omega), hn, hL1⟩
  clear hi0 hz0 hz1 hz2 h hv hn hall hL1
  go_enter Tryz.func89, Tryz.ntmps89
  go_upto_if 19 with fail
  go_cut [0] (fun v wc => ∃ (a1 : Option Addr) (n1 c1 : Nat), v = .slice a1 n1 c1 ∧ n1 ≤ 38654705664 ∧ Hid (Nums wc a1 L1 ∧ n1 = L1.length ∧ Fr (fun _ => False) w wc))
  case first =>
    cases f with
    | true =>
      have HL1 : Hid (L1 = l.flatMap (foldL true)) := Hid.mk0 (by have := HN.out.2.2; unfold unfolded at this; rwa [if_pos rfl] at this)
      go_wp2_with (go_at_call 112; refine (fold_calls HN.out.1 HN.out.2.1).mono ?_; rw [← HL1.out]; rintro x w1 ⟨a1, c1, n1, rfl, hn1, hr1, hf1⟩; have H1 : Hid (n1 = L1.length ∧ Row w1 w.heap.size a1 c1 L1 ∧ Fr (fun _ => False) w w1) := ⟨hn1, hr1, hf1⟩; clear hn1 hr1 hf1)
      go_meet
      case rel => exact ⟨a1, n1, c1, rfl, by rw [H1.out.1]; exact HA.out.2.2.2.2, Nums.of H1.out.2.1.ints HA.out.2.2.2.1 (by have := HA.out.2.2.2.2; omega), H1.out.1, H1.out.2.2⟩
    | false =>
      have HL1 : Hid (L1 = l) := Hid.mk0 (by have := HN.out.2.2; unfold unfolded at this; rwa [if_neg (by decide)] at this)
      go_wp2
      go_meet
      case rel => exact ⟨a, n, cp, rfl, by omega, by rw [HL1.out]; exact HN.out.1, by rw [HL1.out]; exact HN.out.2.1, Fr.refl _ _⟩
  case rest =>
    obtain ⟨a1, n1, c1, rfl, hn1, H1⟩ := hcut
    obtain ⟨w1, hw1⟩ : ∃ w1, w1 = wc := ⟨_, rfl⟩
    subst hw1
    clear HN
    go_wp2
    go_loopw [10, 11] (fun v10 v11 wr => ∃ (i nl : Nat) (a8 : Option Addr) (c8 : Nat), v10 = .slice a8 nl c8 ∧ v11 = .int .i64 i ∧ i ≤ n1 ∧ Hid (Mk1 w1 wr (apart k) L1 i nl a8 c8)) (fun _ v11 _ => n1 - (intOf v11).toNat)
    case atStart => exact ⟨0, 0, none, 0, rfl, rfl, Nat.zero_le _, Row.none _ _, rfl, Fr.refl _ _⟩
    case round =>
      obtain ⟨i, nl, a8, c8, rfl, rfl, hi, HX⟩ := hrel
      have hnl : nl ≤ 1236950581248 := HX.out.small (apart_len k) (by have := HA.out.2.2.2.2; omega)
      by_cases hlt : i < n1
      · obtain ⟨x, hx⟩ : ∃ x, L1[i]? = some x := ⟨_, List.getElem?_eq_getElem (by have := H1.out.2.1; omega)⟩
        obtain ⟨x0, x1⟩ := H1.out.1.ok x (List.mem_of_getElem? hx)
        obtain ⟨b, off, rfl, hcx⟩ := (H1.out.1.keep HX.out.fr).at_ i x hx
        have i1 : (0 : Int) ≤ (i : Int) := by omega
        have i2 : (i : Int) < (n1 : Int) := by omega
        have HX1 : Hid (L1[i]? = some x) := hx
        clear hx
        go_wp2_with fail
        refine (apart_calls k 3 x _ x0 x1 (rk_lt k x)).mono ?_
        rintro e w2 ⟨am, cm, rfl, hm, hf2⟩
        obtain ⟨L, hL⟩ : ∃ L, L = (L1.take i).flatMap (apart k) := ⟨_, rfl⟩
        obtain ⟨M, hM⟩ : ∃ M, M = apart k x := ⟨_, rfl⟩
        rw [← hM] at hm ⊢
        obtain ⟨nm, hnm⟩ : ∃ nm, nm = M.length := ⟨_, rfl⟩
        rw [← hnm]
        have hnm2 : nm ≤ 18 := by rw [hnm, hM]; exact apart_len k x
        have HM : Hid (Row w2 wr.heap.size am cm M ∧ nm = M.length ∧ M = apart k x ∧ M ≠ []) := ⟨hm, hnm, hM, by rw [hM]; exact apart_ne k x⟩
        have HL : Hid (Row w2 w1.heap.size a8 c8 L ∧ nl = L.length ∧ L = (L1.take i).flatMap (apart k) ∧ Fr (fun _ => False) w1 w2) := ⟨by rw [hL]; exact HX.out.row.keep hf2, by rw [hL]; exact HX.out.len, hL, HX.out.fr.trans hf2 (fun _ _ h => h)⟩
        obtain ⟨gm, rfl, hnews⟩ := hm.news HM.out.2.2.2
        have HNW : Hid (∀ j u, (ints M)[j]? = some u → w2.cell? ((⟨gm, 0, none⟩ : Addr).add j) = some u) := hnews
        clear hm hf2 hL hM hnm hnews HX
        go_wp2_with (at_builtin; refine wpList_append_own_at _ rfl _ _ 31 rfl w1.heap.size 3 i0 (.int .i64 0) 1 8 Tryz.underlying31 HI.out.1 HI.out.2.1 HI.out.2.2.1 HI.out.2.2.2 rfl (by decide) (.slice a8 nl c8) nl (ints L) rfl ?own ⟨gm, 0, none⟩ nm cm (ints M) rfl ?ln ?cells (ints_one _) ?len ?bytes ?base ?grow)
        case own => exact HL.out.1.row HL.out.2.1.symm
        case ln => rw [ints_length, HM.out.2.1, Nat.mul_one]
        case cells => exact HNW.out
        case len => unfold maxLen; omega
        case bytes => omega
        case base => exact HL.out.2.2.2.size
        case grow =>
          intro v1 w3 k1 g1 _ _
          have HF : Hid (Fr (fun _ => False) w1 w3) := grown_new HL.out.2.2.2 HL.out.1 (Nat.le_refl _) g1
          have HM2 : Hid (∃ a' c', v1 = .slice a' (nl + nm) c' ∧ Row w3 w1.heap.size a' c' (L ++ M)) := Hid.mk0 (Row.of (by rw [List.length_append, HL.out.2.1, HM.out.2.1]) (by rw [ints_append]; exact k1))
          clear g1 k1
          obtain ⟨a', c', rfl, hm⟩ := HM2.out
          have HM3 : Hid (Row w3 w1.heap.size a' c' (L ++ M)) := hm
          clear hm HM2
          go_wp2
          exact ⟨⟨i + 1, nl + nm, a', c', rfl, by go_num, by omega, Mk1.step HX1.out HL.out.2.2.1 HM.out.2.2.1 HM3.out HL.out.2.1 HM.out.2.1 HF.out⟩, by simp [intOf]; omega⟩
      · obtain rfl : i = n1 := by omega
        have hal : (L1.take i).flatMap (apart k) = all := by rw [List.take_of_length_le (by have := H1.out.2.1; omega)]; exact HA.out.2.1
        have HX2 : Hid (Row wr w1.heap.size a8 c8 all ∧ nl = all.length ∧ Fr (fun _ => False) w wr) := ⟨by rw [← hal]; exact HX.out.row, by rw [← hal]; exact HX.out.len, H1.out.2.2.trans HX.out.fr (fun _ _ h => h)⟩
        have hnl2 : nl ≤ 38654705664 := by rw [HX2.out.2.1]; exact hAl
        clear hal HX H1 hnl
        obtain ⟨WL, hWL⟩ : ∃ WL, WL = wr := ⟨_, rfl⟩
        subst hWL
        go_wp2
        go_loopw [13, 14, 15, 16] (fun v13 v14 v15 v16 wr => ∃ (j fm hd no : Nat) (ao : Option Addr) (co : Nat) (O : List Int), v13 = .slice ao no co ∧ v14 = .int .i64 hd ∧ v15 = .int .i64 fm ∧ v16 = .int .i64 j ∧ j ≤ nl + 1 ∧ Hid (StL WL wr all e j fm hd no ao co O)) (fun _ _ _ v16 _ => nl + 1 - (intOf v16).toNat)
        case atStart => exact ⟨0, 0, 0, 0, none, 0, [], rfl, rfl, rfl, rfl, by omega, Row.none _ _, rfl, Fr.refl _ _, .inl ⟨Nat.zero_le _, StA.start all⟩⟩
        case round =>
          obtain ⟨j, fm, hd, no, ao, co, O, rfl, rfl, rfl, rfl, hj, HO⟩ := hrel
          by_cases hle : j ≤ nl
          · have j0 : (0 : Int) ≤ (j : Int) := by omega
            have j3 : (j : Int) ≤ (nl : Int) := by omega
            have HST : Hid (StA all j fm O hd) := HO.out.in (by rw [← HX2.out.2.1]; exact hle)
            have hfm := HST.out.le
            have hol := HST.out.olen
            rw [← HX2.out.2.1, ← HO.out.len] at hol
            obtain ⟨ho1, ho2⟩ := hol
            obtain ⟨d, hd0⟩ : ∃ d, d = j - fm := ⟨_, rfl⟩
            have hsub : IntKind.i64.wrap ((j : Int) - (fm : Int)) = (d : Int) := by
              rw [show (j : Int) - (fm : Int) = (d : Int) by omega]
              exact Go.IntWalk.i64_in _ ⟨by omega, by omega⟩
            by_cases hjl : j < nl
            · have j2 : (j : Int) < (nl : Int) := by omega
              obtain ⟨x, hx⟩ : ∃ x, all[j]? = some x := ⟨_, List.getElem?_eq_getElem (by have := HX2.out.2.1; omega)⟩
              obtain ⟨g, rfl, hcx, hgl⟩ := HX2.out.1.at hx
              have hcx' : wr.cell? ⟨g, j, none⟩ = some (.int .i64 x) := HO.out.fr.cell id hgl hcx
              obtain ⟨x0, x1⟩ := valid_range (HA.out.2.2.1 x (List.mem_of_getElem? hx))
              have HX1 : Hid (all[j]? = some x ∧ WL.cell? ⟨g, j, none⟩ = some (.int .i64 x) ∧ g < WL.heap.size) := ⟨hx, hcx, hgl⟩
              clear hx hcx hgl
              go_wp2_with fail
              refine (fact_calls x _ x0 x1).mono ?_
              rintro e' w1 ⟨af, ca, bf, cb, rfl, -, hf1⟩
              rw [factV_eq]
              obtain ⟨np, hnp⟩ : ∃ np, np = (rawParts x).length := ⟨_, rfl⟩
              obtain ⟨nf, hnf⟩ : ∃ nf, nf = (rawFold x).length := ⟨_, rfl⟩
              obtain ⟨z, hz⟩ : ∃ z, z = clsOf x := ⟨_, rfl⟩
              obtain ⟨kd, hkd⟩ : ∃ kd, kd = kindOf x := ⟨_, rfl⟩
              rw [← hnp, ← hnf, ← hz, ← hkd]
              have hzp : 0 ≤ z := by rw [hz]; exact cls_low x
              have HZ : Hid (z = clsOf x) := hz
              have HF1 : Hid (Fr (fun _ => False) wr w1) := hf1
              clear hf1 hnp hnf hz hkd hcx'
              go_upto_region 17 with fail
              change Code.wp _ _ _ _ (w1.alloc (factC z kd af np ca bf nf cb))
              have hv : (w1.alloc (factC z kd af np ca bf nf cb)).heap[w1.heap.size]? = some (factC z kd af np ca bf nf cb) := heap_alloc_new w1 _
              have fW : Fr (fun _ => False) wr (w1.alloc (factC z kd af np ca bf nf cb)) := HF1.out.alloc _
              have HW : Hid ((w1.alloc (factC z kd af np ca bf nf cb)).heap[w1.heap.size]? = some (factC z kd af np ca bf nf cb) ∧ Fr (fun _ => False) WL (w1.alloc (factC z kd af np ca bf nf cb)) ∧ Row (w1.alloc (factC z kd af np ca bf nf cb)) WL.heap.size ao co O ∧ no = O.length) := ⟨hv, HO.out.fr.trans fW (fun _ _ h => h), HO.out.row.keep fW, HO.out.len⟩
              obtain ⟨vf, hvf⟩ : ∃ vf, vf = w1.heap.size := ⟨_, rfl⟩
              rw [← hvf] at HW ⊢
              clear hv HF1 hvf fW HO
              generalize w1.alloc (factC z kd af np ca bf nf cb) = W at *
              have d0 : W.cell? ⟨vf, 0, none⟩ = some (.int .i64 z) := cell_of HW.out.1 rfl
              by_cases hc : z = 0
              · subst hc
                have hcx' : W.cell? ⟨g, j, none⟩ = some (.int .i64 x) := HW.out.2.1.cell id HX1.out.2.2 HX1.out.2.1
                have hc8 : nl ≤ c8 := by rw [HX2.out.2.1]; exact HX2.out.1.cap
                have h8 : j ≤ c8 := by omega
                have h9 : ¬ c8 = fm := by omega
                obtain ⟨D, hD⟩ : ∃ D, D = (all.drop fm).take (j - fm) := ⟨_, rfl⟩
                have HD : Hid (Nums W (some ⟨g, fm, none⟩) D ∧ j - fm = D.length ∧ j - fm = (sortC clsOf D).length ∧ D = (all.drop fm).take (j - fm)) := by
                  have q1 := IntsAt.drop (HX2.out.1.ints.keep HW.out.2.1) fm (j - fm)
                  rw [Nat.zero_add, ← hD] at q1
                  have q2 : j - fm = D.length := by rw [hD, List.length_take, List.length_drop]; have := HX2.out.2.1; omega
                  refine ⟨Nums.of q1 (fun c hc => HA.out.2.2.1 c ?_) (by omega), q2, by rw [sortC_length]; exact q2, hD⟩
                  rw [hD] at hc
                  exact List.mem_of_mem_drop (List.mem_of_mem_take hc)
                clear hD
                go_wp2_with fail
                refine (ordered_calls HD.out.1 HD.out.2.1).mono ?_
                rintro e' w2 ⟨rfl, hr2, hf2⟩
                have HR2 : Hid (Row w2 W.heap.size (some ⟨W.heap.size, 0, none⟩) (j - fm) (sortC clsOf D) ∧ (∀ j u, (ints (sortC clsOf D))[j]? = some u → w2.cell? ((⟨W.heap.size, 0, none⟩ : Addr).add j) = some u) ∧ Row w2 WL.heap.size ao co O ∧ Fr (fun _ => False) WL w2) := ⟨hr2, hr2.news2, HW.out.2.2.1.keep hf2, HW.out.2.1.trans hf2 (fun _ _ h => h)⟩
                have HNO : Hid (no = O.length) := HW.out.2.2.2
                clear hr2 hf2 HW d0 hcx'
                go_wp2_with (at_builtin; refine wpList_append_own_at _ rfl _ _ 31 rfl WL.heap.size 3 i0 (.int .i64 0) 1 8 Tryz.underlying31 HI.out.1 HI.out.2.1 HI.out.2.2.1 HI.out.2.2.2 rfl (by decide) (.slice ao no co) no (ints O) rfl ?own ⟨W.heap.size, 0, none⟩ (j - fm) (j - fm) (ints (sortC clsOf D)) rfl ?ln ?cells (ints_one _) ?len ?bytes ?base ?grow)
                case own => exact HR2.out.2.2.1.row HNO.out.symm
                case ln => rw [ints_length, ← HD.out.2.2.1, Nat.mul_one]
                case cells => exact HR2.out.2.1
                case len => unfold maxLen; omega
                case bytes => omega
                case base => exact HR2.out.2.2.2.size
                case grow =>
                  intro v1 w3 k1 g1 _ _
                  have HF : Hid (Fr (fun _ => False) WL w3) := grown_new HR2.out.2.2.2 HR2.out.2.2.1 (Nat.le_refl _) g1
                  have HM2 : Hid (∃ a' c', v1 = .slice a' (no + (j - fm)) c' ∧ Row w3 WL.heap.size a' c' (O ++ sortC clsOf D)) := Hid.mk0 (Row.of (by rw [List.length_append, ← HNO.out, ← HD.out.2.2.1]) (by rw [ints_append]; exact k1))
                  clear g1 k1
                  obtain ⟨a', c', rfl, hm⟩ := HM2.out
                  have HM3 : Hid (Row w3 WL.heap.size a' c' (O ++ sortC clsOf D)) := hm
                  have hcx3 : w3.cell? ⟨g, j, none⟩ = some (.int .i64 x) := HF.out.cell id HX1.out.2.2 HX1.out.2.1
                  clear hm HM2
                  go_wp2_with (at_builtin; refine wpList_append_own_at _ rfl _ _ 31 rfl WL.heap.size 3 i0 (.int .i64 0) 1 8 Tryz.underlying31 HI.out.1 HI.out.2.1 HI.out.2.2.1 HI.out.2.2.2 rfl (by decide) (.slice a' (no + (j - fm)) c') (no + (j - fm)) (ints (O ++ sortC clsOf D)) rfl ?own ⟨w3.heap.size, 0, none⟩ 1 1 (ints [x]) rfl ?ln ?cells (ints_one _) ?len ?bytes ?base ?grow)
                  case own => exact (HM3.out.keep ((Fr.refl (fun _ => False) w3).alloc (Obj.cells #[.int .i64 x] 3))).row (by rw [List.length_append, ← HNO.out, ← HD.out.2.2.1])
                  case ln => rfl
                  case cells => exact cell_one_new _ _ _
                  case len => unfold maxLen; omega
                  case bytes => omega
                  case base => have := HF.out.size; simp; omega
                  case grow =>
                    intro v2 w4 k2 g2 _ _
                    have HF4 : Hid (Fr (fun _ => False) WL w4) := grown_new (HF.out.alloc (Obj.cells #[.int .i64 x] 3)) (HM3.out.keep ((Fr.refl _ _).alloc _)) (Nat.le_refl _) g2
                    have HM4 : Hid (∃ a'' c'', v2 = .slice a'' (no + (j - fm) + 1) c'' ∧ Row w4 WL.heap.size a'' c'' (O ++ sortC clsOf D ++ [x])) := Hid.mk0 (Row.of (by rw [List.length_append, List.length_append, ← HNO.out, ← HD.out.2.2.1]; rfl) (by rw [ints_append]; exact k2))
                    clear g2 k2
                    obtain ⟨a'', c'', rfl, hm⟩ := HM4.out
                    have HS2 : Hid (StL WL w4 all e (j + 1) (j + 1) hd (no + (j - fm) + 1) a'' c'' (O ++ sortC clsOf D ++ [x])) := ⟨hm, by rw [List.length_append, List.length_append, ← HNO.out, ← HD.out.2.2.1]; rfl, HF4.out, .inl ⟨by rw [← HX2.out.2.1]; omega, by rw [HD.out.2.2.2]; exact HST.out.starter HX1.out.1 HZ.out.symm⟩⟩
                    clear hm HM4
                    go_wp2
                    exact ⟨⟨j + 1, j + 1, hd, no + (j - fm) + 1, a'', c'', O ++ sortC clsOf D ++ [x], rfl, rfl, by go_num, by go_num, by omega, HS2.out⟩, by simp [intOf]; omega⟩
              · have z1 : (0 : Int) < z := by omega
                have HS2 : Hid (StA all (j + 1) fm O (max hd (d + 1))) := Hid.mk0 (by rw [hd0]; exact HST.out.mark HX1.out.1 (by rw [← HZ.out]; exact hc))
                by_cases hg : hd < d + 1
                · have g1 : (hd : Int) < (d : Int) + 1 := by omega
                  rw [Nat.max_eq_right (by omega)] at HS2
                  clear hc
                  go_wp2
                  exact ⟨⟨j + 1, fm, d + 1, no, ao, co, O, rfl, by go_num, rfl, by go_num, by omega, HW.out.2.2.1, HW.out.2.2.2, HW.out.2.1, .inl ⟨by rw [← HX2.out.2.1]; omega, HS2.out⟩⟩, by simp [intOf]; omega⟩
                · have g1 : ¬ (hd : Int) < (d : Int) + 1 := by omega
                  rw [Nat.max_eq_left (by omega)] at HS2
                  clear hc hd0
                  go_wp2
                  exact ⟨⟨j + 1, fm, hd, no, ao, co, O, rfl, rfl, rfl, by go_num, by omega, HW.out.2.2.1, HW.out.2.2.2, HW.out.2.1, .inl ⟨by rw [← HX2.out.2.1]; omega, HS2.out⟩⟩, by simp [intOf]; omega⟩
            · obtain rfl : j = nl := by omega
              have j2 : ¬ (j : Int) < (j : Int) := by omega
              obtain ⟨q1, q2, q3⟩ := HST.out.ended HX2.out.2.1
              cases e with
              | false =>
                have HS2 : Hid (StL WL wr all false (j + 1) (j + 1) hd no ao co O) := ⟨HO.out.row, HO.out.len, HO.out.fr, .inr ⟨by rw [← HX2.out.2.1], q2, q3⟩⟩
                clear HO q1 q2 q3
                go_wp2
                exact ⟨⟨j + 1, j + 1, hd, no, ao, co, O, rfl, rfl, by go_num, by go_num, by omega, HS2.out⟩, by simp [intOf]⟩
              | true =>
                obtain ⟨D, hD⟩ : ∃ D, D = (all.drop fm).take (j - fm) := ⟨_, rfl⟩
                rw [← hD] at q1
                have hDl : j - fm = D.length := by rw [hD, List.length_take, List.length_drop]; have := HX2.out.2.1; omega
                have HD : Hid (j - fm = D.length ∧ j - fm = (sortC clsOf D).length ∧ (∀ c ∈ D, Valid c) ∧ D.length ≤ 68719476736 ∧ D = (all.drop fm).take (j - fm)) := by
                  refine ⟨hDl, by rw [sortC_length]; exact hDl, fun c hc => HA.out.2.2.1 c ?_, by omega, hD⟩
                  rw [hD] at hc
                  exact List.mem_of_mem_drop (List.mem_of_mem_take hc)
                have HQ : Hid (O ++ sortC clsOf D = outOf true all ∧ hd = heldOf all) := ⟨q1, q3⟩
                clear q1 q2 q3 hD hDl
                clear hsub hd0
                clear d
                go_upto_region 21 with fail
                go_cut [18] (fun v wc => ∃ g2 : Nat, v = .slice (some ⟨g2, 0, none⟩) (j - fm) (j - fm) ∧ Hid ((∀ j u, (ints (sortC clsOf D))[j]? = some u → wc.cell? ((⟨g2, 0, none⟩ : Addr).add j) = some u) ∧ Fr (fun _ => False) wr wc))
                case first =>
                  have nil : ∀ a9 : Option Addr, j - fm = 0 → Nums wr a9 D := fun a9 h0 => by
                    have : D = [] := List.eq_nil_of_length_eq_zero (by have := HD.out.1; omega)
                    subst this
                    exact ⟨fun j z hj => (by cases hj), fun c hc => (by cases hc), Nat.zero_le _⟩
                  have HNL : Hid (∀ a9 : Option Addr, j - fm = 0 → Nums wr a9 D) := nil
                  clear nil
                  rcases HX2.out.1.2 with ⟨hv8, hn8⟩ | ⟨g, cap, cur, hv8, hb8, hg8, hr8⟩
                  · simp only [Value.slice.injEq] at hv8
                    obtain ⟨rfl, _, rfl⟩ := hv8
                    have hj8 : j = 0 := by rw [HX2.out.2.1]; exact hn8
                    have hf8 : fm = 0 := by omega
                    clear hn8
                    subst hj8
                    subst hf8
                    clear hj hle j0 j3 hfm ho1 hnl2 hi
                    go_wp2_with fail
                    refine (ordered_calls (HNL.out none (by first | trivial | omega)) HD.out.1).mono ?_
                    rintro e' w2 ⟨rfl, hr2, hf2⟩
                    have HR2 : Hid ((∀ j u, (ints (sortC clsOf D))[j]? = some u → w2.cell? ((⟨wr.heap.size, 0, none⟩ : Addr).add j) = some u) ∧ Fr (fun _ => False) wr w2) := ⟨hr2.news2, hf2⟩
                    clear hr2 hf2
                    go_wp2
                    go_meet
                    case rel => exact ⟨_, rfl, HR2.out.1, HR2.out.2⟩
                  · simp only [Value.slice.injEq] at hv8
                    obtain ⟨rfl, _, rfl⟩ := hv8
                    have hc8 : j ≤ c8 := by rw [HX2.out.2.1]; exact HX2.out.1.cap
                    clear hb8 hg8 hr8
                    by_cases h9 : c8 = fm
                    · have hz : j - fm = 0 := by omega
                      have HZ0 : Hid (j - fm = 0 ∧ 0 = D.length) := ⟨hz, by have := HD.out.1; omega⟩
                      subst h9
                      clear hz
                      go_wp2_with fail
                      refine (ordered_calls (a := some ⟨g, 0, none⟩) (n := 0) (HNL.out (some ⟨g, 0, none⟩) HZ0.out.1) HZ0.out.2).mono ?_
                      rintro e' w2 ⟨rfl, hr2, hf2⟩
                      have HR2 : Hid ((∀ j u, (ints (sortC clsOf D))[j]? = some u → w2.cell? ((⟨wr.heap.size, 0, none⟩ : Addr).add j) = some u) ∧ Fr (fun _ => False) wr w2) := ⟨hr2.news2, hf2⟩
                      clear hr2 hf2
                      go_wp2
                      go_meet
                      case rel => exact ⟨_, by rw [HZ0.out.1], HR2.out.1, HR2.out.2⟩
                    · have HNM : Hid (Nums wr (some ⟨g, fm, none⟩) D) := by
                        have q1 := IntsAt.drop (HX2.out.1.ints.keep HO.out.fr) fm (j - fm)
                        rw [Nat.zero_add, ← HD.out.2.2.2.2] at q1
                        exact Nums.of q1 HD.out.2.2.1 HD.out.2.2.2.1
                      go_wp2_with fail
                      refine (ordered_calls HNM.out HD.out.1).mono ?_
                      rintro e' w2 ⟨rfl, hr2, hf2⟩
                      have HR2 : Hid ((∀ j u, (ints (sortC clsOf D))[j]? = some u → w2.cell? ((⟨wr.heap.size, 0, none⟩ : Addr).add j) = some u) ∧ Fr (fun _ => False) wr w2) := ⟨hr2.news2, hf2⟩
                      clear hr2 hf2
                      go_wp2
                      go_meet
                      case rel => exact ⟨_, rfl, HR2.out.1, HR2.out.2⟩
                case rest =>
                  obtain ⟨g2, rfl, HR2⟩ := hcut
                  obtain ⟨w2, hw2⟩ : ∃ w2, w2 = wc := ⟨_, rfl⟩
                  subst hw2
                  have HR3 : Hid (Row w2 WL.heap.size ao co O ∧ Fr (fun _ => False) WL w2 ∧ no = O.length ∧ j - fm = (sortC clsOf D).length) := ⟨HO.out.row.keep HR2.out.2, HO.out.fr.trans HR2.out.2 (fun _ _ h => h), HO.out.len, HD.out.2.1⟩
                  clear HO
                  go_wp2_with (at_builtin; refine wpList_append_own_at _ rfl _ _ 31 rfl WL.heap.size 3 i0 (.int .i64 0) 1 8 Tryz.underlying31 HI.out.1 HI.out.2.1 HI.out.2.2.1 HI.out.2.2.2 rfl (by decide) (.slice ao no co) no (ints O) rfl ?own ⟨g2, 0, none⟩ (j - fm) (j - fm) (ints (sortC clsOf D)) rfl ?ln ?cells (ints_one _) ?len ?bytes ?base ?grow)
                  case own => exact HR3.out.1.row HR3.out.2.2.1.symm
                  case ln => first | (rw [ints_length, ← HR3.out.2.2.2]; done) | rw [ints_length, ← HR3.out.2.2.2, Nat.mul_one]
                  case cells => first | exact HR2.out.1 | (intro j u hu; have := HR2.out.1 j u hu; rwa [addr_add] at this)
                  case len => unfold maxLen; omega
                  case bytes => omega
                  case base => exact HR3.out.2.1.size
                  case grow =>
                    intro v1 w3 k1 g1 _ _
                    have HF : Hid (Fr (fun _ => False) WL w3) := grown_new HR3.out.2.1 HR3.out.1 (Nat.le_refl _) g1
                    have HM2 : Hid (∃ a' c', v1 = .slice a' (no + (j - fm)) c' ∧ Row w3 WL.heap.size a' c' (O ++ sortC clsOf D)) := Hid.mk0 (Row.of (by rw [List.length_append, ← HR3.out.2.2.1, ← HR3.out.2.2.2]) (by rw [ints_append]; exact k1))
                    clear g1 k1
                    obtain ⟨a', c', rfl, hm⟩ := HM2.out
                    have HS2 : Hid (StL WL w3 all true (j + 1) (j + 1) hd (no + (j - fm)) a' c' (O ++ sortC clsOf D)) := ⟨hm, by rw [List.length_append, ← HR3.out.2.2.1, ← HR3.out.2.2.2], HF.out, .inr ⟨by rw [← HX2.out.2.1], HQ.out.1, HQ.out.2⟩⟩
                    clear hm HM2
                    go_wp2
                    exact ⟨⟨j + 1, j + 1, hd, no + (j - fm), a', c', O ++ sortC clsOf D, rfl, rfl, by go_num, by go_num, by omega, HS2.out⟩, by simp [intOf]⟩
          · obtain rfl : j = nl + 1 := by omega
            have hfin : O = outOf e all ∧ hd = heldOf all := by
              rcases HO.out.st with h | h
              · have := HX2.out.2.1; omega
              · exact h.2
            have j3 : ¬ ((nl + 1 : Nat) : Int) ≤ (nl : Int) := by omega
            have HFN : Hid (StOut w wr k f e l ao co no hd) := ⟨by rw [← HA.out.1, ← hfin.1]; exact HO.out.row.low HX2.out.2.2.size, by rw [← HA.out.1, ← hfin.1]; exact HO.out.len, by rw [← HA.out.1]; exact hfin.2, HX2.out.2.2.trans HO.out.fr (fun _ _ h => h)⟩
            clear hfin HO hle
            go_wp2
            go_ret2
            exact ⟨ao, co, no, hd, rfl, HFN.out⟩

end Go.Proofs.YtmhaknejeobfgabGreatDoor

/- Ref16. -/
namespace Go.Proofs.YtmhaknejeobfgabGreatDoor
open Go.RowKit Go.Proofs.YtmhaknejeobfgabGreatDoor.Stable Go.Proofs.YtmhaknejeobfgabGreatDoor.Order Go.Proofs.YtmhaknejeobfgabGreatDoor.Points
attribute [local go_sem ↓] Go.wp_at_zero Go.wp_at_succ

theorem isMode_yes (m : Int) (w : World) (h0 : 0 ≤ m) (h3 : m ≤ 3) :
    Calls Tryz.prog 30 #[.int .i64 m] w fun e w' => e = .returned (.bool true) ∧ w' = w := by
  go_enter Tryz.func30, Tryz.ntmps30
  go_wp2
  go_ret
  exact ⟨rfl, rfl⟩

theorem isMode_no (m : Int) (w : World) (h : m < 0 ∨ 3 < m) :
    Calls Tryz.prog 30 #[.int .i64 m] w fun e w' => e = .returned (.bool false) ∧ w' = w := by
  by_cases h0 : 0 ≤ m
  · have h3 : ¬ m ≤ 3 := by omega
    clear h
    go_enter Tryz.func30, Tryz.ntmps30
    go_wp2
    go_ret
    exact ⟨rfl, rfl⟩
  · clear h
    go_enter Tryz.func30, Tryz.ntmps30
    go_wp2
    go_ret
    exact ⟨rfl, rfl⟩

set_option maxRecDepth 100000 in
theorem rhash_calls (s : ByteArray) (w : World) (hl : s.size ≤ 1099511627776) :
    Calls Tryz.prog 32 #[.string s] w fun e w' => e = .returned (.int .u64 (hashL s.data.toList)) ∧ Fr (fun _ => False) w w' := by
  go_enter Tryz.func32, Tryz.ntmps32
  go_wp2
  go_loopw [3, 4] (fun vh vi wr => ∃ k : Nat, vi = .int .i64 k ∧ vh = .int .u64 (hashL (s.data.toList.take k)) ∧ k ≤ s.size ∧ Hid (Fr (fun _ => False) w wr)) (fun _ vi _ => s.size - (intOf vi).toNat)
  case atStart => exact ⟨0, rfl, rfl, Nat.zero_le _, Fr.refl _ _⟩
  case round =>
    obtain ⟨k, rfl, rfl, hk, hf⟩ := hrel
    obtain ⟨h, hh⟩ : ∃ h, h = hashL (s.data.toList.take k) := ⟨_, rfl⟩
    rw [← hh]
    have HH : Hid (h = hashL (s.data.toList.take k)) := hh
    clear hh
    by_cases hlt : k < s.size
    · have i0 : (0 : Int) ≤ (k : Int) := by omega
      have i1 : (k : Int) < (s.size : Int) := by omega
      go_wp2
      refine ⟨⟨k + 1, by go_num, ?_, by omega, hf⟩, by simp [intOf]; omega⟩
      rw [hashL_take hlt, ← HH.out]
      rfl
    · obtain rfl : k = s.size := by omega
      go_wp2
      go_ret
      have e := HH.out
      rw [hashL_all] at e
      subst e
      exact ⟨rfl, hf.out⟩

theorem sign_at {A B : List Int} {i : Nat} {x y : Int} (hx : A[i]? = some x) (hy : B[i]? = some y) : signL (A.drop i) (B.drop i) = if x < y then -1 else if y < x then 1 else signL (A.drop (i + 1)) (B.drop (i + 1)) := by
  obtain ⟨h1, rfl⟩ := List.getElem?_eq_some_iff.1 hx
  obtain ⟨h2, rfl⟩ := List.getElem?_eq_some_iff.1 hy
  rw [List.drop_eq_getElem_cons h1, List.drop_eq_getElem_cons h2]
  rfl

theorem sign_over {A B : List Int} {i : Nat} (hi : i ≤ A.length) (hj : i ≤ B.length) (h : ¬ (i < A.length ∧ i < B.length)) : signL (A.drop i) (B.drop i) = if A.length < B.length then -1 else if B.length < A.length then 1 else 0 := by
  by_cases h1 : i < A.length
  · have h2 : B.length = i := by omega
    rw [List.drop_eq_getElem_cons h1, List.drop_of_length_le (l := B) (by omega), if_neg (by omega), if_pos (by omega)]
    rfl
  · have h2 : A.length = i := by omega
    rw [List.drop_of_length_le (l := A) (by omega)]
    by_cases h3 : i < B.length
    · rw [List.drop_eq_getElem_cons h3, if_pos (by omega)]
      rfl
    · rw [List.drop_of_length_le (l := B) (by omega), if_neg (by omega), if_neg (by omega)]
      rfl

set_option maxRecDepth 100000 in
set_option maxHeartbeats 1600000 in
theorem sign_calls {w : World} {a b : Option Addr} {A B : List Int} {na nb ca cb : Nat} (hA : IntsAt w a A) (hB : IntsAt w b B) (ea : na = A.length) (eb : nb = B.length) (la : na ≤ 1099511627776) (_ : nb ≤ 1099511627776) :
    Calls Tryz.prog 95 #[.slice a na ca, .slice b nb cb] w fun e w' => e = .returned (.int .i64 (signL A B)) ∧ Fr (fun _ => False) w w' := by
  have HA : Hid (IntsAt w a A ∧ IntsAt w b B ∧ na = A.length ∧ nb = B.length) := ⟨hA, hB, ea, eb⟩
  obtain ⟨S, hS⟩ : ∃ S, S = signL A B := ⟨_, rfl⟩
  rw [← hS]
  have HS : Hid (S = signL A B) := hS
  clear hA hB ea eb hS
  go_enter Tryz.func95, Tryz.ntmps95
  go_wp2
  go_loopw [5] (fun vi wr => ∃ i : Nat, vi = .int .i64 i ∧ i ≤ na ∧ i ≤ nb ∧ Hid (S = signL (A.drop i) (B.drop i) ∧ Fr (fun _ => False) w wr)) (fun vi _ => na - (intOf vi).toNat)
  case atStart => exact ⟨0, rfl, Nat.zero_le _, Nat.zero_le _, HS.out, Fr.refl _ _⟩
  case round =>
    obtain ⟨i, rfl, hi, hj, HX⟩ := hrel
    by_cases h : i < na ∧ i < nb
    · obtain ⟨h1, h2⟩ := h
      obtain ⟨x, hx⟩ : ∃ x, A[i]? = some x := ⟨_, List.getElem?_eq_getElem (by have := HA.out.2.2.1; omega)⟩
      obtain ⟨y, hy⟩ : ∃ y, B[i]? = some y := ⟨_, List.getElem?_eq_getElem (by have := HA.out.2.2.2; omega)⟩
      obtain ⟨ba, oa, rfl, hcx⟩ := (HA.out.1.keep HX.out.2) i x hx
      obtain ⟨bb, ob, rfl, hcy⟩ := (HA.out.2.1.keep HX.out.2) i y hy
      have i0 : (0 : Int) ≤ (i : Int) := by omega
      have i1 : (i : Int) < (na : Int) := by omega
      have i2 : (i : Int) < (nb : Int) := by omega
      have hs := sign_at hx hy
      by_cases c1 : x < y
      · rw [if_pos c1] at hs
        obtain rfl : S = -1 := by rw [HX.out.1]; exact hs
        clear hs hx hy
        go_wp2
        go_quiet (fail)
        go_wp2
        go_ret
        exact ⟨rfl, HX.out.2.drewN _⟩
      · by_cases c2 : y < x
        · rw [if_neg c1, if_pos c2] at hs
          obtain rfl : S = 1 := by rw [HX.out.1]; exact hs
          clear hs hx hy
          go_wp2
          go_quiet (fail)
          go_wp2
          go_quiet (fail)
          go_wp2
          go_ret
          exact ⟨rfl, (HX.out.2.drewN _).drewN _⟩
        · rw [if_neg c1, if_neg c2] at hs
          have HX2 : Hid (S = signL (A.drop (i + 1)) (B.drop (i + 1)) ∧ Fr (fun _ => False) w wr) := ⟨by rw [← hs]; exact HX.out.1, HX.out.2⟩
          clear hs hx hy HX
          go_wp2
          go_quiet (fail)
          go_wp2
          go_quiet (fail)
          go_wp2
          exact ⟨⟨i + 1, by go_num, by omega, by omega, HX2.out.1, HX2.out.2.drewN _⟩, by simp [intOf]; omega⟩
    · have hs := sign_over (A := A) (B := B) (i := i) (by have := HA.out.2.2.1; omega) (by have := HA.out.2.2.2; omega) (by have := HA.out.2.2.1; have := HA.out.2.2.2; omega)
      rw [← HA.out.2.2.1, ← HA.out.2.2.2, ← HX.out.1] at hs
      have HS2 : Hid (S = if na < nb then -1 else if nb < na then 1 else 0) := hs
      have HF : Hid (Fr (fun _ => False) w wr) := HX.out.2
      clear hs HX
      by_cases h1 : i < na
      · have h2 : ¬ i < nb := fun k => h ⟨h1, k⟩
        have i1 : (i : Int) < (na : Int) := by omega
        have i2 : ¬ (i : Int) < (nb : Int) := by omega
        have c1 : ¬ (na : Int) < (nb : Int) := by omega
        have c2 : (nb : Int) < (na : Int) := by omega
        obtain rfl : S = 1 := by rw [HS2.out, if_neg (by omega), if_pos (by omega)]
        clear h h2
        go_wp2
        go_ret
        exact ⟨rfl, HF.out⟩
      · have i1 : ¬ (i : Int) < (na : Int) := by omega
        by_cases c1 : na < nb
        · have c2 : (na : Int) < (nb : Int) := by omega
          obtain rfl : S = -1 := by rw [HS2.out, if_pos c1]
          clear h
          go_wp2
          go_ret
          exact ⟨rfl, HF.out⟩
        · have c2 : ¬ (na : Int) < (nb : Int) := by omega
          have c3 : ¬ (nb : Int) < (na : Int) := by omega
          obtain rfl : S = 0 := by rw [HS2.out, if_neg c1, if_neg (by omega)]
          clear h
          go_wp2
          go_ret
          exact ⟨rfl, HF.out⟩

theorem ptsR_all (l : List UInt8) : (ptsR true 0 l).map (fun p => p.2) = codes l := by
  rw [ptsR_ended l.length 0 l (Nat.le_refl _)]
  exact pts_codes l.length 0 l (Nat.le_refl _)

/-- The code points of a whole text. -/
theorem rpoints_calls (s : ByteArray) (w : World) (hs : s.size ≤ 1099511627776) :
    Calls Tryz.prog 62 #[.string s, .bool true] w fun e w' => ∃ a cp a2 cp2 n, e = .returned (.tuple #[.slice a n cp, .slice a2 n cp2]) ∧ n = (codes s.data.toList).length ∧ Row w' w.heap.size a cp (codes s.data.toList) ∧ Fr (fun _ => False) w w' := by
  refine (points_calls s true w hs).mono ?_
  rintro e w' ⟨a, cp, a2, cp2, rfl, h⟩
  have h1 := h.r1
  have e1 := ptsR_all s.data.toList
  rw [e1] at h1
  exact ⟨a, cp, a2, cp2, _, rfl, by rw [← e1, List.length_map], h1, h.fr⟩

end Go.Proofs.YtmhaknejeobfgabGreatDoor

/- Ref17. -/
namespace Go.Proofs.YtmhaknejeobfgabGreatDoor
open Go.RowKit Go.Proofs.YtmhaknejeobfgabGreatDoor.Stable Go.Proofs.YtmhaknejeobfgabGreatDoor.Order Go.Proofs.YtmhaknejeobfgabGreatDoor.Points
attribute [local go_sem ↓] Go.wp_at_zero Go.wp_at_succ

/-- What has come of i stages. -/
structure FmAt (w wr : World) (m : Int) (e : Bool) (l : List Int) (i : Nat) (a : Option Addr) (c n hd : Nat) : Prop where
  row : Row wr w.heap.size a c (inAt (kindAt m) e l i)
  len : n = (inAt (kindAt m) e l i).length
  held : hd = mostOf (kindAt m) e l i
  fr : Fr (fun _ => False) w wr

theorem stages_range (m : Int) : 1 ≤ stagesOf m ∧ stagesOf m ≤ 3 := by
  unfold stagesOf
  split
  · omega
  · split <;> omega

theorem pow_small {i n : Nat} (hi : i ≤ 3) (hn : n ≤ 4194304) : 18 ^ i * n ≤ 5832 * 4194304 := by
  refine Nat.mul_le_mul ?_ hn
  rcases Nat.lt_or_ge i 1 with h | h
  · have : i = 0 := by omega
    subst this; decide
  rcases Nat.lt_or_ge i 2 with h | h
  · have : i = 1 := by omega
    subst this; decide
  rcases Nat.lt_or_ge i 3 with h | h
  · have : i = 2 := by omega
    subst this; decide
  · have : i = 3 := by omega
    subst this; decide

theorem FmAt.small {w wr : World} {m : Int} {e : Bool} {l : List Int} {i : Nat} {a : Option Addr} {c n hd : Nat} (h : FmAt w wr m e l i a c n hd) (hi : i ≤ 2) (hl : l.length ≤ 4194304) : n ≤ 2147483648 := by
  have h1 := (got_length (kindAt m) e l i).1
  rw [h.len]
  refine Nat.le_trans h1 (Nat.le_trans (Nat.mul_le_mul (Nat.pow_le_pow_right (by decide) hi) hl) (by decide))

theorem FmAt.step {w wr w' : World} {m : Int} {e b3 : Bool} {l : List Int} {i : Nat} {a a' : Option Addr} {c n hd c' n' hd' : Nat} (h : FmAt w wr m e l (i + 1) a c n hd) (hb : b3 = (m == 3)) (s : StOut wr w' b3 true e (inAt (kindAt m) e l (i + 1)) a' c' n' hd') : FmAt w w' m e l (i + 2) a' c' n' (max hd hd') := by
  have ek : kindAt m (i + 1) = (b3, true) := by unfold kindAt; rw [if_neg (by omega), hb]
  have e1 : inAt (kindAt m) e l (i + 2) = outOf e ((inAt (kindAt m) e l (i + 1)).flatMap (pieces b3 true)) := by rw [inAt, ek]
  refine ⟨by rw [e1]; exact s.row.low h.fr.size, by rw [e1]; exact s.len, ?_, h.fr.trans s.fr (fun _ _ h => h)⟩
  rw [mostOf, ← h.held, gotE, inE_const, ek, s.held]

theorem FmAt.first {w w' : World} {m : Int} {e b1 : Bool} {l : List Int} {a' : Option Addr} {c' n' hd' : Nat} (hb : b1 = (m == 1)) (s : StOut w w' b1 false e l a' c' n' hd') : FmAt w w' m e l 1 a' c' n' hd' := by
  have ek : kindAt m 0 = (b1, false) := by unfold kindAt; rw [if_pos rfl, hb]
  have e1 : inAt (kindAt m) e l 1 = outOf e (l.flatMap (pieces b1 false)) := by rw [inAt, ek, inAt]
  refine ⟨by rw [e1]; exact s.row, by rw [e1]; exact s.len, ?_, s.fr⟩
  rw [mostOf, gotE, inE_const, ek, s.held, mostOf, inAt, Nat.max_eq_right (Nat.zero_le _)]

set_option maxRecDepth 100000 in
set_option maxHeartbeats 1600000 in
theorem form_calls (m : Int) (e : Bool) {w : World} {a : Option Addr} {l : List Int} {cp n : Nat} (h0 : 0 ≤ m) (h3 : m ≤ 3) (h : IntsAt w a l) (hv : ∀ c ∈ l, Valid c) (hn : n = l.length) (hl : n ≤ 4194304) :
    Calls Tryz.prog 63 #[.int .i64 m, .slice a n cp, .bool e] w fun x w' => ∃ (a' : Option Addr) (c' n' hd : Nat), x = .returned (.tuple #[.slice a' n' c', .int .i64 hd]) ∧ FmAt w w' m e l (stagesOf m) a' c' n' hd := by
  obtain ⟨b1, hb1⟩ : ∃ b1, b1 = (m == 1) := ⟨_, rfl⟩
  obtain ⟨b3, hb3⟩ : ∃ b3, b3 = (m == 3) := ⟨_, rfl⟩
  obtain ⟨mo, hmo⟩ : ∃ mo, mo = stagesOf m - 1 := ⟨_, rfl⟩
  have hst : stagesOf m = mo + 1 := by
    have := stages_range m
    omega
  have hmo2 : mo ≤ 2 := by
    have := stages_range m
    omega
  have HM : Hid (b1 = (m == 1) ∧ b3 = (m == 3) ∧ stagesOf m = mo + 1 ∧ (m == 1) = b1 ∧ (m == 3) = b3) := ⟨hb1, hb3, hst, hb1.symm, hb3.symm⟩
  have HN : Hid (IntsAt w a l ∧ (∀ c ∈ l, Valid c) ∧ n = l.length ∧ l.length ≤ 4194304) := ⟨h, hv, hn, by omega⟩
  have hmo3 : (2 ≤ m ∧ IntKind.i64.wrap (m - 1) = (mo : Int)) ∨ (¬ 2 ≤ m ∧ mo = 0) := by
    unfold stagesOf at hmo
    rcases modes h0 h3 with rfl | rfl | rfl | rfl <;> simp at hmo <;> subst hmo <;> decide
  clear h hv hn hb1 hb3 hst hmo
  go_enter Tryz.func63, Tryz.ntmps63
  go_upto_if 24 with (go_at_call 89; rw [HM.out.2.2.2.1]; refine (stage_calls b1 false e HN.out.1 HN.out.2.1 HN.out.2.2.1 (by omega)).mono ?_; rintro x w1 ⟨a1, c1, n1, d1, rfl, hs⟩; have HS : Hid (FmAt w w1 m e l 1 a1 c1 n1 d1) := FmAt.first HM.out.1 hs; clear hs)
  go_cut [10] (fun v wc => v = .int .i64 (mo : Int) ∧ wc = w1)
  case first =>
    rcases hmo3 with ⟨q1, q2⟩ | ⟨q1, q2⟩
    · go_wp2
      go_meet
      case rel => exact ⟨rfl, rfl⟩
    · subst q2
      go_wp2
      go_meet
      case rel => exact ⟨rfl, rfl⟩
  case rest =>
    obtain ⟨rfl, rfl⟩ := hcut
    obtain ⟨w1, hw1⟩ : ∃ w1, w1 = wc := ⟨_, rfl⟩
    subst hw1
    clear hmo3
    go_wp2
    go_loopw [1, 9, 11] (fun v1 v9 v11 wr => ∃ (i nl hd : Nat) (al : Option Addr) (cl : Nat), v1 = .slice al nl cl ∧ v9 = .int .i64 hd ∧ v11 = .int .i64 i ∧ i ≤ mo ∧ Hid (FmAt w wr m e l (i + 1) al cl nl hd)) (fun _ _ v11 _ => mo - (intOf v11).toNat)
    case atStart => exact ⟨0, n1, d1, a1, c1, rfl, rfl, rfl, Nat.zero_le _, HS.out⟩
    case round =>
      obtain ⟨i, nl, hd, al, cl, rfl, rfl, rfl, hi, HX⟩ := hrel
      by_cases hlt : i < mo
      · have i2 : (i : Int) < (mo : Int) := by omega
        have hnl : nl ≤ 2147483648 := HX.out.small (by omega) HN.out.2.2.2
        go_upto_region 11 with (go_at_call 89; rw [HM.out.2.2.2.2]; refine (stage_calls b3 true e HX.out.row.ints (inAt_valid HN.out.2.1 (i + 1)) HX.out.len hnl).mono ?_; rintro x w2 ⟨a2, c2, n2, d2, rfl, hs⟩; have HS2 : Hid (FmAt w w2 m e l (i + 2) a2 c2 n2 (max hd d2)) := FmAt.step HX.out HM.out.2.1 hs; clear hs)
        by_cases hgt : hd < d2
        · have g1 : (hd : Int) < (d2 : Int) := by omega
          rw [Nat.max_eq_right (by omega)] at HS2
          clear HX HS
          go_wp2
          exact ⟨⟨i + 1, n2, d2, a2, c2, rfl, rfl, by go_num, by omega, HS2.out⟩, by simp [intOf]; omega⟩
        · have g1 : ¬ (hd : Int) < (d2 : Int) := by omega
          rw [Nat.max_eq_left (by omega)] at HS2
          clear HX HS
          go_wp2
          exact ⟨⟨i + 1, n2, hd, a2, c2, rfl, rfl, by go_num, by omega, HS2.out⟩, by simp [intOf]; omega⟩
      · obtain rfl : i = mo := by omega
        have HX2 : Hid (FmAt w wr m e l (stagesOf m) al cl nl hd) := Hid.mk0 (by rw [HM.out.2.2.1]; exact HX.out)
        clear HX HS
        go_wp2
        go_ret2
        exact ⟨al, cl, nl, hd, rfl, HX2.out⟩

end Go.Proofs.YtmhaknejeobfgabGreatDoor

/- Ref18. -/
namespace Go.Proofs.YtmhaknejeobfgabGreatDoor
open Go.RowKit Go.Proofs.YtmhaknejeobfgabGreatDoor.Stable Go.Proofs.YtmhaknejeobfgabGreatDoor.Order Go.Proofs.YtmhaknejeobfgabGreatDoor.Points
attribute [local go_sem ↓] Go.wp_at_zero Go.wp_at_succ

theorem byt_eq {t : ByteArray} {l : List UInt8} (h : t.data.toList = l) : t = ⟨l.toArray⟩ := by
  cases t
  rename_i d
  simp at h
  subst h
  rfl

/-- The form of a whole text. -/
theorem rform_calls (m : Int) (s : List UInt8) {w : World} {a : Option Addr} {cp n : Nat} (h0 : 0 ≤ m) (h3 : m ≤ 3) (h : IntsAt w a (codes s)) (hn : n = (codes s).length) (hl : s.length ≤ 4194304) :
    Calls Tryz.prog 63 #[.int .i64 m, .slice a n cp, .bool true] w fun x w' => ∃ (a' : Option Addr) (c' n' hd : Nat), x = .returned (.tuple #[.slice a' n' c', .int .i64 hd]) ∧ n' = (form m (codes s)).length ∧ Row w' w.heap.size a' c' (form m (codes s)) ∧ Fr (fun _ => False) w w' := by
  refine (form_calls m true h0 h3 h (codes_valid s) hn (by have := codes_len s; omega)).mono ?_
  rintro x w' ⟨a', c', n', hd, rfl, hf⟩
  refine ⟨a', c', n', hd, rfl, ?_, ?_, hf.fr⟩
  · rw [form_line h0 h3]; exact hf.len
  · rw [form_line h0 h3]; exact hf.row

theorem rkey_none (m : Int) (s : ByteArray) (w : World) (h : m < 0 ∨ 3 < m) :
    Calls Tryz.prog 67 #[.int .i64 m, .string s] w fun e w' => e = .returned (.tuple #[.string ⟨#[]⟩, .int .i64 1]) ∧ w' = w := by
  have HM : Hid (m < 0 ∨ 3 < m) := h
  clear h
  go_enter Tryz.func67, Tryz.ntmps67
  go_wp2_with (go_at_call 30; refine (isMode_no m _ HM.out).mono ?_; rintro e w' ⟨rfl, hw⟩; have hw' := hw.symm; subst hw'; clear hw)
  go_ret2
  exact ⟨rfl, rfl⟩

set_option maxRecDepth 100000 in
theorem rkey_calls (m : Int) (s : ByteArray) (w : World) (h0 : 0 ≤ m) (h3 : m ≤ 3) (hbd : s.size ≤ 4194304) :
    Calls Tryz.prog 67 #[.int .i64 m, .string s] w fun e w' => e = .returned (.tuple #[.string ⟨(keyL m s.data.toList).toArray⟩, .int .i64 0]) ∧ Fr (fun _ => False) w w' := by
  have hsz := Lib.size_eq s
  obtain ⟨K, hK⟩ : ∃ K : ByteArray, K = ⟨(keyL m s.data.toList).toArray⟩ := ⟨_, rfl⟩
  rw [← hK]
  obtain ⟨l, hl⟩ : ∃ l, l = codes s.data.toList := ⟨_, rfl⟩
  obtain ⟨F, hF⟩ : ∃ F, F = form m l := ⟨_, rfl⟩
  have HM : Hid (0 ≤ m ∧ m ≤ 3 ∧ s.data.toList.length ≤ 4194304 ∧ s.size ≤ 1099511627776) := ⟨h0, h3, by omega, by omega⟩
  have HK : Hid (K.data.toList = utf8 F ∧ (∀ c ∈ F, Valid c) ∧ F.length ≤ 274877906944 ∧ l = codes s.data.toList ∧ F = form m l) := by
    refine ⟨by rw [hK, hF, hl]; rfl, by rw [hF, hl]; exact form_valid (codes_valid _), ?_, hl, hF⟩
    have := form_length h0 h3 s.data.toList
    rw [hF, hl]
    omega
  clear hsz hK hbd h0 h3 hl hF
  go_enter Tryz.func67, Tryz.ntmps67
  go_wp2_with (first
    | (go_at_call 30; refine (isMode_yes m _ HM.out.1 HM.out.2.1).mono ?_; rintro e w' ⟨rfl, hw⟩; have hw' := hw.symm; subst hw'; clear hw)
    | (go_at_call 62; refine (rpoints_calls s _ HM.out.2.2.2).mono ?_; rintro e w1 ⟨a1, c1, a2, c2, n1, rfl, hn1, hr1, hf1⟩; rw [← HK.out.2.2.2.1] at hn1 hr1; have H1 : Hid (n1 = l.length ∧ Row w1 w.heap.size a1 c1 l ∧ Fr (fun _ => False) w w1) := ⟨hn1, hr1, hf1⟩; clear hn1 hr1 hf1)
    | (go_at_call 63; refine (rform_calls m s.data.toList HM.out.1 HM.out.2.1 (by rw [← HK.out.2.2.2.1]; exact H1.out.2.1.ints) (by rw [← HK.out.2.2.2.1]; exact H1.out.1) HM.out.2.2.1).mono ?_; rintro e w2 ⟨a3, c3, n3, d3, rfl, hn3, hr3, hf3⟩; rw [← HK.out.2.2.2.1, ← HK.out.2.2.2.2] at hn3 hr3; have H2 : Hid (n3 = F.length ∧ Row w2 w1.heap.size a3 c3 F ∧ Fr (fun _ => False) w w2) := ⟨hn3, hr3, H1.out.2.2.trans hf3 (fun _ _ h => h)⟩; clear hn3 hr3 hf3)
    | (go_at_call 33; rw [H2.out.1]; refine (utf8_calls a3 c3 F _ HK.out.2.1 HK.out.2.2.1 H2.out.2.1.ints).mono ?_; rintro e w3 ⟨t, rfl, ht, hf4⟩; obtain rfl : t = K := (byt_eq ht).trans (byt_eq HK.out.1).symm; have H3 : Hid (Fr (fun _ => False) w w3) := H2.out.2.2.trans hf4 (fun _ _ h => h); clear hf4 ht))
  go_ret2
  exact ⟨rfl, H3.out⟩

theorem rhash_none (m : Int) (s : ByteArray) (w : World) (h : m < 0 ∨ 3 < m) :
    Calls Tryz.prog 68 #[.int .i64 m, .string s] w fun e w' => e = .returned (.tuple #[.int .u64 0, .int .i64 1]) ∧ w' = w := by
  have HM : Hid (m < 0 ∨ 3 < m) := h
  clear h
  go_enter Tryz.func68, Tryz.ntmps68
  go_wp2_with (go_at_call 67; refine (rkey_none m s _ HM.out).mono ?_; rintro e w' ⟨rfl, hw⟩; have hw' := hw.symm; subst hw'; clear hw)
  go_ret2
  exact ⟨rfl, rfl⟩

set_option maxRecDepth 100000 in
theorem rhash_all (m : Int) (s : ByteArray) (w : World) (h0 : 0 ≤ m) (h3 : m ≤ 3) (hbd : s.size ≤ 4194304) :
    Calls Tryz.prog 68 #[.int .i64 m, .string s] w fun e w' => e = .returned (.tuple #[.int .u64 (hashL (keyL m s.data.toList)), .int .i64 0]) ∧ Fr (fun _ => False) w w' := by
  have hsz := Lib.size_eq s
  obtain ⟨K, hK⟩ : ∃ K : ByteArray, K = ⟨(keyL m s.data.toList).toArray⟩ := ⟨_, rfl⟩
  obtain ⟨g, hg⟩ : ∃ g, g = hashL (keyL m s.data.toList) := ⟨_, rfl⟩
  rw [← hg]
  have HM : Hid (0 ≤ m ∧ m ≤ 3 ∧ s.size ≤ 4194304) := ⟨h0, h3, hbd⟩
  have HK : Hid (K = ⟨(keyL m s.data.toList).toArray⟩ ∧ K.size ≤ 1099511627776 ∧ g = hashL K.data.toList) := by
    refine ⟨hK, ?_, by rw [hK]; exact hg⟩
    have := key_size h0 h3 s.data.toList
    rw [hK, Lib.size_eq]
    show (keyL m s.data.toList).length ≤ _
    omega
  clear hsz hK hg hbd h0 h3
  go_enter Tryz.func68, Tryz.ntmps68
  go_wp2_with (first
    | (go_at_call 67; refine (rkey_calls m s _ HM.out.1 HM.out.2.1 HM.out.2.2).mono ?_; rw [← HK.out.1]; rintro e w1 ⟨rfl, hf1⟩; have H1 : Hid (Fr (fun _ => False) w w1) := hf1; clear hf1)
    | (go_at_call 32; refine (rhash_calls K _ HK.out.2.1).mono ?_; rw [← HK.out.2.2]; rintro e w2 ⟨rfl, hf2⟩; have H2 : Hid (Fr (fun _ => False) w w2) := H1.out.trans hf2 (fun _ _ h => h); clear hf2))
  go_ret2
  exact ⟨rfl, H2.out⟩

theorem rcompare_none (m : Int) (a b : ByteArray) (w : World) (h : m < 0 ∨ 3 < m) :
    Calls Tryz.prog 71 #[.int .i64 m, .string a, .string b] w fun e w' => e = .returned (.tuple #[.int .i64 0, .int .i64 1]) ∧ w' = w := by
  have HM : Hid (m < 0 ∨ 3 < m) := h
  clear h
  go_enter Tryz.func71, Tryz.ntmps71
  go_wp2_with (go_at_call 30; refine (isMode_no m _ HM.out).mono ?_; rintro e w' ⟨rfl, hw⟩; have hw' := hw.symm; subst hw'; clear hw)
  go_ret2
  exact ⟨rfl, rfl⟩

set_option maxRecDepth 100000 in
set_option maxHeartbeats 1600000 in
theorem rcompare_calls (m : Int) (a b : ByteArray) (w : World) (h0 : 0 ≤ m) (h3 : m ≤ 3) (ha : a.size ≤ 4194304) (hb : b.size ≤ 4194304) :
    Calls Tryz.prog 71 #[.int .i64 m, .string a, .string b] w fun e w' => e = .returned (.tuple #[.int .i64 (cmpL m a.data.toList b.data.toList), .int .i64 0]) ∧ Fr (fun _ => False) w w' := by
  have ea := Lib.size_eq a
  have eb := Lib.size_eq b
  obtain ⟨A, hA⟩ : ∃ A, A = codes a.data.toList := ⟨_, rfl⟩
  obtain ⟨B, hB⟩ : ∃ B, B = codes b.data.toList := ⟨_, rfl⟩
  obtain ⟨F, hF⟩ : ∃ F, F = form m A := ⟨_, rfl⟩
  obtain ⟨G, hG⟩ : ∃ G, G = form m B := ⟨_, rfl⟩
  obtain ⟨S, hS⟩ : ∃ S, S = cmpL m a.data.toList b.data.toList := ⟨_, rfl⟩
  rw [← hS]
  have HM : Hid (0 ≤ m ∧ m ≤ 3 ∧ a.data.toList.length ≤ 4194304 ∧ b.data.toList.length ≤ 4194304 ∧ a.size ≤ 1099511627776 ∧ b.size ≤ 1099511627776) := ⟨h0, h3, by omega, by omega, by omega, by omega⟩
  have HS : Hid (S = signL F G ∧ F.length ≤ 1099511627776 ∧ G.length ≤ 1099511627776) := by
    have l1 := form_length h0 h3 a.data.toList
    have l2 := form_length h0 h3 b.data.toList
    refine ⟨by rw [hS, hF, hG, hA, hB]; rfl, ?_, ?_⟩
    · rw [hF, hA]; omega
    · rw [hG, hB]; omega
  have HL : Hid (A = codes a.data.toList ∧ B = codes b.data.toList ∧ F = form m A ∧ G = form m B) := ⟨hA, hB, hF, hG⟩
  clear ea eb hA hB hF hG hS h0 h3 ha hb
  go_enter Tryz.func71, Tryz.ntmps71
  go_wp2_with (first
    | (go_at_call 30; refine (isMode_yes m _ HM.out.1 HM.out.2.1).mono ?_; rintro e w' ⟨rfl, hw⟩; have hw' := hw.symm; subst hw'; clear hw)
    | (go_at_call_of 62 (Value.string a); refine (rpoints_calls a w HM.out.2.2.2.2.1).mono ?_; rintro e w1 ⟨a1, c1, a2, c2, n1, rfl, hn1, hr1, hf1⟩; rw [← HL.out.1] at hn1 hr1; have H1 : Hid (n1 = A.length ∧ Row w1 w.heap.size a1 c1 A ∧ Fr (fun _ => False) w w1) := ⟨hn1, hr1, hf1⟩; clear hn1 hr1 hf1))
  go_wp2_with (first
    | (go_at_call_of 62 (Value.string b); refine (rpoints_calls b w1 HM.out.2.2.2.2.2).mono ?_; rintro e w2 ⟨b1, d1, b2, d2, k1, rfl, hn1, hr1, hf1⟩; rw [← HL.out.2.1] at hn1 hr1; have H2 : Hid (k1 = B.length ∧ Row w2 w1.heap.size b1 d1 B ∧ Fr (fun _ => False) w w2 ∧ Row w2 w.heap.size a1 c1 A) := ⟨hn1, hr1, H1.out.2.2.trans hf1 (fun _ _ h => h), H1.out.2.1.keep hf1⟩; clear hn1 hr1 hf1)
    | (go_at_call_of 63 (Value.slice a1 n1 c1); refine (rform_calls m a.data.toList (w := w2) (a := a1) (n := n1) HM.out.1 HM.out.2.1 (by rw [← HL.out.1]; exact H2.out.2.2.2.ints) (by rw [← HL.out.1]; exact H1.out.1) HM.out.2.2.1).mono ?_; rintro e w3 ⟨a3, c3, n3, d3, rfl, hn3, hr3, hf3⟩; rw [← HL.out.1, ← HL.out.2.2.1] at hn3 hr3; have H3 : Hid (n3 = F.length ∧ Row w3 w2.heap.size a3 c3 F ∧ Fr (fun _ => False) w w3 ∧ Row w3 w1.heap.size b1 d1 B) := ⟨hn3, hr3, H2.out.2.2.1.trans hf3 (fun _ _ h => h), H2.out.2.1.keep hf3⟩; clear hn3 hr3 hf3))
  go_wp2_with (first
    | (go_at_call_of 63 (Value.slice b1 k1 d1); refine (rform_calls m b.data.toList (w := w3) (a := b1) (n := k1) HM.out.1 HM.out.2.1 (by rw [← HL.out.2.1]; exact H3.out.2.2.2.ints) (by rw [← HL.out.2.1]; exact H2.out.1) HM.out.2.2.2.1).mono ?_; rintro e w4 ⟨b3, e3, k3, f3, rfl, hn3, hr3, hf3⟩; rw [← HL.out.2.1, ← HL.out.2.2.2] at hn3 hr3; have H4 : Hid (k3 = G.length ∧ Row w4 w3.heap.size b3 e3 G ∧ Fr (fun _ => False) w w4 ∧ Row w4 w2.heap.size a3 c3 F) := ⟨hn3, hr3, H3.out.2.2.1.trans hf3 (fun _ _ h => h), H3.out.2.1.keep hf3⟩; clear hn3 hr3 hf3)
    | (go_at_call 95; refine (sign_calls H4.out.2.2.2.ints H4.out.2.1.ints H3.out.1 H4.out.1 (by rw [H3.out.1]; exact HS.out.2.1) (by rw [H4.out.1]; exact HS.out.2.2)).mono ?_; rw [← HS.out.1]; rintro e w5 ⟨rfl, hf5⟩; have H5 : Hid (Fr (fun _ => False) w w5) := H4.out.2.2.1.trans hf5 (fun _ _ h => h); clear hf5))
  go_ret2
  exact ⟨rfl, H5.out⟩

end Go.Proofs.YtmhaknejeobfgabGreatDoor
