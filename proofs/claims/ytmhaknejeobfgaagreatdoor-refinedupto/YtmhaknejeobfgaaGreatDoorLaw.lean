/- The law Ordered, walked: it answers true. The law Refined, walked: it answers true. What the listed variables give at the call's first world, and a world that holds them. What the law Refined asks of its arguments, and what its walk gives. -/
import Derived.Test.YtmhaknejeobfgaaGreatDoorKeys
import Derived.Test.YtmhaknejeobfgaaGreatDoorComparing
import Derived.Test.YtmhaknejeobfgaaGreatDoorTables
import Derived.Test.YtmhaknejeobfgaaGreatDoorBase
import Derived.Test.YtmhaknejeobfgaaGreatDoorShelf
import Derived.Test.YtmhaknejeobfgaaGreatDoorRows
import Derived.Deep.DeepHandedRow
import Derived.Deep.DeepWitnessRowRef
import Derived.Lib.LaidTab
import Derived.Lib.LaidU8
import Derived.ProofKit
import Derived.Deep.DeepLaidRun
import Derived.OpenShut

/- Ordered1. -/
namespace Go.Proofs.YtmhaknejeobfgaaGreatDoor
open Go.RowKit Go.Proofs.YtmhaknejeobfgaaGreatDoor.Stable Go.Proofs.YtmhaknejeobfgaaGreatDoor.Order Go.Proofs.YtmhaknejeobfgaaGreatDoor.Points
attribute [local go_sem ↓] Go.wp_at_zero Go.wp_at_succ

/-- How two texts stand by their bytes. -/
def lessL (x y : List UInt8) : Int := if Op.bytesLess x y = true then -1 else if x = y then 0 else 1

theorem gtr_strings (x y : ByteArray) (w : World) : (binOp .gtr 9 (.string x) (.string y)).run Tryz.prog w = .ok (.bool (!(Op.bytesLess x.toList y.toList || x.toList == y.toList))) w := by kernel_rfl

set_option maxRecDepth 100000 in
theorem less_calls (x y : ByteArray) (w : World) : Calls Tryz.prog 29 #[.string x, .string y] w fun e w' => e = .returned (.int .i64 (lessL x.data.toList y.data.toList)) ∧ w' = w := by
  obtain ⟨v, hv⟩ : ∃ v, v = lessL x.data.toList y.data.toList := ⟨_, rfl⟩
  rw [← hv]
  unfold lessL at hv
  by_cases h1 : Op.bytesLess x.data.toList y.data.toList = true
  · rw [if_pos h1] at hv
    subst hv
    have b1 : Op.bytesLess x.toList y.toList = true := by rw [Lib.toList_data, Lib.toList_data]; exact h1
    clear h1
    go_enter Tryz.func29, Tryz.ntmps29
    go_wp2
    go_ret
    exact ⟨rfl, rfl⟩
  · rw [if_neg h1] at hv
    have b1 : Op.bytesLess x.toList y.toList = false := by rw [Lib.toList_data, Lib.toList_data]; simpa using h1
    by_cases h2 : x.data.toList = y.data.toList
    · rw [if_pos h2] at hv
      subst hv
      have b2 : (x.toList == y.toList) = true := by rw [Lib.toList_data, Lib.toList_data, h2]; simp
      have hg := gtr_strings x y
      simp only [b1, b2] at hg
      clear h1 h2
      go_enter Tryz.func29, Tryz.ntmps29
      go_wp2
      go_ret
      exact ⟨rfl, rfl⟩
    · rw [if_neg h2] at hv
      subst hv
      have b2 : (x.toList == y.toList) = false := by rw [Lib.toList_data, Lib.toList_data, beq_eq_false_iff_ne]; exact h2
      have hg := gtr_strings x y
      simp only [b1, b2] at hg
      clear h1 h2
      go_enter Tryz.func29, Tryz.ntmps29
      go_wp2
      go_ret
      exact ⟨rfl, rfl⟩

/-- The order of two texts is that of their Keys by their bytes. -/
theorem cmp_less (m : Int) (a b : List UInt8) : lessL (keyL m a) (keyL m b) = cmpL m a b := by
  have hF : ∀ c ∈ form m (codes a), Valid c := form_valid (codes_valid _)
  have hG : ∀ c ∈ form m (codes b), Valid c := form_valid (codes_valid _)
  unfold lessL cmpL keyL
  rcases sign_bytes _ _ hF hG with ⟨h1, h2⟩ | ⟨h1, h2⟩ | ⟨h1, h2⟩
  · rw [if_pos h2, h1]
  · rw [h2, if_neg (by rw [bl_irrefl]; simp), if_pos rfl, signL_self]
  · have h3 := bl_asymm _ _ h2
    have h4 : utf8 (form m (codes a)) ≠ utf8 (form m (codes b)) := by
      intro e
      rw [e, bl_irrefl] at h2
      cases h2
    rw [if_neg (by rw [h3]; simp), if_neg h4, h1]

theorem cmp_swap (m : Int) (a b : List UInt8) : cmpL m b a = - cmpL m a b := signL_swap _ _

theorem cmp_key {m : Int} (h0 : 0 ≤ m) (h3 : m ≤ 3) (a : List UInt8) : cmpL m a (keyL m a) = 0 := by
  unfold cmpL keyL
  rw [codes_of_utf8 _ (form_valid (codes_valid a)), form_fixed h0 h3]
  exact signL_self _

theorem cmp_range (m : Int) (a b : List UInt8) : cmpL m a b = -1 ∨ cmpL m a b = 0 ∨ cmpL m a b = 1 := by
  unfold cmpL
  rcases sign_bytes _ _ (form_valid (m := m) (codes_valid a)) (form_valid (m := m) (codes_valid b)) with h | h | h
  · exact .inl h.1
  · exact .inr (.inl h.1)
  · exact .inr (.inr h.1)

set_option maxRecDepth 100000 in
set_option maxHeartbeats 800000 in
theorem ordered_walk (raw : Int) (a b : ByteArray) (w : World) (h0 : -9223372036854775808 ≤ raw) (h1 : raw ≤ 9223372036854775807) (hE : Env w) (ha : a.size ≤ 1048576) (hb : b.size ≤ 1048576) :
    Calls Tryz.prog 10 #[.int .i64 raw, .string a, .string b] w fun e w' => e = .returned (.bool true) ∧ Fr (fun _ => False) w w' := by
  have hsa := Lib.size_eq a
  have hsb := Lib.size_eq b
  have HB : Hid (a.data.toList.length ≤ 1048576 ∧ b.data.toList.length ≤ 1048576) := by rw [hsa] at ha; rw [hsb] at hb; exact ⟨ha, hb⟩
  have HE : Hid (Env w) := hE
  have HKS : Hid (∀ m : Int, 0 ≤ m → m ≤ 3 → 432 * (keyL m a.data.toList).length ≤ 1099511627776) := Hid.to (fun m p q => by have := key_size p q a.data.toList; have := HB.out; omega)
  clear hsa hsb ha hb hE
  go_enter Tryz.func10, Tryz.ntmps10
  go_wp2_with (first
    | (go_at_call 19; refine (pick_calls raw 4 _ h0 h1 (by omega) (by omega)).mono ?_; rintro e w' ⟨m, rfl, hm, hw⟩; have hw' := hw.symm; subst hw'; clear hw)
    | (go_at_call 20; refine (known_calls m _ (by omega) (by omega) HE.out).mono ?_; rintro e w1 ⟨rfl, hf1⟩; have HF1 : Hid (Fr (fun _ => False) w w1) := hf1; clear hf1))
  refine (key_calls m a _ (by omega) (by omega) (HE.out.kept HF1.out (fun _ _ => id)) (by have := HB.out; omega)).mono ?_
  obtain ⟨k, hk⟩ : ∃ k : ByteArray, k = ⟨(keyL m a.data.toList).toArray⟩ := ⟨_, rfl⟩
  rw [← hk]
  have HK : Hid (k.data.toList = keyL m a.data.toList) := Hid.to (by rw [hk])
  clear hk
  rintro e w2 ⟨rfl, hf2⟩
  have HF2 : Hid (Fr (fun _ => False) w w2) := HF1.out.trans hf2 (fun _ _ h => h)
  clear hf2
  go_wp2_with fail
  refine (key_calls m b _ (by omega) (by omega) (HE.out.kept HF2.out (fun _ _ => id)) (by have := HB.out; omega)).mono ?_
  obtain ⟨l, hl⟩ : ∃ l : ByteArray, l = ⟨(keyL m b.data.toList).toArray⟩ := ⟨_, rfl⟩
  rw [← hl]
  have HL : Hid (l.data.toList = keyL m b.data.toList) := Hid.to (by rw [hl])
  clear hl
  rintro e w3 ⟨rfl, hf3⟩
  have HF3 : Hid (Fr (fun _ => False) w w3) := HF2.out.trans hf3 (fun _ _ h => h)
  clear hf3
  obtain ⟨n, hn⟩ : ∃ n, n = cmpL m a.data.toList b.data.toList := ⟨_, rfl⟩
  have HN : Hid (n = cmpL m a.data.toList b.data.toList) := hn
  have n0 : -1 ≤ n := by rcases cmp_range m a.data.toList b.data.toList with h | h | h <;> omega
  have n1 : n ≤ 1 := by rcases cmp_range m a.data.toList b.data.toList with h | h | h <;> omega
  clear hn
  go_wp2_with fail
  refine (compare_calls m a b _ (by omega) (by omega) (HE.out.kept HF3.out (fun _ _ => id)) (by have := HB.out; omega) (by have := HB.out; omega)).mono ?_
  rw [← HN.out]
  rintro e w4 ⟨rfl, hf4⟩
  have HF4 : Hid (Fr (fun _ => False) w w4) := HF3.out.trans hf4 (fun _ _ h => h)
  clear hf4
  go_wp2_with fail
  refine (compare_calls m b a _ (by omega) (by omega) (HE.out.kept HF4.out (fun _ _ => id)) (by have := HB.out; omega) (by have := HB.out; omega)).mono ?_
  rw [cmp_swap, ← HN.out]
  rintro e w5 ⟨rfl, hf5⟩
  have HF5 : Hid (Fr (fun _ => False) w w5) := HF4.out.trans hf5 (fun _ _ h => h)
  clear hf5
  go_wp2_with fail
  refine (compare_calls m a k _ (by omega) (by omega) (HE.out.kept HF5.out (fun _ _ => id)) (by have := HB.out; omega) (by rw [HK.out]; exact HKS.out m (by omega) (by omega))).mono ?_
  rw [HK.out, cmp_key (by omega) (by omega)]
  rintro e w6 ⟨rfl, hf6⟩
  have HF6 : Hid (Fr (fun _ => False) w w6) := HF5.out.trans hf6 (fun _ _ h => h)
  clear hf6
  go_wp2_with fail
  refine (less_calls k l _).mono ?_
  rw [HK.out, HL.out, cmp_less, ← HN.out]
  rintro e w7 ⟨rfl, hw⟩
  have hw' := hw.symm
  subst hw'
  clear hw
  go_wp2
  go_ret
  exact ⟨rfl, HF6.out⟩

end Go.Proofs.YtmhaknejeobfgaaGreatDoor

/- Refined1. -/
namespace Go.Proofs.YtmhaknejeobfgaaGreatDoor
open Go.RowKit Go.Proofs.YtmhaknejeobfgaaGreatDoor.Stable Go.Proofs.YtmhaknejeobfgaaGreatDoor.Order Go.Proofs.YtmhaknejeobfgaaGreatDoor.Points
attribute [local go_sem ↓] Go.wp_at_zero Go.wp_at_succ

theorem cmp_zero {m : Int} {a b : List UInt8} : cmpL m a b = 0 ↔ form m (codes a) = form m (codes b) := signL_zero (form_valid (codes_valid _)) (form_valid (codes_valid _))

theorem refined_all {a b : List UInt8} (h : cmpL 0 a b = 0) : cmpL 1 a b = 0 ∧ cmpL 2 a b = 0 ∧ cmpL 3 a b = 0 := by
  have h := cmp_zero.1 h
  exact ⟨cmp_zero.2 (same_all h (by omega) (by omega)), cmp_zero.2 (same_all h (by omega) (by omega)), cmp_zero.2 (same_all h (by omega) (by omega))⟩

theorem refined_case {a b : List UInt8} (h : cmpL 2 a b = 0) : cmpL 3 a b = 0 := cmp_zero.2 (same_case (cmp_zero.1 h))

/-- The row of four, of which k are told. -/
def Four (a b : List UInt8) (k : Nat) (cs : Array Value) : Prop := cs.size = 4 ∧ ∀ j, j < k → cs[j]? = some (.int .i64 (cmpL j a b))

set_option maxRecDepth 100000 in
set_option maxHeartbeats 1600000 in
theorem refined_walk (a b : ByteArray) (w : World) (hE : Env w) (ha : a.size ≤ 1048576) (hb : b.size ≤ 1048576) :
    Calls Tryz.prog 11 #[.string a, .string b] w fun e w' => e = .returned (.bool true) ∧ Fr (fun _ => False) w w' := by
  have hsa := Lib.size_eq a
  have hsb := Lib.size_eq b
  have HB : Hid (a.data.toList.length ≤ 1048576 ∧ b.data.toList.length ≤ 1048576) := by rw [hsa] at ha; rw [hsb] at hb; exact ⟨ha, hb⟩
  have HE : Hid (Env w) := hE
  have hnot : ∀ (x : Bool) (w : World), (Op.unary .not (.bool x)).run Tryz.prog w = .ok (.bool (!x)) w := fun _ _ => rfl
  clear hsa hsb ha hb hE
  go_enter Tryz.func11, Tryz.ntmps11
  go_wp2
  have b0 : (w.alloc (.cells #[.int .i64 0, .int .i64 0, .int .i64 0, .int .i64 0] 53)).heap[w.heap.size]? = some (.cells #[.int .i64 0, .int .i64 0, .int .i64 0, .int .i64 0] 53 (0, 0)) := heap_alloc_new w _
  have f0 : Fr (fun x => x = w.heap.size) w (w.alloc (.cells #[.int .i64 0, .int .i64 0, .int .i64 0, .int .i64 0] 53)) := (Fr.refl _ _).alloc _
  have HW : Hid ((w.alloc (.cells #[.int .i64 0, .int .i64 0, .int .i64 0, .int .i64 0] 53)).heap[w.heap.size]? = some (.cells #[.int .i64 0, .int .i64 0, .int .i64 0, .int .i64 0] 53 (0, 0)) ∧ Fr (fun x => x = w.heap.size) w (w.alloc (.cells #[.int .i64 0, .int .i64 0, .int .i64 0, .int .i64 0] 53))) := ⟨b0, f0⟩
  clear b0 f0
  go_loopw [6] (fun vi wr => ∃ k : Nat, vi = .int .i64 k ∧ k ≤ 4 ∧ Hid (∃ cs, wr.heap[w.heap.size]? = some (.cells cs 53 (0, 0)) ∧ Four a.data.toList b.data.toList k cs ∧ Fr (fun x => x = w.heap.size) w wr)) (fun vi _ => 4 - (intOf vi).toNat)
  case atStart => exact ⟨0, rfl, by omega, _, HW.out.1, ⟨rfl, fun j hj => absurd hj (by omega)⟩, HW.out.2⟩
  case round =>
    obtain ⟨k, rfl, hk, hh⟩ := hrel
    by_cases hlt : k < 4
    · obtain ⟨cs, q1, q2, q3⟩ := hh.out
      have i0 : (0 : Int) ≤ (k : Int) := by omega
      have i1 : (k : Int) < 4 := by omega
      have HQ : Hid (wr.heap[w.heap.size]? = some (.cells cs 53 (0, 0)) ∧ Four a.data.toList b.data.toList k cs ∧ Fr (fun x => x = w.heap.size) w wr) := ⟨q1, q2, q3⟩
      have HEr : Hid (Env wr) := HE.out.kept q3 (fun j hj e => by have := HE.out.size; omega)
      clear hh q1 q2 q3
      go_wp2_with (go_at_call 20; refine (known_calls k _ (by omega) (by omega) HEr.out).mono ?_; rintro e w1 ⟨rfl, hf1⟩; have HF1 : Hid (Fr (fun _ => False) wr w1) := hf1; clear hf1)
      refine (compare_calls k a b _ (by omega) (by omega) (HEr.out.kept HF1.out (fun _ _ => id)) (by have := HB.out; omega) (by have := HB.out; omega)).mono ?_
      obtain ⟨n, hn⟩ : ∃ n, n = cmpL k a.data.toList b.data.toList := ⟨_, rfl⟩
      rw [← hn]
      have HN : Hid (n = cmpL k a.data.toList b.data.toList) := hn
      clear hn
      rintro e w2 ⟨rfl, hf2⟩
      have hf : Fr (fun _ => False) wr w2 := HF1.out.trans hf2 (fun _ _ h => h)
      have hb2 : w2.heap[w.heap.size]? = some (.cells cs 53 (0, 0)) := (hf.block _ (lt_of HQ.out.1) id).trans HQ.out.1
      have hks : k < cs.size := by rw [HQ.out.2.1.1]; exact hlt
      have ck : ∃ v, w2.cell? ⟨w.heap.size, k, none⟩ = some v := ⟨_, cell_of hb2 (Array.getElem?_eq_getElem hks)⟩
      obtain ⟨v, ck⟩ := ck
      have fz := frozen_of hb2 k
      have HB2 : Hid (w2.heap[w.heap.size]? = some (.cells cs 53 (0, 0)) ∧ Fr (fun _ => False) wr w2 ∧ k < cs.size) := ⟨hb2, hf, hks⟩
      clear hb2 hf hf2 hks
      go_wp2
      refine ⟨⟨k + 1, by go_num, by omega, cs.setIfInBounds k (.int .i64 n), set_of HB2.out.1 k _, ⟨by rw [Array.size_setIfInBounds]; exact HQ.out.2.1.1, fun j hj => ?_⟩, ?_⟩, by simp [intOf]; omega⟩
      · by_cases hjk : j = k
        · subst hjk
          rw [get_set_same _ HB2.out.2.2, HN.out]
        · rw [get_set_other _ hjk]
          exact HQ.out.2.1.2 j (by omega)
      · exact (HQ.out.2.2.trans HB2.out.2.1 (fun _ _ h => h.elim)).setCell _ _ (fun _ => rfl)
    · obtain rfl : k = 4 := by omega
      obtain ⟨cs, q1, q2, q3⟩ := hh.out
      obtain ⟨n0, h0⟩ : ∃ n, n = cmpL 0 a.data.toList b.data.toList := ⟨_, rfl⟩
      obtain ⟨n1, h1⟩ : ∃ n, n = cmpL 1 a.data.toList b.data.toList := ⟨_, rfl⟩
      obtain ⟨n2, h2⟩ : ∃ n, n = cmpL 2 a.data.toList b.data.toList := ⟨_, rfl⟩
      obtain ⟨n3, h3⟩ : ∃ n, n = cmpL 3 a.data.toList b.data.toList := ⟨_, rfl⟩
      have c0 : wr.cell? ⟨w.heap.size, 0, none⟩ = some (.int .i64 n0) := by rw [h0]; exact cell_of q1 (q2.2 0 (by omega))
      have c1 : wr.cell? ⟨w.heap.size, 1, none⟩ = some (.int .i64 n1) := by rw [h1]; exact cell_of q1 (q2.2 1 (by omega))
      have c2 : wr.cell? ⟨w.heap.size, 2, none⟩ = some (.int .i64 n2) := by rw [h2]; exact cell_of q1 (q2.2 2 (by omega))
      have c3 : wr.cell? ⟨w.heap.size, 3, none⟩ = some (.int .i64 n3) := by rw [h3]; exact cell_of q1 (q2.2 3 (by omega))
      have k0 : n0 = 0 → n1 = 0 ∧ n2 = 0 ∧ n3 = 0 := fun h => by rw [h1, h2, h3]; exact refined_all (by rw [← h0]; exact h)
      have k2 : n2 = 0 → n3 = 0 := fun h => by rw [h3]; exact refined_case (by rw [← h2]; exact h)
      have HFR : Hid (Fr (fun _ => False) w wr) := q3.mono (fun i hi h => by omega)
      clear hh q1 q2 q3 h0 h1 h2 h3
      by_cases z0 : n0 = 0
      · obtain ⟨e1, e2, e3⟩ := k0 z0
        subst z0 e1 e2 e3
        clear k0 k2
        go_wp2
        go_ret
        exact ⟨rfl, HFR.out⟩
      · have b0 : (n0 != 0) = true := by rw [bne_iff_ne]; exact z0
        by_cases z2 : n2 = 0
        · have e3 := k2 z2
          subst z2 e3
          clear k0 k2 z0
          by_cases z1 : n1 = 0
          · subst z1
            go_wp2
            go_ret
            exact ⟨rfl, HFR.out⟩
          · have b1 : (n1 == 0) = false := by rw [beq_eq_false_iff_ne]; exact z1
            clear z1
            go_wp2
            go_ret
            exact ⟨rfl, HFR.out⟩
        · have b2 : (n2 != 0) = true := by rw [bne_iff_ne]; exact z2
          have b2' : (n2 == 0) = false := by rw [beq_eq_false_iff_ne]; exact z2
          clear k0 k2 z0 z2
          by_cases z1 : n1 = 0
          · subst z1
            go_wp2
            go_ret
            exact ⟨rfl, HFR.out⟩
          · have b1 : (n1 == 0) = false := by rw [beq_eq_false_iff_ne]; exact z1
            clear z1
            go_wp2
            go_ret
            exact ⟨rfl, HFR.out⟩

end Go.Proofs.YtmhaknejeobfgaaGreatDoor

/- Frame. -/
namespace Go.Proofs.YtmhaknejeobfgaaGreatDoor
open Go.RowKit Go.ChangeShapes Go.WideShapes Go.ChangeAt

theorem own : ownKnob Tryz.prog.godebug = none := by kernel_rfl

theorem int_range {raw : Int} (h : (Lit.int .i64 raw).wf = true) : -9223372036854775808 ≤ raw ∧ raw ≤ 9223372036854775807 := by
  have h' : (decide (IntKind.i64.min ≤ raw) && decide (raw ≤ IntKind.i64.max)) = true := h
  rw [Bool.and_eq_true, decide_eq_true_eq, decide_eq_true_eq] at h'
  have e1 : IntKind.i64.min = -9223372036854775808 := by decide
  have e2 : IntKind.i64.max = 9223372036854775807 := by decide
  rw [e1, e2] at h'
  exact h'

/-- What the rows list. -/
def laidL : List (String × DataW Unit) := Rows.summedUptoRow.laid

theorem laid_first : ("unicode/utf8.first", Lib.firstData) ∈ laidL := by
  have : laidL[8]? = some ("unicode/utf8.first", Lib.firstData) := by kernel_rfl
  exact List.mem_of_getElem? this

theorem laid_accept : ("unicode/utf8.acceptRanges", Lib.acceptData) ∈ laidL := by
  have : laidL[3]? = some ("unicode/utf8.acceptRanges", Lib.acceptData) := by kernel_rfl
  exact List.mem_of_getElem? this

theorem laid_space : ("strings.asciiSpace", Lib.tabData .u8 Lib.asciiSpaceTab) ∈ laidL := by
  have : laidL[7]? = some ("strings.asciiSpace", Lib.tabData .u8 Lib.asciiSpaceTab) := by kernel_rfl
  exact List.mem_of_getElem? this

theorem gSpace : Tryz.prog.globalNamed "strings.asciiSpace" = some 2 := by kernel_rfl
theorem gSpaceType : (Tryz.prog.globals[2]?).map (·.type) = some 171 := by kernel_rfl
theorem cellsTab : Tryz.prog.cellsOf 171 = 256 := by kernel_rfl
theorem cellsByte : Tryz.prog.cellsOf 5 = 1 := by kernel_rfl

theorem tabIs_of_reads {P : Program} {W : World} {name : String} {k : IntKind} {zs : List Int} {g : Nat} {t e : TypeId} {n : Nat}
    (hg : P.globalNamed name = some g) (hty : (P.globals[g]?).map (·.type) = some t) (ht : P.underlying t = some (.array n e)) (he : P.underlying e = some (.int k)) (hce : P.cellsOf e = 1) (hct : P.cellsOf t = n)
    (h : Lib.VarReads P W name (Lib.tabData k zs)) : Lib.TabIs P W name k zs := by
  obtain ⟨g', t', cs, fuel, p, hg', ht', hvar, hd⟩ := h
  obtain rfl := Option.some.inj (hg.symm.trans hg')
  obtain rfl := Option.some.inj (hty.symm.trans ht')
  unfold Lib.TabIs
  rw [hvar, ← Lib.cells_of_tab ht he hce hct hd]

/-- WHAT THE LIST AND THE WORLD'S SHAPE GIVE: all that the walks ask of the globals. -/
theorem env_of {W : World} (hL : laidMetH Tryz.prog laidL W) (hsh : W.ShapedOpen Tryz.prog) : Env W := by
  have hM : laidMet Tryz.prog laidL W := hL
  refine ⟨?_, Tryz.laysM219.s1_3 W hsh, ?_, ?_⟩
  · obtain ⟨cs, h, _⟩ := hsh.1 10 #[.pointer none] 192 (by decide +kernel) (by kernel_rfl)
    exact lt_of h
  · exact tabIs_of_reads gSpace gSpaceType Tryz.underlying171 Tryz.underlying5 cellsByte cellsTab (Lib.laidMet.reads hM laid_space)
  · exact utf8Tabs_of_reads { Tryz.lays260 with } ⟨by kernel_rfl, by kernel_rfl, by kernel_rfl, by kernel_rfl, by kernel_rfl, by kernel_rfl, by kernel_rfl⟩ (Lib.laidMet.reads hM laid_first) (Lib.laidMet.reads hM laid_accept)

/-- The bytes of a listed text. -/
def laidBytes : DataW Unit → List UInt8
  | .iface _ (.ptr (.agg [.lit (.string l)])) => l
  | _ => []

def intsOf : DataW Unit → List Value
  | .agg l => l.map fun | .lit (.int k z) => .int k z | _ => .bool false
  | _ => []

/-- A WORLD FOR THE WITNESS: the settled one with four blocks more (the texts of two errors; a table's ranges; the table), the nine listed variables holding what their initialisers lay. -/
def laidWorld (P : Program) (os : Os) : World :=
  let N := (World.settled P os).heap.size
  let w0 := World.holding P os ⟨#[.cells #[.string ⟨(laidBytes Rows.laid_strconv_ErrRange).toArray⟩] 226, .cells #[.string ⟨(laidBytes Rows.laid_strconv_ErrSyntax).toArray⟩] 226,
    .cells (Lib.whiteT.map fun (z : Nat) => Value.int .u16 (z : Int)).toArray 206, .cells #[.slice (some ⟨N + 2, 0, none⟩) 7 7, .slice none 0 0, .int .i64 2] 203], #[], []⟩
  let put (h : Array Obj) (g : Nat) (cs : Array Value) : Array Obj := h.modify g fun
    | .cells _ t frozen => .cells cs t frozen
    | o => o
  let h1 := put w0.heap 2 (Lib.asciiSpaceTab.map fun z => Value.int .u8 z).toArray
  let h2 := put h1 0 (Lib.firstTab.map fun z => Value.int .u8 z).toArray
  let h3 := put h2 1 ((List.range 16).flatMap fun i => [Value.int .u8 (Lib.accLo i), Value.int .u8 (Lib.accHi i)]).toArray
  let h4 := put h3 3 #[.pointer (some ⟨N + 3, 0, none⟩)]
  let h5 := put h4 5 #[.iface 224 (.pointer (some ⟨N, 0, none⟩))]
  let h6 := put h5 4 #[.iface 224 (.pointer (some ⟨N + 1, 0, none⟩))]
  let h7 := put h6 8 (intsOf Rows.laid_math_bits_deBruijn32tab).toArray
  let h8 := put h7 9 (intsOf Rows.laid_math_bits_deBruijn64tab).toArray
  let h9 := put h8 7 (intsOf Rows.laid_internal_strconv_uint64pow10).toArray
  { w0 with heap := h9 }

theorem laid_met (os : Os) (args : Array Value) : laidMet Tryz.prog laidL ((laidWorld Tryz.prog os).forCall (fun _ _ => 0) ⟨#[], args, []⟩).memory :=
  laidMet_of_run3 8 (by kernel_rfl) (by kernel_rfl) (by kernel_rfl)

end Go.Proofs.YtmhaknejeobfgaaGreatDoor

/- ConRefined. -/
namespace Go.Proofs.YtmhaknejeobfgaaGreatDoor.refinedProof
open Go.ChangeShapes Go.WideShapes Go.ChangeAt Go.RowKit
open Go.ChangeMaps (open_string shut_string)

theorem bound {x0 : ByteArray} {x1 : ByteArray} {H : Type} (h : Rows.uptoSmall H [.lit (.string x0.data.toList), .lit (.string x1.data.toList)] = true) : x0.size ≤ 1048576 ∧ x1.size ≤ 1048576 ∧ x0.size + x1.size ≤ 1048576 := by
  have h := of_decide_eq_true h
  simp only [Rows.uptoBulkAll, Rows.uptoBulk] at h
  have s0 := Lib.size_eq x0
  have s1 := Lib.size_eq x1
  omega

set_option maxRecDepth 100000 in
theorem contract (H : Type) (enc : TypeId × Value → H) (F : Stop.Interp) (W : World) (base : Nat) (args : Array Value) (ds gs : List (DataW H)) (before : List MemPlace)
    (hval : ∀ (j : Nat) t v, Tryz.f11.params[j]? = some t → args[j]? = some v → Value.okWide Tryz.prog W .any base t v)
    (hW : DataW.Whole enc Tryz.prog Tryz.f11.params.toList (Rows.OpenSpec.upto Rows.refinedSpec).vars false W args.toList ds gs before)
    (hcond : ∀ k, (Rows.OpenSpec.upto Rows.refinedSpec).cond = some k → k H (ds ++ gs) = true) (hL : laidMetH Tryz.prog laidL W) (hsh : W.ShapedOpen Tryz.prog) :
    Calls Tryz.prog 11 args W fun e W' => ∃ v, e = .returned v ∧ ((Rows.OpenSpec.upto Rows.refinedSpec).at F).post enc Tryz.prog Tryz.f11 false true false false W args v W' := by
  have hW' := hW
  obtain ⟨p, q, hA0, hV0, rfl, _, _⟩ := hW
  have hA : DataW.TrodAll enc Tryz.prog W 0 (fun _ => true) true Tryz.f11.params.toList args.toList ds p := hA0
  rw [Tryz.params11] at hA hval
  obtain ⟨v0, vs0, d0, ds0, p0, q0, hargs, rfl, rfl, h0, t0⟩ := trodAll_cons hA
  obtain ⟨v1, vs1, d1, ds1, p1, q1, rfl, rfl, rfl, h1, t1⟩ := trodAll_cons t0
  obtain ⟨rfl, rfl, rfl⟩ := trodAll_nil t1
  obtain rfl : args = #[v0, v1] := by cases args; simp_all
  obtain ⟨rfl, rfl⟩ := trodVars_none hV0
  obtain ⟨x0, rfl, rfl, rfl, w0⟩ := open_string Tryz.underlying9 (hval 0 9 v0 rfl rfl) h0
  obtain ⟨x1, rfl, rfl, rfl, w1⟩ := open_string Tryz.underlying9 (hval 1 9 v1 rfl rfl) h1
  clear hA0
  simp only [List.append_nil] at hW' hcond
  have hk := hcond Rows.uptoSmall rfl
  have hb := bound hk
  refine (refined_walk x0 x1 W (env_of hL hsh) hb.1 hb.2.1).mono ?_
  rintro e W' ⟨rfl, hf⟩
  have bel := hf.below
  refine ⟨_, rfl, [.lit (.string x0.data.toList), .lit (.string x1.data.toList)], [], [], [], [], [], hW', ?_, ?_, ?_, bel.frame _, fun h => by cases h⟩
  · exact trodAll_mk1 (shut_bool Tryz.underlying4 _)
  · exact (trodAll_cons_mk (shut_string Tryz.underlying9 w0) (trodAll_cons_mk (shut_string Tryz.underlying9 w1) trodAll_mk0))
  · rfl

end Go.Proofs.YtmhaknejeobfgaaGreatDoor.refinedProof
