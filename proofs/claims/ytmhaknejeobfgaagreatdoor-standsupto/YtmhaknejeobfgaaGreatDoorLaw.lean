/- The law Ordered, walked: it answers true. The law Refined, walked: it answers true. What may stand for what: the law's pairs in plain lists. The law's three lists of pairs, as data; each pair is one of its kind: by the kernel. The law's pairs, walked. The law Stands, walked: it answers true. What the listed variables give at the call's first world, and a world that holds them. What the law Stands asks of its arguments, and what its walk gives. -/
import Derived.Test.YtmhaknejeobfgaaGreatDoorKeys
import Derived.Test.YtmhaknejeobfgaaGreatDoorComparing
import Derived.Handy
import Derived.Laws.Concat
import Derived.Test.YtmhaknejeobfgaaGreatDoorTables
import Derived.Test.YtmhaknejeobfgaaGreatDoorBase
import Derived.Test.YtmhaknejeobfgaaGreatDoorShelf
import Derived.Test.YtmhaknejeobfgaaGreatDoorRows
import Derived.Deep.DeepHandedRow
import Derived.Deep.DeepWitnessRowRef
import Derived.Lib.LaidTab
import Derived.Lib.LaidU8
import Derived.ProofKit
import Derived.Deep.DeepLaidRun
import Derived.OpenShut

/- Ordered1. -/
namespace Go.Proofs.YtmhaknejeobfgaaGreatDoor
open Go.RowKit Go.Proofs.YtmhaknejeobfgaaGreatDoor.Stable Go.Proofs.YtmhaknejeobfgaaGreatDoor.Order Go.Proofs.YtmhaknejeobfgaaGreatDoor.Points
attribute [local go_sem ↓] Go.wp_at_zero Go.wp_at_succ

/-- How two texts stand by their bytes. -/
def lessL (x y : List UInt8) : Int := if Op.bytesLess x y = true then -1 else if x = y then 0 else 1

theorem gtr_strings (x y : ByteArray) (w : World) : (binOp .gtr 9 (.string x) (.string y)).run Tryz.prog w = .ok (.bool (!(Op.bytesLess x.toList y.toList || x.toList == y.toList))) w := by kernel_rfl

set_option maxRecDepth 100000 in
theorem less_calls (x y : ByteArray) (w : World) : Calls Tryz.prog 29 #[.string x, .string y] w fun e w' => e = .returned (.int .i64 (lessL x.data.toList y.data.toList)) ∧ w' = w := by
  obtain ⟨v, hv⟩ : ∃ v, v = lessL x.data.toList y.data.toList := ⟨_, rfl⟩
  rw [← hv]
  unfold lessL at hv
  by_cases h1 : Op.bytesLess x.data.toList y.data.toList = true
  · rw [if_pos h1] at hv
    subst hv
    have b1 : Op.bytesLess x.toList y.toList = true := by rw [Lib.toList_data, Lib.toList_data]; exact h1
    clear h1
    go_enter Tryz.func29, Tryz.ntmps29
    go_wp2
    go_ret
    exact ⟨rfl, rfl⟩
  · rw [if_neg h1] at hv
    have b1 : Op.bytesLess x.toList y.toList = false := by rw [Lib.toList_data, Lib.toList_data]; simpa using h1
    by_cases h2 : x.data.toList = y.data.toList
    · rw [if_pos h2] at hv
      subst hv
      have b2 : (x.toList == y.toList) = true := by rw [Lib.toList_data, Lib.toList_data, h2]; simp
      have hg := gtr_strings x y
      simp only [b1, b2] at hg
      clear h1 h2
      go_enter Tryz.func29, Tryz.ntmps29
      go_wp2
      go_ret
      exact ⟨rfl, rfl⟩
    · rw [if_neg h2] at hv
      subst hv
      have b2 : (x.toList == y.toList) = false := by rw [Lib.toList_data, Lib.toList_data, beq_eq_false_iff_ne]; exact h2
      have hg := gtr_strings x y
      simp only [b1, b2] at hg
      clear h1 h2
      go_enter Tryz.func29, Tryz.ntmps29
      go_wp2
      go_ret
      exact ⟨rfl, rfl⟩

/-- The order of two texts is that of their Keys by their bytes. -/
theorem cmp_less (m : Int) (a b : List UInt8) : lessL (keyL m a) (keyL m b) = cmpL m a b := by
  have hF : ∀ c ∈ form m (codes a), Valid c := form_valid (codes_valid _)
  have hG : ∀ c ∈ form m (codes b), Valid c := form_valid (codes_valid _)
  unfold lessL cmpL keyL
  rcases sign_bytes _ _ hF hG with ⟨h1, h2⟩ | ⟨h1, h2⟩ | ⟨h1, h2⟩
  · rw [if_pos h2, h1]
  · rw [h2, if_neg (by rw [bl_irrefl]; simp), if_pos rfl, signL_self]
  · have h3 := bl_asymm _ _ h2
    have h4 : utf8 (form m (codes a)) ≠ utf8 (form m (codes b)) := by
      intro e
      rw [e, bl_irrefl] at h2
      cases h2
    rw [if_neg (by rw [h3]; simp), if_neg h4, h1]

theorem cmp_swap (m : Int) (a b : List UInt8) : cmpL m b a = - cmpL m a b := signL_swap _ _

theorem cmp_key {m : Int} (h0 : 0 ≤ m) (h3 : m ≤ 3) (a : List UInt8) : cmpL m a (keyL m a) = 0 := by
  unfold cmpL keyL
  rw [codes_of_utf8 _ (form_valid (codes_valid a)), form_fixed h0 h3]
  exact signL_self _

theorem cmp_range (m : Int) (a b : List UInt8) : cmpL m a b = -1 ∨ cmpL m a b = 0 ∨ cmpL m a b = 1 := by
  unfold cmpL
  rcases sign_bytes _ _ (form_valid (m := m) (codes_valid a)) (form_valid (m := m) (codes_valid b)) with h | h | h
  · exact .inl h.1
  · exact .inr (.inl h.1)
  · exact .inr (.inr h.1)

set_option maxRecDepth 100000 in
set_option maxHeartbeats 800000 in
theorem ordered_walk (raw : Int) (a b : ByteArray) (w : World) (h0 : -9223372036854775808 ≤ raw) (h1 : raw ≤ 9223372036854775807) (hE : Env w) (ha : a.size ≤ 1048576) (hb : b.size ≤ 1048576) :
    Calls Tryz.prog 10 #[.int .i64 raw, .string a, .string b] w fun e w' => e = .returned (.bool true) ∧ Fr (fun _ => False) w w' := by
  have hsa := Lib.size_eq a
  have hsb := Lib.size_eq b
  have HB : Hid (a.data.toList.length ≤ 1048576 ∧ b.data.toList.length ≤ 1048576) := by rw [hsa] at ha; rw [hsb] at hb; exact ⟨ha, hb⟩
  have HE : Hid (Env w) := hE
  have HKS : Hid (∀ m : Int, 0 ≤ m → m ≤ 3 → 432 * (keyL m a.data.toList).length ≤ 1099511627776) := Hid.to (fun m p q => by have := key_size p q a.data.toList; have := HB.out; omega)
  clear hsa hsb ha hb hE
  go_enter Tryz.func10, Tryz.ntmps10
  go_wp2_with (first
    | (go_at_call 19; refine (pick_calls raw 4 _ h0 h1 (by omega) (by omega)).mono ?_; rintro e w' ⟨m, rfl, hm, hw⟩; have hw' := hw.symm; subst hw'; clear hw)
    | (go_at_call 20; refine (known_calls m _ (by omega) (by omega) HE.out).mono ?_; rintro e w1 ⟨rfl, hf1⟩; have HF1 : Hid (Fr (fun _ => False) w w1) := hf1; clear hf1))
  refine (key_calls m a _ (by omega) (by omega) (HE.out.kept HF1.out (fun _ _ => id)) (by have := HB.out; omega)).mono ?_
  obtain ⟨k, hk⟩ : ∃ k : ByteArray, k = ⟨(keyL m a.data.toList).toArray⟩ := ⟨_, rfl⟩
  rw [← hk]
  have HK : Hid (k.data.toList = keyL m a.data.toList) := Hid.to (by rw [hk])
  clear hk
  rintro e w2 ⟨rfl, hf2⟩
  have HF2 : Hid (Fr (fun _ => False) w w2) := HF1.out.trans hf2 (fun _ _ h => h)
  clear hf2
  go_wp2_with fail
  refine (key_calls m b _ (by omega) (by omega) (HE.out.kept HF2.out (fun _ _ => id)) (by have := HB.out; omega)).mono ?_
  obtain ⟨l, hl⟩ : ∃ l : ByteArray, l = ⟨(keyL m b.data.toList).toArray⟩ := ⟨_, rfl⟩
  rw [← hl]
  have HL : Hid (l.data.toList = keyL m b.data.toList) := Hid.to (by rw [hl])
  clear hl
  rintro e w3 ⟨rfl, hf3⟩
  have HF3 : Hid (Fr (fun _ => False) w w3) := HF2.out.trans hf3 (fun _ _ h => h)
  clear hf3
  obtain ⟨n, hn⟩ : ∃ n, n = cmpL m a.data.toList b.data.toList := ⟨_, rfl⟩
  have HN : Hid (n = cmpL m a.data.toList b.data.toList) := hn
  have n0 : -1 ≤ n := by rcases cmp_range m a.data.toList b.data.toList with h | h | h <;> omega
  have n1 : n ≤ 1 := by rcases cmp_range m a.data.toList b.data.toList with h | h | h <;> omega
  clear hn
  go_wp2_with fail
  refine (compare_calls m a b _ (by omega) (by omega) (HE.out.kept HF3.out (fun _ _ => id)) (by have := HB.out; omega) (by have := HB.out; omega)).mono ?_
  rw [← HN.out]
  rintro e w4 ⟨rfl, hf4⟩
  have HF4 : Hid (Fr (fun _ => False) w w4) := HF3.out.trans hf4 (fun _ _ h => h)
  clear hf4
  go_wp2_with fail
  refine (compare_calls m b a _ (by omega) (by omega) (HE.out.kept HF4.out (fun _ _ => id)) (by have := HB.out; omega) (by have := HB.out; omega)).mono ?_
  rw [cmp_swap, ← HN.out]
  rintro e w5 ⟨rfl, hf5⟩
  have HF5 : Hid (Fr (fun _ => False) w w5) := HF4.out.trans hf5 (fun _ _ h => h)
  clear hf5
  go_wp2_with fail
  refine (compare_calls m a k _ (by omega) (by omega) (HE.out.kept HF5.out (fun _ _ => id)) (by have := HB.out; omega) (by rw [HK.out]; exact HKS.out m (by omega) (by omega))).mono ?_
  rw [HK.out, cmp_key (by omega) (by omega)]
  rintro e w6 ⟨rfl, hf6⟩
  have HF6 : Hid (Fr (fun _ => False) w w6) := HF5.out.trans hf6 (fun _ _ h => h)
  clear hf6
  go_wp2_with fail
  refine (less_calls k l _).mono ?_
  rw [HK.out, HL.out, cmp_less, ← HN.out]
  rintro e w7 ⟨rfl, hw⟩
  have hw' := hw.symm
  subst hw'
  clear hw
  go_wp2
  go_ret
  exact ⟨rfl, HF6.out⟩

end Go.Proofs.YtmhaknejeobfgaaGreatDoor

/- Refined1. -/
namespace Go.Proofs.YtmhaknejeobfgaaGreatDoor
open Go.RowKit Go.Proofs.YtmhaknejeobfgaaGreatDoor.Stable Go.Proofs.YtmhaknejeobfgaaGreatDoor.Order Go.Proofs.YtmhaknejeobfgaaGreatDoor.Points
attribute [local go_sem ↓] Go.wp_at_zero Go.wp_at_succ

theorem cmp_zero {m : Int} {a b : List UInt8} : cmpL m a b = 0 ↔ form m (codes a) = form m (codes b) := signL_zero (form_valid (codes_valid _)) (form_valid (codes_valid _))

theorem refined_all {a b : List UInt8} (h : cmpL 0 a b = 0) : cmpL 1 a b = 0 ∧ cmpL 2 a b = 0 ∧ cmpL 3 a b = 0 := by
  have h := cmp_zero.1 h
  exact ⟨cmp_zero.2 (same_all h (by omega) (by omega)), cmp_zero.2 (same_all h (by omega) (by omega)), cmp_zero.2 (same_all h (by omega) (by omega))⟩

theorem refined_case {a b : List UInt8} (h : cmpL 2 a b = 0) : cmpL 3 a b = 0 := cmp_zero.2 (same_case (cmp_zero.1 h))

/-- The row of four, of which k are told. -/
def Four (a b : List UInt8) (k : Nat) (cs : Array Value) : Prop := cs.size = 4 ∧ ∀ j, j < k → cs[j]? = some (.int .i64 (cmpL j a b))

set_option maxRecDepth 100000 in
set_option maxHeartbeats 1600000 in
theorem refined_walk (a b : ByteArray) (w : World) (hE : Env w) (ha : a.size ≤ 1048576) (hb : b.size ≤ 1048576) :
    Calls Tryz.prog 11 #[.string a, .string b] w fun e w' => e = .returned (.bool true) ∧ Fr (fun _ => False) w w' := by
  have hsa := Lib.size_eq a
  have hsb := Lib.size_eq b
  have HB : Hid (a.data.toList.length ≤ 1048576 ∧ b.data.toList.length ≤ 1048576) := by rw [hsa] at ha; rw [hsb] at hb; exact ⟨ha, hb⟩
  have HE : Hid (Env w) := hE
  have hnot : ∀ (x : Bool) (w : World), (Op.unary .not (.bool x)).run Tryz.prog w = .ok (.bool (!x)) w := fun _ _ => rfl
  clear hsa hsb ha hb hE
  go_enter Tryz.func11, Tryz.ntmps11
  go_wp2
  have b0 : (w.alloc (.cells #[.int .i64 0, .int .i64 0, .int .i64 0, .int .i64 0] 53)).heap[w.heap.size]? = some (.cells #[.int .i64 0, .int .i64 0, .int .i64 0, .int .i64 0] 53 (0, 0)) := heap_alloc_new w _
  have f0 : Fr (fun x => x = w.heap.size) w (w.alloc (.cells #[.int .i64 0, .int .i64 0, .int .i64 0, .int .i64 0] 53)) := (Fr.refl _ _).alloc _
  have HW : Hid ((w.alloc (.cells #[.int .i64 0, .int .i64 0, .int .i64 0, .int .i64 0] 53)).heap[w.heap.size]? = some (.cells #[.int .i64 0, .int .i64 0, .int .i64 0, .int .i64 0] 53 (0, 0)) ∧ Fr (fun x => x = w.heap.size) w (w.alloc (.cells #[.int .i64 0, .int .i64 0, .int .i64 0, .int .i64 0] 53))) := ⟨b0, f0⟩
  clear b0 f0
  go_loopw [6] (fun vi wr => ∃ k : Nat, vi = .int .i64 k ∧ k ≤ 4 ∧ Hid (∃ cs, wr.heap[w.heap.size]? = some (.cells cs 53 (0, 0)) ∧ Four a.data.toList b.data.toList k cs ∧ Fr (fun x => x = w.heap.size) w wr)) (fun vi _ => 4 - (intOf vi).toNat)
  case atStart => exact ⟨0, rfl, by omega, _, HW.out.1, ⟨rfl, fun j hj => absurd hj (by omega)⟩, HW.out.2⟩
  case round =>
    obtain ⟨k, rfl, hk, hh⟩ := hrel
    by_cases hlt : k < 4
    · obtain ⟨cs, q1, q2, q3⟩ := hh.out
      have i0 : (0 : Int) ≤ (k : Int) := by omega
      have i1 : (k : Int) < 4 := by omega
      have HQ : Hid (wr.heap[w.heap.size]? = some (.cells cs 53 (0, 0)) ∧ Four a.data.toList b.data.toList k cs ∧ Fr (fun x => x = w.heap.size) w wr) := ⟨q1, q2, q3⟩
      have HEr : Hid (Env wr) := HE.out.kept q3 (fun j hj e => by have := HE.out.size; omega)
      clear hh q1 q2 q3
      go_wp2_with (go_at_call 20; refine (known_calls k _ (by omega) (by omega) HEr.out).mono ?_; rintro e w1 ⟨rfl, hf1⟩; have HF1 : Hid (Fr (fun _ => False) wr w1) := hf1; clear hf1)
      refine (compare_calls k a b _ (by omega) (by omega) (HEr.out.kept HF1.out (fun _ _ => id)) (by have := HB.out; omega) (by have := HB.out; omega)).mono ?_
      obtain ⟨n, hn⟩ : ∃ n, n = cmpL k a.data.toList b.data.toList := ⟨_, rfl⟩
      rw [← hn]
      have HN : Hid (n = cmpL k a.data.toList b.data.toList) := hn
      clear hn
      rintro e w2 ⟨rfl, hf2⟩
      have hf : Fr (fun _ => False) wr w2 := HF1.out.trans hf2 (fun _ _ h => h)
      have hb2 : w2.heap[w.heap.size]? = some (.cells cs 53 (0, 0)) := (hf.block _ (lt_of HQ.out.1) id).trans HQ.out.1
      have hks : k < cs.size := by rw [HQ.out.2.1.1]; exact hlt
      have ck : ∃ v, w2.cell? ⟨w.heap.size, k, none⟩ = some v := ⟨_, cell_of hb2 (Array.getElem?_eq_getElem hks)⟩
      obtain ⟨v, ck⟩ := ck
      have fz := frozen_of hb2 k
      have HB2 : Hid (w2.heap[w.heap.size]? = some (.cells cs 53 (0, 0)) ∧ Fr (fun _ => False) wr w2 ∧ k < cs.size) := ⟨hb2, hf, hks⟩
      clear hb2 hf hf2 hks
      go_wp2
      refine ⟨⟨k + 1, by go_num, by omega, cs.setIfInBounds k (.int .i64 n), set_of HB2.out.1 k _, ⟨by rw [Array.size_setIfInBounds]; exact HQ.out.2.1.1, fun j hj => ?_⟩, ?_⟩, by simp [intOf]; omega⟩
      · by_cases hjk : j = k
        · subst hjk
          rw [get_set_same _ HB2.out.2.2, HN.out]
        · rw [get_set_other _ hjk]
          exact HQ.out.2.1.2 j (by omega)
      · exact (HQ.out.2.2.trans HB2.out.2.1 (fun _ _ h => h.elim)).setCell _ _ (fun _ => rfl)
    · obtain rfl : k = 4 := by omega
      obtain ⟨cs, q1, q2, q3⟩ := hh.out
      obtain ⟨n0, h0⟩ : ∃ n, n = cmpL 0 a.data.toList b.data.toList := ⟨_, rfl⟩
      obtain ⟨n1, h1⟩ : ∃ n, n = cmpL 1 a.data.toList b.data.toList := ⟨_, rfl⟩
      obtain ⟨n2, h2⟩ : ∃ n, n = cmpL 2 a.data.toList b.data.toList := ⟨_, rfl⟩
      obtain ⟨n3, h3⟩ : ∃ n, n = cmpL 3 a.data.toList b.data.toList := ⟨_, rfl⟩
      have c0 : wr.cell? ⟨w.heap.size, 0, none⟩ = some (.int .i64 n0) := by rw [h0]; exact cell_of q1 (q2.2 0 (by omega))
      have c1 : wr.cell? ⟨w.heap.size, 1, none⟩ = some (.int .i64 n1) := by rw [h1]; exact cell_of q1 (q2.2 1 (by omega))
      have c2 : wr.cell? ⟨w.heap.size, 2, none⟩ = some (.int .i64 n2) := by rw [h2]; exact cell_of q1 (q2.2 2 (by omega))
      have c3 : wr.cell? ⟨w.heap.size, 3, none⟩ = some (.int .i64 n3) := by rw [h3]; exact cell_of q1 (q2.2 3 (by omega))
      have k0 : n0 = 0 → n1 = 0 ∧ n2 = 0 ∧ n3 = 0 := fun h => by rw [h1, h2, h3]; exact refined_all (by rw [← h0]; exact h)
      have k2 : n2 = 0 → n3 = 0 := fun h => by rw [h3]; exact refined_case (by rw [← h2]; exact h)
      have HFR : Hid (Fr (fun _ => False) w wr) := q3.mono (fun i hi h => by omega)
      clear hh q1 q2 q3 h0 h1 h2 h3
      by_cases z0 : n0 = 0
      · obtain ⟨e1, e2, e3⟩ := k0 z0
        subst z0 e1 e2 e3
        clear k0 k2
        go_wp2
        go_ret
        exact ⟨rfl, HFR.out⟩
      · have b0 : (n0 != 0) = true := by rw [bne_iff_ne]; exact z0
        by_cases z2 : n2 = 0
        · have e3 := k2 z2
          subst z2 e3
          clear k0 k2 z0
          by_cases z1 : n1 = 0
          · subst z1
            go_wp2
            go_ret
            exact ⟨rfl, HFR.out⟩
          · have b1 : (n1 == 0) = false := by rw [beq_eq_false_iff_ne]; exact z1
            clear z1
            go_wp2
            go_ret
            exact ⟨rfl, HFR.out⟩
        · have b2 : (n2 != 0) = true := by rw [bne_iff_ne]; exact z2
          have b2' : (n2 == 0) = false := by rw [beq_eq_false_iff_ne]; exact z2
          clear k0 k2 z0 z2
          by_cases z1 : n1 = 0
          · subst z1
            go_wp2
            go_ret
            exact ⟨rfl, HFR.out⟩
          · have b1 : (n1 == 0) = false := by rw [beq_eq_false_iff_ne]; exact z1
            clear z1
            go_wp2
            go_ret
            exact ⟨rfl, HFR.out⟩

end Go.Proofs.YtmhaknejeobfgaaGreatDoor

/- Stands0. -/
namespace Go.Proofs.YtmhaknejeobfgaaGreatDoor
open Go.Proofs.YtmhaknejeobfgaaGreatDoor.Stable Go.Proofs.YtmhaknejeobfgaaGreatDoor.Order Go.Proofs.YtmhaknejeobfgaaGreatDoor.Points Go.Lib

/-- A pair of texts: the bytes of one code point, and those of others. -/
structure StP where
  one : List UInt8
  other : List UInt8
  c : Int
  o : List Int

/-- Its bytes are those. -/
def StP.ok (p : StP) : Bool := decide (p.one = encodeRune p.c) && decide (p.other = utf8 p.o) && isValid p.c && p.o.all isValid && !p.o.isEmpty

def canonP (p : StP) : Bool := p.ok && decide (ord clsOf (apart false p.c) = ord clsOf (p.o.flatMap (apart false)))

/-- A code point may stand for what is taken apart into the same, ordered. -/
theorem stand_ord {c : Int} {o : List Int} (h : ord clsOf (apart false c) = ord clsOf (o.flatMap (apart false))) (a b : List Int) : form 0 (a ++ c :: b) = form 0 (a ++ (o ++ b)) := by
  rw [form_0, form_0, stg_false, stg_false]
  have e := ((ord_eq.1 h).right (b.flatMap (apart false))).left (a.flatMap (apart false))
  have := e.ord
  simpa using this

/-- A folding: starters, and the same marks behind them. -/
def foldP (p : StP) : Bool := p.ok && match apart false p.c with
  | [] => false
  | b :: ms => (clsOf b == 0) && match (p.o.flatMap (apart false)).take ((p.o.flatMap (apart false)).length - ms.length), (p.o.flatMap (apart false)).drop ((p.o.flatMap (apart false)).length - ms.length) with
    | qs, ms' => decide (ms' = ms) && !qs.isEmpty && qs.all (fun x => clsOf x == 0) && decide (foldL true b = qs.flatMap (foldL true))

def otherP (p : StP) : Bool := p.ok && decide (apart true p.c = p.o.flatMap (apart true)) && decide (apart false p.c = [p.c]) && !(p.o.flatMap (apart false)).contains p.c

theorem begins_enc {c : Int} (h : Valid c) (t : List UInt8) : Begins (encodeRune c ++ t) := by
  unfold Begins encodeRune
  obtain ⟨n, rfl⟩ : ∃ n : Nat, c = n := ⟨c.toNat, by unfold Valid at h; omega⟩
  unfold Valid at h
  by_cases h1 : (n : Int) ≤ 127
  · rw [encodeRuneZ_one (by omega) h1]
    simp only [List.map_cons, List.map_nil, List.cons_append, List.nil_append, List.getD_cons_zero]
    rw [u8 (n := n) rfl (by omega)]
    omega
  by_cases h2 : (n : Int) ≤ 2047
  · rw [encodeRuneZ_two (by omega) h2]
    simp only [List.map_cons, List.map_nil, List.cons_append, List.nil_append, List.getD_cons_zero]
    rw [u8 (n := 192 + n / 64) (by omega) (by omega)]
    omega
  by_cases h3 : (n : Int) ≤ 65535
  · rw [encodeRuneZ_three (by omega)]
    simp only [List.map_cons, List.map_nil, List.cons_append, List.nil_append, List.getD_cons_zero]
    rw [u8 (n := 224 + n / 4096) (by omega) (by omega)]
    omega
  · rw [encodeRuneZ_four (by omega) (by omega)]
    simp only [List.map_cons, List.map_nil, List.cons_append, List.nil_append, List.getD_cons_zero]
    rw [u8 (n := 240 + n / 262144) (by omega) (by omega)]
    omega

/-- Code points in the midst of a text. -/
theorem codes_mid (s t : List UInt8) {l : List Int} (hl : ∀ c ∈ l, Valid c) (hne : l ≠ []) : codes (s ++ utf8 l ++ t) = codes s ++ (l ++ codes t) := by
  cases l with
  | nil => exact absurd rfl hne
  | cons c r =>
    have e : s ++ utf8 (c :: r) ++ t = s ++ (encodeRune c ++ (utf8 r ++ t)) := by simp [utf8]
    rw [e, codes_cut _ _ (begins_enc (hl c (by simp)) _), codes_front c _ (hl c (by simp)), codes_utf8 r t (fun x hx => hl x (by simp [hx]))]
    rfl

theorem valid_of {c : Int} (h : isValid c = true) : Valid c := by
  unfold isValid at h
  unfold Valid
  simpa using h

theorem StP.codes {p : StP} (h : p.ok = true) (s t : List UInt8) : Points.codes (s ++ p.one ++ t) = Points.codes s ++ p.c :: Points.codes t ∧ Points.codes (s ++ p.other ++ t) = Points.codes s ++ (p.o ++ Points.codes t) := by
  unfold StP.ok at h
  simp only [Bool.and_eq_true, decide_eq_true_eq] at h
  obtain ⟨⟨⟨⟨h1, h2⟩, h3⟩, h4⟩, h5⟩ := h
  have hc := valid_of h3
  have ho : ∀ x ∈ p.o, Valid x := fun x hx => valid_of (List.all_eq_true.1 h4 x hx)
  have hne : p.o ≠ [] := by
    intro e
    rw [e] at h5
    simp at h5
  have e1 : p.one = utf8 [p.c] := by rw [h1]; simp [utf8]
  rw [e1, h2]
  exact ⟨codes_mid s t (by simpa using hc) (by simp), codes_mid s t ho hne⟩

theorem canon_key {p : StP} (h : canonP p = true) {m : Int} (h0 : 0 ≤ m) (h3 : m ≤ 3) (s t : List UInt8) : keyL m (s ++ p.one ++ t) = keyL m (s ++ p.other ++ t) := by
  unfold canonP at h
  rw [Bool.and_eq_true, decide_eq_true_eq] at h
  obtain ⟨e1, e2⟩ := StP.codes h.1 s t
  unfold keyL
  rw [e1, e2, same_all (stand_ord h.2 (Points.codes s) (Points.codes t)) h0 h3]

theorem fold_cmp {p : StP} (h : foldP p = true) {m : Int} (hm : m = 2 ∨ m = 3) (s t : List UInt8) : cmpL m (s ++ p.one ++ t) (s ++ p.other ++ t) = 0 := by
  unfold foldP at h
  rw [Bool.and_eq_true] at h
  obtain ⟨hok, h⟩ := h
  obtain ⟨e1, e2⟩ := StP.codes hok s t
  rw [cmp_zero, e1, e2]
  split at h
  · cases h
  · rename_i b ms hb
    rw [Bool.and_eq_true] at h
    obtain ⟨hb0, h⟩ := h
    simp only [Bool.and_eq_true, decide_eq_true_eq] at h
    obtain ⟨⟨⟨k1, k2⟩, k3⟩, k4⟩ := h
    have hq : p.o.flatMap (apart false) = (p.o.flatMap (apart false)).take ((p.o.flatMap (apart false)).length - ms.length) ++ ms := by
      conv => lhs; rw [← List.take_append_drop ((p.o.flatMap (apart false)).length - ms.length) (p.o.flatMap (apart false))]
      rw [k1]
    have key := stand_fold hb (beq_iff_eq.1 hb0) hq (by simpa using k2) (fun x hx => by simpa using List.all_eq_true.1 k3 x hx) k4 (Points.codes s) (Points.codes t)
    rcases hm with rfl | rfl
    · exact stand_2 key
    · exact stand_3 key

theorem other_cmp {p : StP} (h : otherP p = true) (s t : List UInt8) : cmpL 1 (s ++ p.one ++ t) (s ++ p.other ++ t) = 0 ∧ cmpL 0 (s ++ p.one ++ t) (s ++ p.other ++ t) ≠ 0 := by
  unfold otherP at h
  simp only [Bool.and_eq_true, decide_eq_true_eq] at h
  obtain ⟨⟨⟨hok, h1⟩, h2⟩, h3⟩ := h
  obtain ⟨e1, e2⟩ := StP.codes hok s t
  refine ⟨?_, fun hz => ?_⟩
  · rw [cmp_zero, e1, e2]
    exact stand_1 h1 _ _
  · rw [cmp_zero, e1, e2] at hz
    exact stand_differs h2 (by simpa using h3) _ _ hz

end Go.Proofs.YtmhaknejeobfgaaGreatDoor

/- StandsD. -/
namespace Go.Proofs.YtmhaknejeobfgaaGreatDoor
open Go.Proofs.YtmhaknejeobfgaaGreatDoor.Points

def canonL : List StP := [
  ⟨[195, 128], [65, 204, 128], 192, [65, 768]⟩,
  ⟨[195, 129], [65, 204, 129], 193, [65, 769]⟩,
  ⟨[195, 133], [65, 204, 138], 197, [65, 778]⟩,
  ⟨[226, 132, 171], [195, 133], 8491, [197]⟩,
  ⟨[199, 186], [195, 133, 204, 129], 506, [197, 769]⟩,
  ⟨[199, 187], [97, 204, 138, 204, 129], 507, [97, 778, 769]⟩,
  ⟨[195, 167], [99, 204, 167], 231, [99, 807]⟩,
  ⟨[196, 176], [73, 204, 135], 304, [73, 775]⟩,
  ⟨[205, 132], [204, 136, 204, 129], 836, [776, 769]⟩,
  ⟨[224, 189, 179], [224, 189, 177, 224, 189, 178], 3955, [3953, 3954]⟩,
  ⟨[225, 185, 161], [115, 204, 135], 7777, [115, 775]⟩,
  ⟨[225, 186, 155], [197, 191, 204, 135], 7835, [383, 775]⟩,
  ⟨[225, 186, 172], [225, 186, 160, 204, 130], 7852, [7840, 770]⟩,
  ⟨[225, 186, 173], [97, 204, 130, 204, 163], 7853, [97, 770, 803]⟩,
  ⟨[225, 190, 179], [206, 177, 205, 133], 8115, [945, 837]⟩,
  ⟨[226, 132, 166], [206, 169], 8486, [937]⟩,
  ⟨[226, 132, 170], [75], 8490, [75]⟩,
  ⟨[227, 131, 144], [227, 131, 143, 227, 130, 153], 12496, [12495, 12441]⟩,
  ⟨[227, 131, 145], [227, 131, 143, 227, 130, 154], 12497, [12495, 12442]⟩,
  ⟨[240, 157, 133, 158], [240, 157, 133, 151, 240, 157, 133, 165], 119134, [119127, 119141]⟩,
  ⟨[234, 176, 128], [225, 132, 128, 225, 133, 161], 44032, [4352, 4449]⟩,
  ⟨[234, 176, 129], [225, 132, 128, 225, 133, 161, 225, 134, 168], 44033, [4352, 4449, 4520]⟩,
  ⟨[237, 158, 163], [225, 132, 146, 225, 133, 181, 225, 135, 130], 55203, [4370, 4469, 4546]⟩,
  ⟨[234, 184, 128], [225, 132, 128, 225, 133, 179, 225, 134, 175], 44544, [4352, 4467, 4527]⟩]

theorem canonL_ok : canonL.all canonP = true := by decide +kernel

def foldedL : List StP := [
  ⟨[65], [97], 65, [97]⟩,
  ⟨[90], [122], 90, [122]⟩,
  ⟨[195, 133], [195, 165], 197, [229]⟩,
  ⟨[226, 132, 171], [195, 165], 8491, [229]⟩,
  ⟨[195, 159], [115, 115], 223, [115, 115]⟩,
  ⟨[225, 186, 158], [115, 115], 7838, [115, 115]⟩,
  ⟨[196, 176], [105, 204, 135], 304, [105, 775]⟩,
  ⟨[197, 191], [115], 383, [115]⟩,
  ⟨[199, 186], [199, 187], 506, [507]⟩,
  ⟨[206, 163], [207, 131], 931, [963]⟩,
  ⟨[207, 130], [207, 131], 962, [963]⟩,
  ⟨[206, 169], [207, 137], 937, [969]⟩,
  ⟨[226, 132, 166], [207, 137], 8486, [969]⟩,
  ⟨[225, 186, 155], [225, 185, 161], 7835, [7777]⟩,
  ⟨[225, 186, 172], [225, 186, 173], 7852, [7853]⟩,
  ⟨[226, 132, 170], [107], 8490, [107]⟩,
  ⟨[239, 172, 129], [102, 105], 64257, [102, 105]⟩,
  ⟨[239, 188, 161], [239, 189, 129], 65313, [65345]⟩]

theorem foldedL_ok : foldedL.all foldP = true := by decide +kernel

def otherL : List StP := [
  ⟨[194, 160], [32], 160, [32]⟩,
  ⟨[194, 178], [50], 178, [50]⟩,
  ⟨[194, 189], [49, 226, 129, 132, 50], 189, [49, 8260, 50]⟩,
  ⟨[197, 191], [115], 383, [115]⟩,
  ⟨[226, 145, 160], [49], 9312, [49]⟩,
  ⟨[227, 140, 128], [227, 130, 162, 227, 131, 145, 227, 131, 188, 227, 131, 136], 13056, [12450, 12497, 12540, 12488]⟩,
  ⟨[239, 172, 129], [102, 105], 64257, [102, 105]⟩,
  ⟨[239, 188, 161], [65], 65313, [65]⟩,
  ⟨[239, 189, 129], [97], 65345, [97]⟩,
  ⟨[239, 190, 158], [227, 130, 153], 65438, [12441]⟩,
  ⟨[240, 157, 144, 128], [65], 119808, [65]⟩]

theorem otherL_ok : otherL.all otherP = true := by decide +kernel

end Go.Proofs.YtmhaknejeobfgaaGreatDoor

/- StandsP. -/
namespace Go.Proofs.YtmhaknejeobfgaaGreatDoor
open Go.RowKit Go.Proofs.YtmhaknejeobfgaaGreatDoor.Stable Go.Proofs.YtmhaknejeobfgaaGreatDoor.Order Go.Proofs.YtmhaknejeobfgaaGreatDoor.Points
attribute [local go_sem ↓] Go.wp_at_zero Go.wp_at_succ

/-- A list of pairs as cells. -/
def pairCells (L : List StP) : List Value := L.flatMap fun p => [.string ⟨p.one.toArray⟩, .string ⟨p.other.toArray⟩]

theorem pair_at : ∀ (L : List StP) (r : Nat) (p : StP), L[r]? = some p → (pairCells L)[r * 2]? = some (.string ⟨p.one.toArray⟩) ∧ (pairCells L)[r * 2 + 1]? = some (.string ⟨p.other.toArray⟩)
  | [], r, p, h => by simp at h
  | q :: L, 0, p, h => by
    simp at h
    subst h
    exact ⟨rfl, rfl⟩
  | q :: L, r + 1, p, h => by
    have h' : L[r]? = some p := by simpa using h
    have ih := pair_at L r p h'
    have e : pairCells (q :: L) = .string ⟨q.one.toArray⟩ :: .string ⟨q.other.toArray⟩ :: pairCells L := rfl
    rw [e, show (r + 1) * 2 = r * 2 + 1 + 1 by omega, show r * 2 + 1 + 1 + 1 = (r * 2 + 1) + 1 + 1 by omega]
    simp only [List.getElem?_cons_succ]
    exact ih

/-- The result's cells and the list of pairs, in new memory. -/
structure PairW (L : List StP) (w w' : World) (r : Nat) (p : StP) : Prop where
  mem : p ∈ L
  c0 : w'.cell? ⟨w.heap.size + 1, r * 2, none⟩ = some (.string ⟨p.one.toArray⟩)
  c1 : w'.cell? ⟨w.heap.size + 1, r * 2 + 1, none⟩ = some (.string ⟨p.other.toArray⟩)
  res : w'.heap[w.heap.size]? = some (.cells #[.string ⟨#[]⟩, .string ⟨#[]⟩] 49 (0, 0))
  fr : Fr (fun x => x = w.heap.size) w w'

theorem pair_facts {L : List StP} {w w' : World} {cs : Array Value} {r : Nat} (hw : w' = (w.alloc (.cells #[.string ⟨#[]⟩, .string ⟨#[]⟩] 49)).alloc (.cells cs 49)) (hc : cs.toList = pairCells L) (hr : r < L.length) : ∃ p, PairW L w w' r p := by
  obtain ⟨p, hp⟩ : ∃ p, L[r]? = some p := ⟨_, List.getElem?_eq_getElem hr⟩
  obtain ⟨k0, k1⟩ := pair_at L r p hp
  obtain ⟨A, hA⟩ : ∃ A, A = w.alloc (.cells #[.string ⟨#[]⟩, .string ⟨#[]⟩] 49) := ⟨_, rfl⟩
  rw [← hA] at hw
  have sA : A.heap.size = w.heap.size + 1 := by rw [hA]; simp
  have rA : A.heap[w.heap.size]? = some (.cells #[.string ⟨#[]⟩, .string ⟨#[]⟩] 49 (0, 0)) := by rw [hA]; exact heap_alloc_new w _
  have rB : w'.heap[w.heap.size + 1]? = some (.cells cs 49 (0, 0)) := by rw [hw, ← sA]; exact heap_alloc_new A _
  have fA : Fr (fun x => x = w.heap.size) w A := by rw [hA]; exact (Fr.refl _ _).alloc _
  have fB : Fr (fun _ => False) A w' := by rw [hw]; exact (Fr.refl _ _).alloc _
  refine ⟨p, List.mem_of_getElem? hp, cell_of rB ?_, cell_of rB ?_, (fB.block _ (by omega) id).trans rA, fA.trans fB (fun _ _ h => h.elim)⟩
  · rw [← Array.getElem?_toList, hc]; exact k0
  · rw [← Array.getElem?_toList, hc]; exact k1

set_option maxRecDepth 100000 in
set_option maxHeartbeats 1600000 in
theorem canonical_calls (n : Int) (w : World) (h0 : -9223372036854775808 ≤ n) (h1 : n ≤ 9223372036854775807) :
    Calls Tryz.prog 26 #[.int .i64 n] w fun e w' => ∃ p, p ∈ canonL ∧ e = .returned (.agg #[.string ⟨p.one.toArray⟩, .string ⟨p.other.toArray⟩]) ∧ Fr (fun _ => False) w w' := by
  go_enter Tryz.func26, Tryz.ntmps26
  go_wp2_with (go_at_call 19; refine (pick_calls n 24 _ h0 h1 (by omega) (by omega)).mono ?_; rintro e w' ⟨r, rfl, hr, hw⟩; obtain ⟨p, hp⟩ := pair_facts (L := canonL) hw (by kernel_rfl) hr; clear hw; have i0 : (0 : Int) ≤ (r : Int) := (by omega); have i1 : (r : Int) < 24 := (by omega); have c0 := hp.c0; have c1 := hp.c1; have d0 : w'.cell? ⟨w.heap.size, 0, none⟩ = some (.string ⟨#[]⟩) := cell_of hp.res rfl; have d1 : w'.cell? ⟨w.heap.size, 1, none⟩ = some (.string ⟨#[]⟩) := cell_of hp.res rfl; have f0 := frozen_of hp.res 0; have f1 := frozen_of hp.res 1; have HP : Hid (PairW canonL w w' r p) := hp; clear hp)
  go_wp2
  have rb := HP.out.res
  have e0 : (w'.setCell ⟨w.heap.size, 0, none⟩ (.string ⟨p.one.toArray⟩)).cell? ⟨w.heap.size, 0, none⟩ = some (.string ⟨p.one.toArray⟩) := cell_of (set_of rb 0 _) (by simp)
  have e1 : ((w'.setCell ⟨w.heap.size, 0, none⟩ (.string ⟨p.one.toArray⟩)).setCell ⟨w.heap.size, 1, none⟩ (.string ⟨p.other.toArray⟩)).cell? ⟨w.heap.size, 1, none⟩ = some (.string ⟨p.other.toArray⟩) := cell_of (set_of (set_of rb 0 _) 1 _) (by simp)
  try simp only [Exit.inBlock, Exit.then]
  refine bodyPost_ret (by simp [results, Tryz.results26, go_sem, e0, e1]; try rfl) rfl ?_
  exact ⟨p, HP.out.mem, rfl, ((HP.out.fr.setCell _ _ (fun _ => rfl)).setCell _ _ (fun _ => rfl)).mono (fun i hi h => by omega)⟩

set_option maxRecDepth 100000 in
set_option maxHeartbeats 1600000 in
theorem folded_calls (n : Int) (w : World) (h0 : -9223372036854775808 ≤ n) (h1 : n ≤ 9223372036854775807) :
    Calls Tryz.prog 27 #[.int .i64 n] w fun e w' => ∃ p, p ∈ foldedL ∧ e = .returned (.agg #[.string ⟨p.one.toArray⟩, .string ⟨p.other.toArray⟩]) ∧ Fr (fun _ => False) w w' := by
  go_enter Tryz.func27, Tryz.ntmps27
  go_wp2_with (go_at_call 19; refine (pick_calls n 18 _ h0 h1 (by omega) (by omega)).mono ?_; rintro e w' ⟨r, rfl, hr, hw⟩; obtain ⟨p, hp⟩ := pair_facts (L := foldedL) hw (by kernel_rfl) hr; clear hw; have i0 : (0 : Int) ≤ (r : Int) := (by omega); have i1 : (r : Int) < 18 := (by omega); have c0 := hp.c0; have c1 := hp.c1; have d0 : w'.cell? ⟨w.heap.size, 0, none⟩ = some (.string ⟨#[]⟩) := cell_of hp.res rfl; have d1 : w'.cell? ⟨w.heap.size, 1, none⟩ = some (.string ⟨#[]⟩) := cell_of hp.res rfl; have f0 := frozen_of hp.res 0; have f1 := frozen_of hp.res 1; have HP : Hid (PairW foldedL w w' r p) := hp; clear hp)
  go_wp2
  have rb := HP.out.res
  have e0 : (w'.setCell ⟨w.heap.size, 0, none⟩ (.string ⟨p.one.toArray⟩)).cell? ⟨w.heap.size, 0, none⟩ = some (.string ⟨p.one.toArray⟩) := cell_of (set_of rb 0 _) (by simp)
  have e1 : ((w'.setCell ⟨w.heap.size, 0, none⟩ (.string ⟨p.one.toArray⟩)).setCell ⟨w.heap.size, 1, none⟩ (.string ⟨p.other.toArray⟩)).cell? ⟨w.heap.size, 1, none⟩ = some (.string ⟨p.other.toArray⟩) := cell_of (set_of (set_of rb 0 _) 1 _) (by simp)
  try simp only [Exit.inBlock, Exit.then]
  refine bodyPost_ret (by simp [results, Tryz.results27, go_sem, e0, e1]; try rfl) rfl ?_
  exact ⟨p, HP.out.mem, rfl, ((HP.out.fr.setCell _ _ (fun _ => rfl)).setCell _ _ (fun _ => rfl)).mono (fun i hi h => by omega)⟩

set_option maxRecDepth 100000 in
set_option maxHeartbeats 1600000 in
theorem other_calls (n : Int) (w : World) (h0 : -9223372036854775808 ≤ n) (h1 : n ≤ 9223372036854775807) :
    Calls Tryz.prog 28 #[.int .i64 n] w fun e w' => ∃ p, p ∈ otherL ∧ e = .returned (.agg #[.string ⟨p.one.toArray⟩, .string ⟨p.other.toArray⟩]) ∧ Fr (fun _ => False) w w' := by
  go_enter Tryz.func28, Tryz.ntmps28
  go_wp2_with (go_at_call 19; refine (pick_calls n 11 _ h0 h1 (by omega) (by omega)).mono ?_; rintro e w' ⟨r, rfl, hr, hw⟩; obtain ⟨p, hp⟩ := pair_facts (L := otherL) hw (by kernel_rfl) hr; clear hw; have i0 : (0 : Int) ≤ (r : Int) := (by omega); have i1 : (r : Int) < 11 := (by omega); have c0 := hp.c0; have c1 := hp.c1; have d0 : w'.cell? ⟨w.heap.size, 0, none⟩ = some (.string ⟨#[]⟩) := cell_of hp.res rfl; have d1 : w'.cell? ⟨w.heap.size, 1, none⟩ = some (.string ⟨#[]⟩) := cell_of hp.res rfl; have f0 := frozen_of hp.res 0; have f1 := frozen_of hp.res 1; have HP : Hid (PairW otherL w w' r p) := hp; clear hp)
  go_wp2
  have rb := HP.out.res
  have e0 : (w'.setCell ⟨w.heap.size, 0, none⟩ (.string ⟨p.one.toArray⟩)).cell? ⟨w.heap.size, 0, none⟩ = some (.string ⟨p.one.toArray⟩) := cell_of (set_of rb 0 _) (by simp)
  have e1 : ((w'.setCell ⟨w.heap.size, 0, none⟩ (.string ⟨p.one.toArray⟩)).setCell ⟨w.heap.size, 1, none⟩ (.string ⟨p.other.toArray⟩)).cell? ⟨w.heap.size, 1, none⟩ = some (.string ⟨p.other.toArray⟩) := cell_of (set_of (set_of rb 0 _) 1 _) (by simp)
  try simp only [Exit.inBlock, Exit.then]
  refine bodyPost_ret (by simp [results, Tryz.results28, go_sem, e0, e1]; try rfl) rfl ?_
  exact ⟨p, HP.out.mem, rfl, ((HP.out.fr.setCell _ _ (fun _ => rfl)).setCell _ _ (fun _ => rfl)).mono (fun i hi h => by omega)⟩

end Go.Proofs.YtmhaknejeobfgaaGreatDoor

/- Stands1. -/
namespace Go.Proofs.YtmhaknejeobfgaaGreatDoor
open Go.RowKit Go.Proofs.YtmhaknejeobfgaaGreatDoor.Stable Go.Proofs.YtmhaknejeobfgaaGreatDoor.Order Go.Proofs.YtmhaknejeobfgaaGreatDoor.Points
attribute [local go_sem ↓] Go.wp_at_zero Go.wp_at_succ

theorem app_list (a b : ByteArray) : (a ++ b).data.toList = a.data.toList ++ b.data.toList := by simp

theorem app_size (a b : ByteArray) : (a ++ b).size = a.size + b.size := by
  rw [Lib.size_eq, app_list, List.length_append, ← Lib.size_eq, ← Lib.size_eq]

/-- A text with another in its midst. -/
theorem two_adds (s c t : ByteArray) (hs : s.size + t.size ≤ 1048576) (hc : c.size ≤ 20) : ∃ a x : ByteArray, (∀ w : World, (Op.stringOp .add s c).run Tryz.prog w = .ok (.string a) w) ∧ (∀ w : World, (Op.stringOp .add a t).run Tryz.prog w = .ok (.string x) w) ∧ x.data.toList = s.data.toList ++ c.data.toList ++ t.data.toList ∧ 432 * x.data.toList.length ≤ 1099511627776 := by
  refine ⟨s ++ c, s ++ c ++ t, fun w => run_string_add_sum w s c (by omega), fun w => run_string_add_sum w (s ++ c) t (by rw [app_size]; omega), by rw [app_list, app_list], ?_⟩
  have h := app_size (s ++ c) t
  have h2 := app_size s c
  have h3 := Lib.size_eq (s ++ c ++ t)
  omega

def shortP (p : StP) : Bool := decide (p.one.length ≤ 20) && decide (p.other.length ≤ 20)
theorem canonL_short : canonL.all shortP = true := by decide +kernel
theorem foldedL_short : foldedL.all shortP = true := by decide +kernel
theorem otherL_short : otherL.all shortP = true := by decide +kernel

theorem short_of {L : List StP} (h : L.all shortP = true) {p : StP} (hp : p ∈ L) : (⟨p.one.toArray⟩ : ByteArray).size ≤ 20 ∧ (⟨p.other.toArray⟩ : ByteArray).size ≤ 20 := by
  have h := List.all_eq_true.1 h p hp
  unfold shortP at h
  simp only [Bool.and_eq_true, decide_eq_true_eq] at h
  rw [Lib.size_eq, Lib.size_eq]
  exact h

/-- A pair in its block, and the two texts with one or the other in their midst. -/
structure Mid (s t : ByteArray) (L : List StP) (w : World) (b : Nat) (p : StP) (c1 c2 a1 a2 x1 x2 : ByteArray) : Prop where
  mem : p ∈ L
  blk : w.heap[b]? = some (.cells #[.string c1, .string c2] 49 (0, 0))
  p1 : ∀ w : World, (Op.stringOp .add s c1).run Tryz.prog w = .ok (.string a1) w
  p2 : ∀ w : World, (Op.stringOp .add a1 t).run Tryz.prog w = .ok (.string x1) w
  q1 : ∀ w : World, (Op.stringOp .add s c2).run Tryz.prog w = .ok (.string a2) w
  q2 : ∀ w : World, (Op.stringOp .add a2 t).run Tryz.prog w = .ok (.string x2) w
  l1 : x1.data.toList = s.data.toList ++ p.one ++ t.data.toList
  l2 : x2.data.toList = s.data.toList ++ p.other ++ t.data.toList
  s1 : 432 * x1.data.toList.length ≤ 1099511627776
  s2 : 432 * x2.data.toList.length ≤ 1099511627776

theorem mid_of {s t : ByteArray} {L : List StP} (hL : L.all shortP = true) {p : StP} (hp : p ∈ L) (hs : s.size + t.size ≤ 1048576) (w : World) : ∃ a1 a2 x1 x2, Mid s t L (w.alloc (.cells #[.string ⟨p.one.toArray⟩, .string ⟨p.other.toArray⟩] 49)) w.heap.size p ⟨p.one.toArray⟩ ⟨p.other.toArray⟩ a1 a2 x1 x2 := by
  obtain ⟨h1, h2⟩ := short_of hL hp
  obtain ⟨a1, x1, k1, k2, k3, k4⟩ := two_adds s ⟨p.one.toArray⟩ t hs h1
  obtain ⟨a2, x2, j1, j2, j3, j4⟩ := two_adds s ⟨p.other.toArray⟩ t hs h2
  exact ⟨a1, a2, x1, x2, hp, heap_alloc_new w _, k1, k2, j1, j2, k3, j3, k4, j4⟩

theorem Mid.kept {s t : ByteArray} {L : List StP} {w w' : World} {b : Nat} {p : StP} {c1 c2 a1 a2 x1 x2 : ByteArray} (h : Mid s t L w b p c1 c2 a1 a2 x1 x2) (f : Fr (fun _ => False) w w') : Mid s t L w' b p c1 c2 a1 a2 x1 x2 := { h with blk := (f.block b (lt_of h.blk) id).trans h.blk }

theorem arr_eq {x y : ByteArray} (h : x.data.toList = y.data.toList) : x = y := by
  have e : x.data = y.data := Array.toList_inj.1 h
  cases x; cases y
  simp at e
  rw [e]

set_option maxRecDepth 100000 in
set_option maxHeartbeats 3200000 in
theorem stands_walk (s : ByteArray) (n : Int) (t : ByteArray) (w : World) (h0 : -9223372036854775808 ≤ n) (h1 : n ≤ 9223372036854775807) (hE : Env w) (hb : s.size + t.size ≤ 1048576) :
    Calls Tryz.prog 9 #[.string s, .int .i64 n, .string t] w fun e w' => e = .returned (.bool true) ∧ Fr (fun _ => False) w w' := by
  have HE : Hid (Env w) := hE
  have HB : Hid (s.size + t.size ≤ 1048576) := hb
  have hnot : ∀ (x : Bool) (w : World), (Op.unary .not (.bool x)).run Tryz.prog w = .ok (.bool (!x)) w := fun _ _ => rfl
  clear hE hb
  go_enter Tryz.func9, Tryz.ntmps9
  go_wp2_with fail
  refine (canonical_calls n _ h0 h1).mono ?_
  rintro e w1 ⟨pc, hpc, rfl, hf1⟩
  obtain ⟨ca, cb, cx, cy, hc⟩ := mid_of (s := s) (t := t) canonL_short hpc HB.out w1
  obtain ⟨c1, hc1⟩ : ∃ c1 : ByteArray, c1 = ⟨pc.one.toArray⟩ := ⟨_, rfl⟩
  obtain ⟨c2, hc2⟩ : ∃ c2 : ByteArray, c2 = ⟨pc.other.toArray⟩ := ⟨_, rfl⟩
  rw [← hc1, ← hc2] at hc ⊢
  obtain ⟨W1, hW1⟩ : ∃ W1, W1 = w1.alloc (.cells #[.string c1, .string c2] 49) := ⟨_, rfl⟩
  rw [← hW1] at hc
  have HC : Hid (Mid s t canonL W1 w1.heap.size pc c1 c2 ca cb cx cy ∧ Fr (fun _ => False) w W1) := ⟨hc, hW1 ▸ hf1.alloc _⟩
  have HW1 : Hid (W1 = w1.alloc (.cells #[.string c1, .string c2] 49)) := hW1
  clear hpc hf1 hc hc1 hc2 hW1
  go_wp2_with fail
  rw [← HW1.out]
  clear HW1
  refine (folded_calls n _ h0 h1).mono ?_
  rintro e w2 ⟨pf, hpf, rfl, hf2⟩
  obtain ⟨fa, fb, fx, fy, hf⟩ := mid_of (s := s) (t := t) foldedL_short hpf HB.out w2
  obtain ⟨f1, hf1⟩ : ∃ f1 : ByteArray, f1 = ⟨pf.one.toArray⟩ := ⟨_, rfl⟩
  obtain ⟨f2, hff2⟩ : ∃ f2 : ByteArray, f2 = ⟨pf.other.toArray⟩ := ⟨_, rfl⟩
  rw [← hf1, ← hff2] at hf ⊢
  obtain ⟨W2, hW2⟩ : ∃ W2, W2 = w2.alloc (.cells #[.string f1, .string f2] 49) := ⟨_, rfl⟩
  rw [← hW2] at hf
  have fr2 : Fr (fun _ => False) W1 W2 := hW2 ▸ hf2.alloc _
  have HF : Hid (Mid s t foldedL W2 w2.heap.size pf f1 f2 fa fb fx fy ∧ Mid s t canonL W2 w1.heap.size pc c1 c2 ca cb cx cy ∧ Fr (fun _ => False) w W2) := ⟨hf, HC.out.1.kept fr2, HC.out.2.trans fr2 (fun _ _ h => h)⟩
  have HW2 : Hid (W2 = w2.alloc (.cells #[.string f1, .string f2] 49)) := hW2
  clear hpf hf2 hf hf1 hff2 hW2 fr2 HC
  go_wp2_with fail
  rw [← HW2.out]
  clear HW2
  refine (other_calls n _ h0 h1).mono ?_
  rintro e w3 ⟨po, hpo, rfl, hf3⟩
  obtain ⟨oa, ob, ox, oy, ho⟩ := mid_of (s := s) (t := t) otherL_short hpo HB.out w3
  obtain ⟨o1, ho1⟩ : ∃ o1 : ByteArray, o1 = ⟨po.one.toArray⟩ := ⟨_, rfl⟩
  obtain ⟨o2, ho2⟩ : ∃ o2 : ByteArray, o2 = ⟨po.other.toArray⟩ := ⟨_, rfl⟩
  rw [← ho1, ← ho2] at ho ⊢
  obtain ⟨W3, hW3⟩ : ∃ W3, W3 = w3.alloc (.cells #[.string o1, .string o2] 49) := ⟨_, rfl⟩
  rw [← hW3] at ho
  have fr3 : Fr (fun _ => False) W2 W3 := hW3 ▸ hf3.alloc _
  have HO : Hid (Mid s t otherL W3 w3.heap.size po o1 o2 oa ob ox oy ∧ Mid s t foldedL W3 w2.heap.size pf f1 f2 fa fb fx fy ∧ Mid s t canonL W3 w1.heap.size pc c1 c2 ca cb cx cy ∧ Fr (fun _ => False) w W3) := ⟨ho, HF.out.1.kept fr3, HF.out.2.1.kept fr3, HF.out.2.2.trans fr3 (fun _ _ h => h)⟩
  have HW3 : Hid (W3 = w3.alloc (.cells #[.string o1, .string o2] 49)) := hW3
  clear hpo hf3 ho ho1 ho2 hW3 fr3 HF
  go_wp2_with fail
  rw [← HW3.out]
  clear HW3
  have HKEY : Hid (∀ m : Int, 0 ≤ m → m ≤ 3 → keyL m cx.data.toList = keyL m cy.data.toList) := Hid.to (fun m a b => by rw [HO.out.2.2.1.l1, HO.out.2.2.1.l2]; exact canon_key (List.all_eq_true.1 canonL_ok pc HO.out.2.2.1.mem) a b _ _)
  have HFOLD : Hid (∀ m : Int, m = 2 ∨ m = 3 → cmpL m fx.data.toList fy.data.toList = 0) := Hid.to (fun m hm => by rw [HO.out.2.1.l1, HO.out.2.1.l2]; exact fold_cmp (List.all_eq_true.1 foldedL_ok pf HO.out.2.1.mem) hm _ _)
  have HOTH : Hid (cmpL 1 ox.data.toList oy.data.toList = 0 ∧ cmpL 0 ox.data.toList oy.data.toList ≠ 0) := Hid.to (by rw [HO.out.1.l1, HO.out.1.l2]; exact other_cmp (List.all_eq_true.1 otherL_ok po HO.out.1.mem) _ _)
  have HEV : Hid (∀ w', Fr (fun _ => False) W3 w' → Env w') := Hid.to (fun w' f => (HE.out.kept HO.out.2.2.2 (fun _ _ => id)).kept f (fun _ _ => id))
  have HCELL : Hid (∀ w', Fr (fun _ => False) W3 w' → w'.cell? ⟨w1.heap.size, 0, none⟩ = some (.string c1) ∧ w'.cell? ⟨w1.heap.size, 1, none⟩ = some (.string c2) ∧ w'.cell? ⟨w2.heap.size, 0, none⟩ = some (.string f1) ∧ w'.cell? ⟨w2.heap.size, 1, none⟩ = some (.string f2) ∧ w'.cell? ⟨w3.heap.size, 0, none⟩ = some (.string o1) ∧ w'.cell? ⟨w3.heap.size, 1, none⟩ = some (.string o2)) := Hid.to (fun w' f => ⟨cell_of (HO.out.2.2.1.kept f).blk rfl, cell_of (HO.out.2.2.1.kept f).blk rfl, cell_of (HO.out.2.1.kept f).blk rfl, cell_of (HO.out.2.1.kept f).blk rfl, cell_of (HO.out.1.kept f).blk rfl, cell_of (HO.out.1.kept f).blk rfl⟩)
  have aC1 := HO.out.2.2.1.p1
  have aC2 := HO.out.2.2.1.p2
  have aC3 := HO.out.2.2.1.q1
  have aC4 := HO.out.2.2.1.q2
  have aF1 := HO.out.2.1.p1
  have aF2 := HO.out.2.1.p2
  have aF3 := HO.out.2.1.q1
  have aF4 := HO.out.2.1.q2
  have aO1 := HO.out.1.p1
  have aO2 := HO.out.1.p2
  have aO3 := HO.out.1.q1
  have aO4 := HO.out.1.q2
  go_loopw [10] (fun vi wr => ∃ k : Nat, vi = .int .i64 k ∧ k ≤ 4 ∧ Hid (Fr (fun _ => False) W3 wr)) (fun vi _ => 4 - (intOf vi).toNat)
  case atStart => exact ⟨0, rfl, by omega, Fr.refl _ _⟩
  case round =>
    obtain ⟨k, rfl, hk, hfr⟩ := hrel
    by_cases hlt : k < 4
    · rcases (by omega : k = 0 ∨ k = 1 ∨ k = 2 ∨ k = 3) with rfl | rfl | rfl | rfl
      · go_wp2_with (go_at_call 20; refine (known_calls 0 _ (by omega) (by omega) (HEV.out _ hfr.out)).mono ?_; rintro e v1 ⟨rfl, g1⟩; have G1 : Hid (Fr (fun _ => False) W3 v1) := hfr.out.trans g1 (fun _ _ h => h); clear g1; obtain ⟨d1, d2, d3, d4, d5, d6⟩ := HCELL.out v1 G1.out)
        refine (key_calls 0 cx _ (by omega) (by omega) (HEV.out _ G1.out) HO.out.2.2.1.s1).mono ?_
        rw [HKEY.out 0 (by omega) (by omega)]
        obtain ⟨K, hK⟩ : ∃ K : ByteArray, K = ⟨(keyL 0 cy.data.toList).toArray⟩ := ⟨_, rfl⟩
        rw [← hK]
        have HK : Hid (K = ⟨(keyL 0 cy.data.toList).toArray⟩) := hK
        clear hK
        rintro e v2 ⟨rfl, g2⟩
        have G2 : Hid (Fr (fun _ => False) W3 v2) := G1.out.trans g2 (fun _ _ h => h)
        clear g2
        obtain ⟨k1, k2, k3, k4, k5, k6⟩ := HCELL.out v2 G2.out
        go_wp2_with fail
        refine (key_calls 0 cy _ (by omega) (by omega) (HEV.out _ G2.out) HO.out.2.2.1.s2).mono ?_
        rw [← HK.out]
        rintro e v3 ⟨rfl, g3⟩
        have G3 : Hid (Fr (fun _ => False) W3 v3) := G2.out.trans g3 (fun _ _ h => h)
        clear g3
        obtain ⟨m1, m2, m3, m4, m5, m6⟩ := HCELL.out v3 G3.out
        go_wp2_with fail
        refine (compare_calls 0 ox oy _ (by omega) (by omega) (HEV.out _ G3.out) HO.out.1.s1 HO.out.1.s2).mono ?_
        obtain ⟨y, hy⟩ : ∃ y, y = cmpL 0 ox.data.toList oy.data.toList := ⟨_, rfl⟩
        rw [← hy]
        have by0 : (y == 0) = false := by rw [beq_eq_false_iff_ne, hy]; exact HOTH.out.2
        clear hy
        rintro e v4 ⟨rfl, g4⟩
        have G4 : Hid (Fr (fun _ => False) W3 v4) := G3.out.trans g4 (fun _ _ h => h)
        clear g4
        go_wp2
        exact ⟨⟨1, rfl, by omega, G4.out⟩, by simp [intOf]⟩
      · go_wp2_with (go_at_call 20; refine (known_calls 1 _ (by omega) (by omega) (HEV.out _ hfr.out)).mono ?_; rintro e v1 ⟨rfl, g1⟩; have G1 : Hid (Fr (fun _ => False) W3 v1) := hfr.out.trans g1 (fun _ _ h => h); clear g1; obtain ⟨d1, d2, d3, d4, d5, d6⟩ := HCELL.out v1 G1.out)
        refine (key_calls 1 cx _ (by omega) (by omega) (HEV.out _ G1.out) HO.out.2.2.1.s1).mono ?_
        rw [HKEY.out 1 (by omega) (by omega)]
        obtain ⟨K, hK⟩ : ∃ K : ByteArray, K = ⟨(keyL 1 cy.data.toList).toArray⟩ := ⟨_, rfl⟩
        rw [← hK]
        have HK : Hid (K = ⟨(keyL 1 cy.data.toList).toArray⟩) := hK
        clear hK
        rintro e v2 ⟨rfl, g2⟩
        have G2 : Hid (Fr (fun _ => False) W3 v2) := G1.out.trans g2 (fun _ _ h => h)
        clear g2
        obtain ⟨k1, k2, k3, k4, k5, k6⟩ := HCELL.out v2 G2.out
        go_wp2_with fail
        refine (key_calls 1 cy _ (by omega) (by omega) (HEV.out _ G2.out) HO.out.2.2.1.s2).mono ?_
        rw [← HK.out]
        rintro e v3 ⟨rfl, g3⟩
        have G3 : Hid (Fr (fun _ => False) W3 v3) := G2.out.trans g3 (fun _ _ h => h)
        clear g3
        obtain ⟨m1, m2, m3, m4, m5, m6⟩ := HCELL.out v3 G3.out
        go_wp2_with fail
        refine (compare_calls 1 ox oy _ (by omega) (by omega) (HEV.out _ G3.out) HO.out.1.s1 HO.out.1.s2).mono ?_
        rw [HOTH.out.1]
        rintro e v4 ⟨rfl, g4⟩
        have G4 : Hid (Fr (fun _ => False) W3 v4) := G3.out.trans g4 (fun _ _ h => h)
        clear g4
        go_wp2
        exact ⟨⟨2, rfl, by omega, G4.out⟩, by simp [intOf]⟩
      · go_wp2_with (go_at_call 20; refine (known_calls 2 _ (by omega) (by omega) (HEV.out _ hfr.out)).mono ?_; rintro e v1 ⟨rfl, g1⟩; have G1 : Hid (Fr (fun _ => False) W3 v1) := hfr.out.trans g1 (fun _ _ h => h); clear g1; obtain ⟨d1, d2, d3, d4, d5, d6⟩ := HCELL.out v1 G1.out)
        refine (key_calls 2 cx _ (by omega) (by omega) (HEV.out _ G1.out) HO.out.2.2.1.s1).mono ?_
        rw [HKEY.out 2 (by omega) (by omega)]
        obtain ⟨K, hK⟩ : ∃ K : ByteArray, K = ⟨(keyL 2 cy.data.toList).toArray⟩ := ⟨_, rfl⟩
        rw [← hK]
        have HK : Hid (K = ⟨(keyL 2 cy.data.toList).toArray⟩) := hK
        clear hK
        rintro e v2 ⟨rfl, g2⟩
        have G2 : Hid (Fr (fun _ => False) W3 v2) := G1.out.trans g2 (fun _ _ h => h)
        clear g2
        obtain ⟨k1, k2, k3, k4, k5, k6⟩ := HCELL.out v2 G2.out
        go_wp2_with fail
        refine (key_calls 2 cy _ (by omega) (by omega) (HEV.out _ G2.out) HO.out.2.2.1.s2).mono ?_
        rw [← HK.out]
        rintro e v3 ⟨rfl, g3⟩
        have G3 : Hid (Fr (fun _ => False) W3 v3) := G2.out.trans g3 (fun _ _ h => h)
        clear g3
        obtain ⟨m1, m2, m3, m4, m5, m6⟩ := HCELL.out v3 G3.out
        go_wp2_with fail
        refine (compare_calls 2 fx fy _ (by omega) (by omega) (HEV.out _ G3.out) HO.out.2.1.s1 HO.out.2.1.s2).mono ?_
        rw [HFOLD.out 2 (by omega)]
        rintro e v4 ⟨rfl, g4⟩
        have G4 : Hid (Fr (fun _ => False) W3 v4) := G3.out.trans g4 (fun _ _ h => h)
        clear g4
        go_wp2
        exact ⟨⟨3, rfl, by omega, G4.out⟩, by simp [intOf]⟩
      · go_wp2_with (go_at_call 20; refine (known_calls 3 _ (by omega) (by omega) (HEV.out _ hfr.out)).mono ?_; rintro e v1 ⟨rfl, g1⟩; have G1 : Hid (Fr (fun _ => False) W3 v1) := hfr.out.trans g1 (fun _ _ h => h); clear g1; obtain ⟨d1, d2, d3, d4, d5, d6⟩ := HCELL.out v1 G1.out)
        refine (key_calls 3 cx _ (by omega) (by omega) (HEV.out _ G1.out) HO.out.2.2.1.s1).mono ?_
        rw [HKEY.out 3 (by omega) (by omega)]
        obtain ⟨K, hK⟩ : ∃ K : ByteArray, K = ⟨(keyL 3 cy.data.toList).toArray⟩ := ⟨_, rfl⟩
        rw [← hK]
        have HK : Hid (K = ⟨(keyL 3 cy.data.toList).toArray⟩) := hK
        clear hK
        rintro e v2 ⟨rfl, g2⟩
        have G2 : Hid (Fr (fun _ => False) W3 v2) := G1.out.trans g2 (fun _ _ h => h)
        clear g2
        obtain ⟨k1, k2, k3, k4, k5, k6⟩ := HCELL.out v2 G2.out
        go_wp2_with fail
        refine (key_calls 3 cy _ (by omega) (by omega) (HEV.out _ G2.out) HO.out.2.2.1.s2).mono ?_
        rw [← HK.out]
        rintro e v3 ⟨rfl, g3⟩
        have G3 : Hid (Fr (fun _ => False) W3 v3) := G2.out.trans g3 (fun _ _ h => h)
        clear g3
        obtain ⟨m1, m2, m3, m4, m5, m6⟩ := HCELL.out v3 G3.out
        go_wp2_with fail
        refine (compare_calls 3 fx fy _ (by omega) (by omega) (HEV.out _ G3.out) HO.out.2.1.s1 HO.out.2.1.s2).mono ?_
        rw [HFOLD.out 3 (by omega)]
        rintro e v4 ⟨rfl, g4⟩
        have G4 : Hid (Fr (fun _ => False) W3 v4) := G3.out.trans g4 (fun _ _ h => h)
        clear g4
        go_wp2
        exact ⟨⟨4, rfl, by omega, G4.out⟩, by simp [intOf]⟩
    · obtain rfl : k = 4 := by omega
      go_wp2
      go_ret
      exact ⟨rfl, HO.out.2.2.2.trans hfr.out (fun _ _ h => h)⟩

end Go.Proofs.YtmhaknejeobfgaaGreatDoor

/- Frame. -/
namespace Go.Proofs.YtmhaknejeobfgaaGreatDoor
open Go.RowKit Go.ChangeShapes Go.WideShapes Go.ChangeAt

theorem own : ownKnob Tryz.prog.godebug = none := by kernel_rfl

theorem int_range {raw : Int} (h : (Lit.int .i64 raw).wf = true) : -9223372036854775808 ≤ raw ∧ raw ≤ 9223372036854775807 := by
  have h' : (decide (IntKind.i64.min ≤ raw) && decide (raw ≤ IntKind.i64.max)) = true := h
  rw [Bool.and_eq_true, decide_eq_true_eq, decide_eq_true_eq] at h'
  have e1 : IntKind.i64.min = -9223372036854775808 := by decide
  have e2 : IntKind.i64.max = 9223372036854775807 := by decide
  rw [e1, e2] at h'
  exact h'

/-- What the rows list. -/
def laidL : List (String × DataW Unit) := Rows.summedUptoRow.laid

theorem laid_first : ("unicode/utf8.first", Lib.firstData) ∈ laidL := by
  have : laidL[8]? = some ("unicode/utf8.first", Lib.firstData) := by kernel_rfl
  exact List.mem_of_getElem? this

theorem laid_accept : ("unicode/utf8.acceptRanges", Lib.acceptData) ∈ laidL := by
  have : laidL[3]? = some ("unicode/utf8.acceptRanges", Lib.acceptData) := by kernel_rfl
  exact List.mem_of_getElem? this

theorem laid_space : ("strings.asciiSpace", Lib.tabData .u8 Lib.asciiSpaceTab) ∈ laidL := by
  have : laidL[7]? = some ("strings.asciiSpace", Lib.tabData .u8 Lib.asciiSpaceTab) := by kernel_rfl
  exact List.mem_of_getElem? this

theorem gSpace : Tryz.prog.globalNamed "strings.asciiSpace" = some 2 := by kernel_rfl
theorem gSpaceType : (Tryz.prog.globals[2]?).map (·.type) = some 171 := by kernel_rfl
theorem cellsTab : Tryz.prog.cellsOf 171 = 256 := by kernel_rfl
theorem cellsByte : Tryz.prog.cellsOf 5 = 1 := by kernel_rfl

theorem tabIs_of_reads {P : Program} {W : World} {name : String} {k : IntKind} {zs : List Int} {g : Nat} {t e : TypeId} {n : Nat}
    (hg : P.globalNamed name = some g) (hty : (P.globals[g]?).map (·.type) = some t) (ht : P.underlying t = some (.array n e)) (he : P.underlying e = some (.int k)) (hce : P.cellsOf e = 1) (hct : P.cellsOf t = n)
    (h : Lib.VarReads P W name (Lib.tabData k zs)) : Lib.TabIs P W name k zs := by
  obtain ⟨g', t', cs, fuel, p, hg', ht', hvar, hd⟩ := h
  obtain rfl := Option.some.inj (hg.symm.trans hg')
  obtain rfl := Option.some.inj (hty.symm.trans ht')
  unfold Lib.TabIs
  rw [hvar, ← Lib.cells_of_tab ht he hce hct hd]

/-- WHAT THE LIST AND THE WORLD'S SHAPE GIVE: all that the walks ask of the globals. -/
theorem env_of {W : World} (hL : laidMetH Tryz.prog laidL W) (hsh : W.ShapedOpen Tryz.prog) : Env W := by
  have hM : laidMet Tryz.prog laidL W := hL
  refine ⟨?_, Tryz.laysM219.s1_3 W hsh, ?_, ?_⟩
  · obtain ⟨cs, h, _⟩ := hsh.1 10 #[.pointer none] 192 (by decide +kernel) (by kernel_rfl)
    exact lt_of h
  · exact tabIs_of_reads gSpace gSpaceType Tryz.underlying171 Tryz.underlying5 cellsByte cellsTab (Lib.laidMet.reads hM laid_space)
  · exact utf8Tabs_of_reads { Tryz.lays260 with } ⟨by kernel_rfl, by kernel_rfl, by kernel_rfl, by kernel_rfl, by kernel_rfl, by kernel_rfl, by kernel_rfl⟩ (Lib.laidMet.reads hM laid_first) (Lib.laidMet.reads hM laid_accept)

/-- The bytes of a listed text. -/
def laidBytes : DataW Unit → List UInt8
  | .iface _ (.ptr (.agg [.lit (.string l)])) => l
  | _ => []

def intsOf : DataW Unit → List Value
  | .agg l => l.map fun | .lit (.int k z) => .int k z | _ => .bool false
  | _ => []

/-- A WORLD FOR THE WITNESS: the settled one with four blocks more (the texts of two errors; a table's ranges; the table), the nine listed variables holding what their initialisers lay. -/
def laidWorld (P : Program) (os : Os) : World :=
  let N := (World.settled P os).heap.size
  let w0 := World.holding P os ⟨#[.cells #[.string ⟨(laidBytes Rows.laid_strconv_ErrRange).toArray⟩] 226, .cells #[.string ⟨(laidBytes Rows.laid_strconv_ErrSyntax).toArray⟩] 226,
    .cells (Lib.whiteT.map fun (z : Nat) => Value.int .u16 (z : Int)).toArray 206, .cells #[.slice (some ⟨N + 2, 0, none⟩) 7 7, .slice none 0 0, .int .i64 2] 203], #[], []⟩
  let put (h : Array Obj) (g : Nat) (cs : Array Value) : Array Obj := h.modify g fun
    | .cells _ t frozen => .cells cs t frozen
    | o => o
  let h1 := put w0.heap 2 (Lib.asciiSpaceTab.map fun z => Value.int .u8 z).toArray
  let h2 := put h1 0 (Lib.firstTab.map fun z => Value.int .u8 z).toArray
  let h3 := put h2 1 ((List.range 16).flatMap fun i => [Value.int .u8 (Lib.accLo i), Value.int .u8 (Lib.accHi i)]).toArray
  let h4 := put h3 3 #[.pointer (some ⟨N + 3, 0, none⟩)]
  let h5 := put h4 5 #[.iface 224 (.pointer (some ⟨N, 0, none⟩))]
  let h6 := put h5 4 #[.iface 224 (.pointer (some ⟨N + 1, 0, none⟩))]
  let h7 := put h6 8 (intsOf Rows.laid_math_bits_deBruijn32tab).toArray
  let h8 := put h7 9 (intsOf Rows.laid_math_bits_deBruijn64tab).toArray
  let h9 := put h8 7 (intsOf Rows.laid_internal_strconv_uint64pow10).toArray
  { w0 with heap := h9 }

theorem laid_met (os : Os) (args : Array Value) : laidMet Tryz.prog laidL ((laidWorld Tryz.prog os).forCall (fun _ _ => 0) ⟨#[], args, []⟩).memory :=
  laidMet_of_run3 8 (by kernel_rfl) (by kernel_rfl) (by kernel_rfl)

end Go.Proofs.YtmhaknejeobfgaaGreatDoor

/- ConStands. -/
namespace Go.Proofs.YtmhaknejeobfgaaGreatDoor.standsProof
open Go.ChangeShapes Go.WideShapes Go.ChangeAt Go.RowKit
open Go.ChangeMaps (open_string shut_string)

theorem bound {x0 : ByteArray} {x1 : Int} {x2 : ByteArray} {H : Type} (h : Rows.uptoSmall H [.lit (.string x0.data.toList), .lit (.int .i64 x1), .lit (.string x2.data.toList)] = true) : x0.size ≤ 1048576 ∧ x2.size ≤ 1048576 ∧ x0.size + x2.size ≤ 1048576 := by
  have h := of_decide_eq_true h
  simp only [Rows.uptoBulkAll, Rows.uptoBulk] at h
  have s0 := Lib.size_eq x0
  have s2 := Lib.size_eq x2
  omega

set_option maxRecDepth 100000 in
theorem contract (H : Type) (enc : TypeId × Value → H) (F : Stop.Interp) (W : World) (base : Nat) (args : Array Value) (ds gs : List (DataW H)) (before : List MemPlace)
    (hval : ∀ (j : Nat) t v, Tryz.f9.params[j]? = some t → args[j]? = some v → Value.okWide Tryz.prog W .any base t v)
    (hW : DataW.Whole enc Tryz.prog Tryz.f9.params.toList (Rows.OpenSpec.upto Rows.standsSpec).vars false W args.toList ds gs before)
    (hcond : ∀ k, (Rows.OpenSpec.upto Rows.standsSpec).cond = some k → k H (ds ++ gs) = true) (hL : laidMetH Tryz.prog laidL W) (hsh : W.ShapedOpen Tryz.prog) :
    Calls Tryz.prog 9 args W fun e W' => ∃ v, e = .returned v ∧ ((Rows.OpenSpec.upto Rows.standsSpec).at F).post enc Tryz.prog Tryz.f9 false true false false W args v W' := by
  have hW' := hW
  obtain ⟨p, q, hA0, hV0, rfl, _, _⟩ := hW
  have hA : DataW.TrodAll enc Tryz.prog W 0 (fun _ => true) true Tryz.f9.params.toList args.toList ds p := hA0
  rw [Tryz.params9] at hA hval
  obtain ⟨v0, vs0, d0, ds0, p0, q0, hargs, rfl, rfl, h0, t0⟩ := trodAll_cons hA
  obtain ⟨v1, vs1, d1, ds1, p1, q1, rfl, rfl, rfl, h1, t1⟩ := trodAll_cons t0
  obtain ⟨v2, vs2, d2, ds2, p2, q2, rfl, rfl, rfl, h2, t2⟩ := trodAll_cons t1
  obtain ⟨rfl, rfl, rfl⟩ := trodAll_nil t2
  obtain rfl : args = #[v0, v1, v2] := by cases args; simp_all
  obtain ⟨rfl, rfl⟩ := trodVars_none hV0
  obtain ⟨x0, rfl, rfl, rfl, w0⟩ := open_string Tryz.underlying9 (hval 0 9 v0 rfl rfl) h0
  obtain ⟨x1, rfl, rfl, rfl, w1⟩ := open_int Tryz.underlying3 (hval 1 3 v1 rfl rfl) h1
  obtain ⟨x2, rfl, rfl, rfl, w2⟩ := open_string Tryz.underlying9 (hval 2 9 v2 rfl rfl) h2
  clear hA0
  simp only [List.append_nil] at hW' hcond
  have hk := hcond Rows.uptoSmall rfl
  have hb := bound hk
  have r1 := int_range w1
  refine (stands_walk x0 x1 x2 W r1.1 r1.2 (env_of hL hsh) hb.2.2).mono ?_
  rintro e W' ⟨rfl, hf⟩
  have bel := hf.below
  refine ⟨_, rfl, [.lit (.string x0.data.toList), .lit (.int .i64 x1), .lit (.string x2.data.toList)], [], [], [], [], [], hW', ?_, ?_, ?_, bel.frame _, fun h => by cases h⟩
  · exact trodAll_mk1 (shut_bool Tryz.underlying4 _)
  · exact (trodAll_cons_mk (shut_string Tryz.underlying9 w0) (trodAll_cons_mk (shut_int Tryz.underlying3 w1) (trodAll_cons_mk (shut_string Tryz.underlying9 w2) trodAll_mk0)))
  · rfl

end Go.Proofs.YtmhaknejeobfgaaGreatDoor.standsProof
