/- A whole text: Ended and Next. A reader of a whole text, in memory. A reader's readOn: one more code point, or the end. A reader's Fetch: the next code point of the form, or the end. The stages of a mode: kindsOf and Of. A copy of a mode's stages; a line of them. A new line; a new source; Begin: a reader of a whole text. -/
import Derived.Test.YtmhaknejeobfgaaDoorTables
import Derived.Test.YtmhaknejeobfgaaDoorBase
import Derived.Test.YtmhaknejeobfgaaDoorShelf
import Derived.Deep.DrawnRows
import Derived.Laws.Slices
import Derived.Test.YtmhaknejeobfgaaDoorLining
import Derived.Deep.LoopGhost
import Derived.Maps.AppendAt
import Derived.Laws.EntriesVeiled

/- Source1. -/
namespace Go.Proofs.YtmhaknejeobfgaaDoor
open Go.RowKit Go.Proofs.YtmhaknejeobfgaaDoor.Points
attribute [local go_sem ↓] Go.wp_at_zero Go.wp_at_succ

theorem decodeGo_L (s : ByteArray) (h : s.size ≠ 0) : Lib.decodeGo s = Lib.decodeL s.data.toList := by
  unfold Lib.decodeGo Lib.decodeL
  rw [if_neg h]

theorem ne_of_size {s : ByteArray} (h : s.size ≠ 0) : s.data.toList ≠ [] := by
  intro e
  have := Lib.size_eq s
  rw [e] at this
  exact h this


end Go.Proofs.YtmhaknejeobfgaaDoor

/- Reader1. -/
namespace Go.Proofs.YtmhaknejeobfgaaDoor
open Go.RowKit Go.Proofs.YtmhaknejeobfgaaDoor.Stable Go.Proofs.YtmhaknejeobfgaaDoor.Order Go.Proofs.YtmhaknejeobfgaaDoor.Points
attribute [local go_sem ↓] Go.wp_at_zero Go.wp_at_succ


end Go.Proofs.YtmhaknejeobfgaaDoor

/- Reader2. -/
namespace Go.Proofs.YtmhaknejeobfgaaDoor
open Go.RowKit Go.Proofs.YtmhaknejeobfgaaDoor.Stable Go.Proofs.YtmhaknejeobfgaaDoor.Order Go.Proofs.YtmhaknejeobfgaaDoor.Points
attribute [local go_sem ↓] Go.wp_at_zero Go.wp_at_succ


end Go.Proofs.YtmhaknejeobfgaaDoor

/- Reader3. -/
namespace Go.Proofs.YtmhaknejeobfgaaDoor
open Go.RowKit Go.Proofs.YtmhaknejeobfgaaDoor.Stable Go.Proofs.YtmhaknejeobfgaaDoor.Order Go.Proofs.YtmhaknejeobfgaaDoor.Points
attribute [local go_sem ↓] Go.wp_at_zero Go.wp_at_succ

/-- Where it stands. -/
def RdF (F : List Int) (ks : Nat → Bool × Bool) (h : List Int) (rest : ByteArray) (n : Nat) (e : Bool) (taken R : List Int) (g : Nat) : Prop := F = inAt ks true (h ++ codes rest.data.toList) n ∧ inAt ks e h n = taken ++ R ∧ (e = true → rest.data.toList = []) ∧ rest.data.toList.length + (if e = true then 0 else 1) = g

theorem MidAt.cons {x c : Int} {ok : Bool} {r : List Int} (h : MidAt (.int .i32 x) (.bool ok) (c :: r)) : x = c ∧ ok = true := by
  rcases h with ⟨h, _⟩ | ⟨y, q, h1, h2, h3⟩
  · cases h
  · cases h1
    cases h2
    cases h3
    exact ⟨rfl, rfl⟩

theorem MidAt.nil {x : Int} {ok : Bool} (h : MidAt (.int .i32 x) (.bool ok) []) : x = 0 ∧ ok = false := by
  rcases h with ⟨_, h2, h3⟩ | ⟨y, q, h1, _⟩
  · cases h2
    cases h3
    exact ⟨rfl, rfl⟩
  · cases h1

theorem rd_prefix {ks : Nat → Bool × Bool} {h x : List Int} {e : Bool} {n : Nat} {F taken R : List Int} (h2 : F = inAt ks true (h ++ x) n) (h3 : inAt ks e h n = taken ++ R) (h4 : e = true → x = []) : ∃ t, F = taken ++ (R ++ t) ∧ (e = true → t = []) := by
  cases e with
  | true =>
    rw [h4 rfl, List.append_nil] at h2
    exact ⟨[], by rw [h2, h3, List.append_nil], fun _ => rfl⟩
  | false =>
    obtain ⟨t, ht⟩ := in_prefix ks h x true n
    exact ⟨t, by rw [h2, ht, h3, List.append_assoc], fun e => by cases e⟩

theorem codes_nil' {rest : ByteArray} (h : rest.data.toList = []) : codes rest.data.toList = [] := by rw [h]; rfl


end Go.Proofs.YtmhaknejeobfgaaDoor

/- Of1. -/
namespace Go.Proofs.YtmhaknejeobfgaaDoor
open Go.RowKit Go.Proofs.YtmhaknejeobfgaaDoor.Points
attribute [local go_sem ↓] Go.wp_at_zero Go.wp_at_succ

/-- The switches of a mode's stages, the first ones of each. -/
def kindL (m : Int) : List Bool := if m = 0 then [false] else if m = 1 then [true] else if m = 2 then [false, false] else if m = 3 then [false, true, true] else []

set_option maxRecDepth 100000 in
theorem kindsOf_calls (m : Int) (w : World) (h0 : 0 ≤ m) (h3 : m ≤ 3) :
    Calls Tryd.prog 13 #[.int .i64 m] w fun e w' => e = .returned (.slice (some ⟨w.heap.size, 0, none⟩) (kindL m).length (kindL m).length) ∧ w' = w.alloc (.cells ((kindL m).map Value.bool).toArray 4) := by
  rcases modes h0 h3 with rfl | rfl | rfl | rfl
  all_goals
    go_enter Tryd.func13, Tryd.ntmps13
    go_wp2
    go_ret
    exact ⟨rfl, rfl⟩

set_option maxRecDepth 100000 in
theorem kindsOf_none (m : Int) (w : World) (h : m < 0 ∨ 3 < m) :
    Calls Tryd.prog 13 #[.int .i64 m] w fun e w' => e = .returned (.slice none 0 0) ∧ w' = w := by
  have a0 : (m == 0) = false := by rw [beq_eq_false_iff_ne]; omega
  have a1 : (m == 1) = false := by rw [beq_eq_false_iff_ne]; omega
  have a2 : (m == 2) = false := by rw [beq_eq_false_iff_ne]; omega
  have a3 : (m == 3) = false := by rw [beq_eq_false_iff_ne]; omega
  clear h
  go_enter Tryd.func13, Tryd.ntmps13
  go_wp2
  go_ret
  exact ⟨rfl, rfl⟩

set_option maxRecDepth 100000 in
theorem of_none (m : Int) (w : World) (h : m < 0 ∨ 3 < m) :
    Calls Tryd.prog 8 #[.int .i64 m] w fun e w' => e = .returned (.tuple #[.slice none 0 0, .int .i64 1]) ∧ w' = w := by
  have HM : Hid (m < 0 ∨ 3 < m) := h
  clear h
  go_enter Tryd.func8, Tryd.ntmps8
  go_wp2_with (go_at_call 13; refine (kindsOf_none m _ HM.out).mono ?_; rintro e w' ⟨rfl, hw⟩; have hw' := hw.symm; subst hw'; clear hw)
  go_ret2
  exact ⟨rfl, rfl⟩

/-- Stages with nothing in them, of no kind yet. -/
def zeros (n : Nat) : Array Value := ((List.replicate n [Value.map none, .bool false, .bool false, .slice none 0 0, .int .i64 0, .int .i64 0, .slice none 0 0, .int .i64 0]).flatten).toArray

theorem make_stages {n : Nat} (h1 : 1 ≤ n) (h3 : n ≤ 3) (w : World) : (Instr.makeSlice 32 (.int .i64 n) (.int .i64 n)).run Tryd.prog w = .ok (.slice (some ⟨w.heap.size, 0, none⟩) n n) (w.alloc (.cells (zeros n) 49)) := by
  rcases (by omega : n = 1 ∨ n = 2 ∨ n = 3) with rfl | rfl | rfl <;> kernel_rfl

theorem set8 {w : World} {b o : Nat} {cs : Array Value} {t : TypeId} (hb : w.heap[b]? = some (.cells cs t (0, 0))) (ho : o + 8 ≤ cs.size) (v0 v1 v2 v3 v4 v5 v6 v7 : Value) :
    ∃ cs' : Array Value, ((((((((w.setCell ⟨b, o, none⟩ v0).setCell ⟨b, o + 1, none⟩ v1).setCell ⟨b, o + 2, none⟩ v2).setCell ⟨b, o + 3, none⟩ v3).setCell ⟨b, o + 4, none⟩ v4).setCell ⟨b, o + 5, none⟩ v5).setCell ⟨b, o + 6, none⟩ v6).setCell ⟨b, o + 7, none⟩ v7).heap[b]? = some (.cells cs' t (0, 0)) ∧ cs'.size = cs.size ∧ (∀ j, j < 8 → cs'[o + j]? = #[v0, v1, v2, v3, v4, v5, v6, v7][j]?) ∧ ∀ i, i < o ∨ o + 8 ≤ i → cs'[i]? = cs[i]? := by
  refine ⟨_, set_of (set_of (set_of (set_of (set_of (set_of (set_of (set_of hb o v0) (o + 1) v1) (o + 2) v2) (o + 3) v3) (o + 4) v4) (o + 5) v5) (o + 6) v6) (o + 7) v7, by simp, fun j hj => ?_, fun i hi => ?_⟩
  · rcases (by omega : j = 0 ∨ j = 1 ∨ j = 2 ∨ j = 3 ∨ j = 4 ∨ j = 5 ∨ j = 6 ∨ j = 7) with rfl | rfl | rfl | rfl | rfl | rfl | rfl | rfl
    · simp only [Nat.add_zero]
      rw [get_set_other _ (by omega), get_set_other _ (by omega), get_set_other _ (by omega), get_set_other _ (by omega), get_set_other _ (by omega), get_set_other _ (by omega), get_set_other _ (by omega), get_set_same _ (by omega)]; rfl
    · rw [get_set_other _ (by omega), get_set_other _ (by omega), get_set_other _ (by omega), get_set_other _ (by omega), get_set_other _ (by omega), get_set_other _ (by omega), get_set_same _ (by simp; omega)]; rfl
    · rw [get_set_other _ (by omega), get_set_other _ (by omega), get_set_other _ (by omega), get_set_other _ (by omega), get_set_other _ (by omega), get_set_same _ (by simp; omega)]; rfl
    · rw [get_set_other _ (by omega), get_set_other _ (by omega), get_set_other _ (by omega), get_set_other _ (by omega), get_set_same _ (by simp; omega)]; rfl
    · rw [get_set_other _ (by omega), get_set_other _ (by omega), get_set_other _ (by omega), get_set_same _ (by simp; omega)]; rfl
    · rw [get_set_other _ (by omega), get_set_other _ (by omega), get_set_same _ (by simp; omega)]; rfl
    · rw [get_set_other _ (by omega), get_set_same _ (by simp; omega)]; rfl
    · rw [get_set_same _ (by simp; omega)]; rfl
  · rw [get_set_other _ (by omega), get_set_other _ (by omega), get_set_other _ (by omega), get_set_other _ (by omega), get_set_other _ (by omega), get_set_other _ (by omega), get_set_other _ (by omega), get_set_other _ (by omega)]

/-- The first k stages of a mode, with nothing in them. -/
def Fresh (cs : Array Value) (B : Nat) (m : Int) (k : Nat) : Prop := ∀ i, i < k → ∀ j, j < 8 → cs[8 * i + j]? = #[Value.map (some B), .bool ((kindL m)[i]?.getD false), .bool (decide (0 < i)), .slice none 0 0, .int .i64 0, .int .i64 0, .slice none 0 0, .int .i64 0][j]?

/-- What Of gives: a slice of a mode's stages. -/
def OfGives (w w' : World) (m : Int) (e : Ending) : Prop :=
  ∃ b0 B cs, e = .returned (.tuple #[.slice (some ⟨b0, 0, none⟩) (kindL m).length (kindL m).length, .int .i64 0]) ∧ w.heap.size ≤ b0 ∧ w'.heap[b0]? = some (.cells cs 49 (0, 0)) ∧ cs.size = 8 * (kindL m).length ∧ Fresh cs B m (kindL m).length ∧ TabIn w' b0 B ∧ Fr (fun _ => False) w w'

set_option maxRecDepth 100000 in
set_option maxHeartbeats 1600000 in
theorem of_calls (m : Int) (w : World) (h0 : 0 ≤ m) (h3 : m ≤ 3) (hE : Env w) :
    Calls Tryd.prog 8 #[.int .i64 m] w fun e w' => OfGives w w' m e := by
  have HM : Hid (0 ≤ m ∧ m ≤ 3) := ⟨h0, h3⟩
  have HE : Hid (Env w) := hE
  clear hE h0 h3
  obtain ⟨n, hn⟩ : ∃ n, (kindL m).length = n := ⟨_, rfl⟩
  have hn1 : 1 ≤ n := by
    rcases modes HM.out.1 HM.out.2 with rfl | rfl | rfl | rfl <;> (subst hn; decide)
  have hn3 : n ≤ 3 := by
    rcases modes HM.out.1 HM.out.2 with rfl | rfl | rfl | rfl <;> (subst hn; decide)
  have hz : ((n : Int) == 0) = false := by rw [beq_eq_false_iff_ne]; omega
  have HN : Hid ((kindL m).length = n) := hn
  have hmk := make_stages hn1 hn3
  clear hn
  go_enter Tryd.func8, Tryd.ntmps8
  go_wp2_with (first
    | (go_at_call 13; refine (kindsOf_calls m _ HM.out.1 HM.out.2).mono ?_; rintro e w1 ⟨rfl, hw1⟩; rw [HN.out]; have f1 : Fr (fun _ => False) w w1 := hw1 ▸ (Fr.refl _ _).alloc _; have b1 : w1.heap[w.heap.size]? = some (.cells ((kindL m).map Value.bool).toArray 4 (0, 0)) := hw1 ▸ heap_alloc_new w _; have HB1 : Hid _ := b1; clear hw1 b1)
    | (go_at_call 14; refine (new_calls _ (HE.out.kept f1 (fun _ _ => id))).mono ?_; rintro e w2 ⟨B, f, rfl, p1, p2, p3, p4⟩; have HT : Hid (TabIn w2 w2.heap.size B ∧ Fr (fun _ => False) w1 w2) := ⟨TabIn.made p2 p3, p4⟩; clear p1 p2 p3 p4))
  have b3 : (w2.alloc (.cells (zeros n) 49)).heap[w2.heap.size]? = some (.cells (zeros n) 49 (0, 0)) := heap_alloc_new w2 _
  have f3 : Fr (fun x => x = w2.heap.size) w2 (w2.alloc (.cells (zeros n) 49)) := (Fr.refl _ _).alloc _
  have z3 : (zeros n).size = 8 * n := by
    rcases (by omega : n = 1 ∨ n = 2 ∨ n = 3) with rfl | rfl | rfl <;> rfl
  have HW3 : Hid ((w2.alloc (.cells (zeros n) 49)).heap[w2.heap.size]? = some (.cells (zeros n) 49 (0, 0)) ∧ Fr (fun x => x = w2.heap.size) w2 (w2.alloc (.cells (zeros n) 49)) ∧ (zeros n).size = 8 * n) := ⟨b3, f3, z3⟩
  clear b3 f3 z3
  go_loopw [20] (fun vi wr => ∃ k : Nat, vi = .int .i64 k ∧ k ≤ n ∧ Hid (∃ cs : Array Value, wr.heap[w2.heap.size]? = some (.cells cs 49 (0, 0)) ∧ cs.size = 8 * n ∧ Fresh cs B m k ∧ Fr (fun x => x = w2.heap.size) w2 wr)) (fun vi _ => n - (intOf vi).toNat)
  case atStart =>
    exact ⟨0, rfl, Nat.zero_le _, _, HW3.out.1, HW3.out.2.2, fun i hi => absurd hi (by omega), HW3.out.2.1⟩
  case round =>
    obtain ⟨k, rfl, hk, hh⟩ := hrel
    by_cases hlt : k < n
    · obtain ⟨cs, q1, q2, q3, q4⟩ := hh.out
      obtain ⟨b, hb⟩ : ∃ b, (kindL m)[k]? = some b := ⟨_, List.getElem?_eq_getElem (by rw [HN.out]; exact hlt)⟩
      have i0 : (0 : Int) ≤ (k : Int) := by omega
      have i1 : (k : Int) < (n : Int) := by omega
      have cK : wr.cell? ⟨w.heap.size, k, none⟩ = some (.bool b) := by
        have hl1 := lt_of HB1.out
        have s2 := HT.out.2.size
        exact cell_of ((q4.block w.heap.size (by omega) (by omega)).trans ((HT.out.2.block w.heap.size hl1 id).trans HB1.out)) (by simp [hb])
      have cz : ∀ j, j < 8 → ∃ x, wr.cell? ⟨w2.heap.size, k * 8 + j, none⟩ = some x := fun j hj => ⟨_, cell_of q1 (Array.getElem?_eq_getElem (by omega))⟩
      obtain ⟨x0, d0⟩ := cz 0 (by omega)
      obtain ⟨x1, d1⟩ := cz 1 (by omega)
      obtain ⟨x2, d2⟩ := cz 2 (by omega)
      obtain ⟨x3, d3⟩ := cz 3 (by omega)
      obtain ⟨x4, d4⟩ := cz 4 (by omega)
      obtain ⟨x5, d5⟩ := cz 5 (by omega)
      obtain ⟨x6, d6⟩ := cz 6 (by omega)
      obtain ⟨x7, d7⟩ := cz 7 (by omega)
      rw [Nat.add_zero] at d0
      have fz := frozen_of q1
      have HB : Hid ((kindL m)[k]? = some b) := hb
      have H3 : Hid (Fresh cs B m k ∧ Fr (fun x => x = w2.heap.size) w2 wr) := ⟨q3, q4⟩
      clear cz hb q3 q4 hh
      have HQ : Hid (wr.heap[w2.heap.size]? = some (.cells cs 49 (0, 0)) ∧ cs.size = 8 * n) := ⟨q1, q2⟩
      clear q1 q2
      go_wp2
      refine ⟨⟨k + 1, by go_num, by omega, ?_⟩, by simp [intOf]; omega⟩
      obtain ⟨cs', r1, r2, r3, r4⟩ := set8 HQ.out.1 (o := k * 8) (by have := HQ.out.2; omega) (.map (some B)) (.bool b) (.bool (decide (0 < k))) (.slice none 0 0) (.int .i64 0) (.int .i64 0) (.slice none 0 0) (.int .i64 0)
      have fA := H3.out.2
      refine ⟨cs', r1, r2.trans HQ.out.2, fun i hi j hj => ?_, (((((((((fA.setCell _ _ (fun _ => rfl)).setCell _ _ (fun _ => rfl)).setCell _ _ (fun _ => rfl)).setCell _ _ (fun _ => rfl)).setCell _ _ (fun _ => rfl)).setCell _ _ (fun _ => rfl)).setCell _ _ (fun _ => rfl)).setCell _ _ (fun _ => rfl)))⟩
      by_cases hik : i = k
      · subst hik
        rw [Nat.mul_comm 8 i, r3 j hj, HB.out]
        rfl
      · rw [r4 (8 * i + j) (by omega)]
        exact H3.out.1 i (by omega) j hj
    · obtain rfl : k = n := by omega
      go_wp2
      go_ret2
      obtain ⟨cs, q1, q2, q3, q4⟩ := hh.out
      have s1 := f1.size
      have s2 := HT.out.2.size
      have hN := HN.out
      unfold OfGives
      rw [hN]
      refine ⟨w2.heap.size, B, cs, rfl, by omega, q1, q2, q3, HT.out.1.kept q4 (fun x hx e => by omega), (f1.trans HT.out.2 (fun _ _ h => h)).trans q4 (fun i hi h => by omega)⟩

end Go.Proofs.YtmhaknejeobfgaaDoor

/- Clone. -/
namespace Go.Proofs.YtmhaknejeobfgaaDoor
open Go.RowKit Go.Proofs.YtmhaknejeobfgaaDoor.Points
attribute [local go_sem ↓] Go.wp_at_zero Go.wp_at_succ

theorem Tryd.info_stage : (Tryd.prog.info? 49).map (fun i => (i.zero, i.size, i.bytes)) = some (some (.agg #[.map none, .bool false, .bool false, .slice none 0 0, .int .i64 0, .int .i64 0, .slice none 0 0, .int .i64 0]), 8, 88) := by kernel_rfl


end Go.Proofs.YtmhaknejeobfgaaDoor

/- Begin1. -/
namespace Go.Proofs.YtmhaknejeobfgaaDoor
open Go.RowKit Go.Proofs.YtmhaknejeobfgaaDoor.Stable Go.Proofs.YtmhaknejeobfgaaDoor.Order Go.Proofs.YtmhaknejeobfgaaDoor.Points
attribute [local go_sem ↓] Go.wp_at_zero Go.wp_at_succ

theorem kind_at {m : Int} (h0 : 0 ≤ m) (h3 : m ≤ 3) : (kindL m).length = stagesOf m ∧ ∀ i, i < (kindL m).length → (kindL m)[i]?.getD false = (kindAt m i).1 ∧ decide (0 < i) = (kindAt m i).2 := by
  rcases modes h0 h3 with rfl | rfl | rfl | rfl
  · exact ⟨rfl, fun i hi => by
      have : i = 0 := by have : i < 1 := hi; omega
      subst this; exact ⟨rfl, rfl⟩⟩
  · exact ⟨rfl, fun i hi => by
      have : i = 0 := by have : i < 1 := hi; omega
      subst this; exact ⟨rfl, rfl⟩⟩
  · exact ⟨rfl, fun i hi => by
      have : i = 0 ∨ i = 1 := by have : i < 2 := hi; omega
      rcases this with rfl | rfl <;> exact ⟨rfl, rfl⟩⟩
  · exact ⟨rfl, fun i hi => by
      have : i = 0 ∨ i = 1 ∨ i = 2 := by have : i < 3 := hi; omega
      rcases this with rfl | rfl | rfl <;> exact ⟨rfl, rfl⟩⟩

theorem fresh_nil (w : World) {cs : Array Value} {o : Nat} (h0 : cs[o]? = some (.slice none 0 0)) (h1 : cs[o + 1]? = some (.int .i64 0)) : QIs w .i32 21 cs o none [] 0 := ⟨.slice none 0 0, [], h0, h1, ⟨rfl, .inl ⟨rfl, rfl⟩⟩, rfl, Nat.le_refl _, fun _ => rfl⟩

theorem inE_nil (ks : Nat → Bool × Bool) (es : Nat → Bool) : ∀ i, inE ks es [] i = []
  | 0 => rfl
  | i + 1 => by
    rw [inE, inE_nil ks es i]
    unfold outOf
    split <;> rfl

/-- Stages with nothing in them. -/
theorem sts_fresh {w : World} {hi b1 B n : Nat} {cs cs1 : Array Value} {m : Int} (h0 : 0 ≤ m) (h3 : m ≤ 3) (hn : (kindL m).length = n) (hb : w.heap[b1]? = some (.cells cs1 49 (0, 0))) (hc : ∀ i, i < 8 * n → cs1[i]? = cs[i]?) (hf : Fresh cs B m n) (ht : TabIn w hi B) (hh : hi ≤ b1) :
    StsIn w hi b1 49 B n (kindAt m) (gotE (kindAt m) (fun _ => false) []) (fun _ => false) (restR n []) (fun x => x = b1) := by
  have key : StsIn w hi b1 49 B n (kindAt m) (fun _ => []) (fun _ => false) (fun _ => []) (fun x => x = b1) := by
    refine ⟨cs1, fun _ => none, fun _ => none, ⟨hb, fun i hi => ?_, fun i j _ _ _ x hx => ?_⟩, fun x hx => ?_⟩
    · have hk := (kind_at h0 h3).2 i (by omega)
      have g : ∀ j, j < 8 → cs1[8 * i + j]? = #[Value.map (some B), .bool ((kindL m)[i]?.getD false), .bool (decide (0 < i)), .slice none 0 0, .int .i64 0, .int .i64 0, .slice none 0 0, .int .i64 0][j]? := fun j hj => (hc _ (by omega)).trans (hf i hi j hj)
      have g0 := g 0 (by omega)
      have g1 := g 1 (by omega)
      have g2 := g 2 (by omega)
      rw [hk.1] at g1
      rw [hk.2] at g2
      refine ⟨0, ⟨ht, g0, g1, g2, fresh_nil w (g 3 (by omega)) (g 4 (by omega)), g 5 (by omega), fresh_nil w (g 6 (by omega)) (g 7 (by omega)), by simp, by simp, fun x hx => (by cases hx), fun x hx => (by cases hx), fun x hx => (by cases hx), hh⟩, by simp [waitOf, feed]⟩
    · rcases hx with hx | hx <;> cases hx
    · rcases hx with hx | ⟨j, _, hx⟩
      · exact hx
      · rcases hx with hx | hx <;> cases hx
  refine key.congr (fun j hj => ⟨?_, rfl, ?_⟩)
  · unfold gotE
    rw [inE_nil]
    rfl
  · unfold restR
    split <;> rfl


end Go.Proofs.YtmhaknejeobfgaaDoor
