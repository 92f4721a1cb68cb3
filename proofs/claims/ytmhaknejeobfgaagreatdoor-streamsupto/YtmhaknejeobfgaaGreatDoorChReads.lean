/- A text that comes chunk by chunk, in memory: NewChunks, Ended, Reads, Read; where it gives up. A reader of chunks, in memory; the closure that reads on. A reader of chunks: readOn; Fetch: the next code point, the end, or the source gives up. A reader of chunks: Fetch: the next code point, the end, or the source gives up. Begin: a reader of chunks of which none was read. -/
import Derived.Test.YtmhaknejeobfgaaGreatDoorChPlain
import Derived.Test.YtmhaknejeobfgaaGreatDoorBase
import Derived.Test.YtmhaknejeobfgaaGreatDoorChecked
import Derived.Deep.QuietTactic
import Derived.BigQuiet
import Derived.BigRegion
import Derived.Deep.RegionHeld3
import Derived.Deep.DrawnRows
import Derived.Test.YtmhaknejeobfgaaGreatDoorChLines
import Derived.Deep.LoopGhost
import Derived.Test.YtmhaknejeobfgaaGreatDoorReaders

/- Source2. -/
namespace Go.Proofs.YtmhaknejeobfgaaGreatDoor
open Go.RowKit Go.Proofs.YtmhaknejeobfgaaGreatDoor.Stable Go.Proofs.YtmhaknejeobfgaaGreatDoor.Order Go.Proofs.YtmhaknejeobfgaaGreatDoor.Points
attribute [local go_sem ↓] Go.wp_at_zero Go.wp_at_succ

/-- A list of chunks in memory that is below hi. -/
def ChunksIn (w : World) (hi : Nat) (a : Option Addr) (L : List Chk) : Prop := ∀ (j : Nat) (c : Chk), L[j]? = some c → ∃ b off, a = some ⟨b, off, none⟩ ∧ b < hi ∧ b < w.heap.size ∧ w.cell? ⟨b, off + j * 2, none⟩ = some (.int .i64 c.1) ∧ w.cell? ⟨b, off + j * 2 + 1, none⟩ = some (.string ⟨c.2.toArray⟩) ∧ -9223372036854775808 ≤ c.1 ∧ c.1 ≤ 9223372036854775807

theorem ChunksIn.kept {w w' : World} {hi : Nat} {a : Option Addr} {L : List Chk} (h : ChunksIn w hi a L) {X : Nat → Prop} (f : Fr X w w') (hh : ∀ x, x < hi → ¬ X x) : ChunksIn w' hi a L := fun j c hj => by
  obtain ⟨b, off, h1, h2, h3, h4, h5, h6⟩ := h j c hj
  have e := f.block b h3 (hh b h2)
  exact ⟨b, off, h1, h2, by have := f.size; omega, (World.cell?_of_block (w := w) (a := ⟨b, off + j * 2, none⟩) e).trans h4, (World.cell?_of_block (w := w) (a := ⟨b, off + j * 2 + 1, none⟩) e).trans h5, h6⟩

/-- A source (its block bc) of which k chunks were read. -/
structure Src (w : World) (hi bc : Nat) (a : Option Addr) (cp : Nat) (L : List Chk) (k : Nat) : Prop where
  ls : ChunksIn w hi a L
  blk : w.heap[bc]? = some (.cells #[.slice a L.length cp, .int .i64 k, .int .i64 (idleOf (L.take k))] 127 (0, 0))
  le : k ≤ L.length
  len : L.length ≤ 1099511627776
  hb : hi ≤ bc

theorem Src.kept {w w' : World} {hi bc : Nat} {a : Option Addr} {cp : Nat} {L : List Chk} {k : Nat} (h : Src w hi bc a cp L k) {X : Nat → Prop} (f : Fr X w w') (hh : ∀ x, x < hi → ¬ X x) (hX : ¬ X bc) : Src w' hi bc a cp L k :=
  { h with ls := h.ls.kept f hh, blk := (f.block bc (lt_of h.blk) hX).trans h.blk }

/-- What a source panics with. -/
def upV (e : Int) : Value := .iface 159 (.agg #[.int .i64 e])

set_option maxRecDepth 100000 in
theorem newChunks_calls (w : World) (a : Option Addr) (n cp : Nat) :
    Calls Tryz.prog 48 #[.slice a n cp] w fun e w' => e = .returned (.pointer (some ⟨w.heap.size, 0, none⟩)) ∧ w' = w.alloc (.cells #[.slice a n cp, .int .i64 0, .int .i64 0] 127) := by
  go_enter Tryz.func48, Tryz.ntmps48
  go_wp2
  go_ret
  exact ⟨rfl, rfl⟩

set_option maxRecDepth 100000 in
theorem reads_calls {w : World} {bc k : Nat} (h : w.cell? ⟨bc, 1, none⟩ = some (.int .i64 k)) :
    Calls Tryz.prog 52 #[.pointer (some ⟨bc, 0, none⟩)] w fun e w' => e = .returned (.int .i64 k) ∧ w' = w := by
  go_enter Tryz.func52, Tryz.ntmps52
  go_wp2
  go_ret
  exact ⟨rfl, rfl⟩

set_option maxRecDepth 100000 in
theorem endedC_calls {w : World} {hi bc : Nat} {a : Option Addr} {cp : Nat} {L : List Chk} {k : Nat} (h : Src w hi bc a cp L k) :
    Calls Tryz.prog 85 #[.pointer (some ⟨bc, 0, none⟩)] w fun e w' => e = .returned (.bool (decide (k = L.length))) ∧ ∃ q, w' = w.drewN q := by
  have c0 : w.cell? ⟨bc, 0, none⟩ = some (.slice a L.length cp) := cell_of h.blk rfl
  have c1 : w.cell? ⟨bc, 1, none⟩ = some (.int .i64 k) := cell_of h.blk rfl
  obtain ⟨z, hz⟩ : ∃ z, z = decide (k = L.length) := ⟨_, rfl⟩
  have hz2 : ((k : Int) == (L.length : Int)) = z := by
    rw [hz]
    by_cases e : k = L.length
    · simp [e]
    · simp [e]
      omega
  rw [← hz]
  clear hz h
  go_enter Tryz.func85, Tryz.ntmps85
  go_wp2
  go_quiet (fail)
  go_wp2
  go_ret
  exact ⟨rfl, _, rfl⟩

set_option maxRecDepth 100000 in
/-- A kind that is Some. -/
theorem refuse_ok (w : World) : Calls Tryz.prog 86 #[.int .i64 0] w fun e w' => e = .returned (.tuple #[]) ∧ w' = w := by
  go_enter Tryz.func86, Tryz.ntmps86
  go_wp2
  go_end0
  exact ⟨rfl, rfl⟩

set_option maxRecDepth 100000 in
/-- A kind that is none. -/
theorem refuse_no (z : Int) (w : World) (h : z ≠ 0) : Calls Tryz.prog 86 #[.int .i64 z] w fun e w' => e = .panicked [{ v := upV (if z = 1 then 2 else 3), recovered := false }] ∧ w' = w := by
  have h0 : (z == 0) = false := by rw [beq_eq_false_iff_ne]; exact h
  by_cases h1 : z = 1
  · subst h1
    go_enter Tryz.func86, Tryz.ntmps86
    go_wp2
    exact ⟨rfl, rfl, rfl⟩
  · have h2 : (z == 1) = false := by rw [beq_eq_false_iff_ne]; exact h1
    rw [if_neg h1]
    go_enter Tryz.func86, Tryz.ntmps86
    go_wp2
    exact ⟨rfl, rfl, rfl⟩

set_option maxRecDepth 100000 in
theorem lose_some {w : World} {bc : Nat} {i : Int} (s : ByteArray) (hs : s.data.toList ≠ []) (c2 : w.cell? ⟨bc, 2, none⟩ = some (.int .i64 i)) (f2 : w.frozen? ⟨bc, 2, none⟩ = false) :
    Calls Tryz.prog 87 #[.pointer (some ⟨bc, 0, none⟩), .string s] w fun e w' => e = .returned (.tuple #[]) ∧ w' = w.setCell ⟨bc, 2, none⟩ (.int .i64 0) := by
  have hne : s.toList.isEmpty = false := by
    rw [Lib.toList_data]
    cases hd : s.data.toList with
    | nil => exact absurd hd hs
    | cons => rfl
  go_enter Tryz.func87, Tryz.ntmps87
  go_wp2
  try simp only [Exit.inBlock, Exit.then]
  refine bodyPost_ret (results_none rfl _ _ _) rfl ?_
  exact ⟨rfl, rfl⟩

set_option maxRecDepth 100000 in
theorem lose_none {w : World} {bc i : Nat} (s : ByteArray) (hs : s.data.toList = []) (hi : i + 1 ≠ 64) (hl : i + 1 ≤ 1099511627777) (c2 : w.cell? ⟨bc, 2, none⟩ = some (.int .i64 i)) (f2 : w.frozen? ⟨bc, 2, none⟩ = false) :
    Calls Tryz.prog 87 #[.pointer (some ⟨bc, 0, none⟩), .string s] w fun e w' => e = .returned (.tuple #[]) ∧ w' = w.setCell ⟨bc, 2, none⟩ (.int .i64 (i + 1 : Nat)) := by
  have hne : s.toList.isEmpty = true := by
    rw [Lib.toList_data, hs]
    rfl
  have hz : (((i : Int) + 1) == 64) = false := by rw [beq_eq_false_iff_ne]; omega
  rw [show ((i + 1 : Nat) : Int) = (i : Int) + 1 from by omega]
  go_enter Tryz.func87, Tryz.ntmps87
  go_wp2
  go_end0
  exact ⟨rfl, rfl⟩

set_option maxRecDepth 100000 in
theorem lose_all {w : World} {bc i : Nat} (s : ByteArray) (hs : s.data.toList = []) (hi : i + 1 = 64) (c2 : w.cell? ⟨bc, 2, none⟩ = some (.int .i64 i)) (f2 : w.frozen? ⟨bc, 2, none⟩ = false) :
    Calls Tryz.prog 87 #[.pointer (some ⟨bc, 0, none⟩), .string s] w fun e w' => e = .panicked [{ v := upV 4, recovered := false }] ∧ w' = w.setCell ⟨bc, 2, none⟩ (.int .i64 64) := by
  have hne : s.toList.isEmpty = true := by
    rw [Lib.toList_data, hs]
    rfl
  obtain rfl : i = 63 := by omega
  go_enter Tryz.func87, Tryz.ntmps87
  go_wp2
  exact ⟨rfl, rfl, rfl⟩

/-- What a Read leaves of a source. -/
def ReadIt (w w' : World) (hi bc : Nat) (a : Option Addr) (cp : Nat) (L : List Chk) (k : Nat) : Prop := Src w' hi bc a cp L (k + 1) ∧ Fr (fun x => x = bc) w w'

theorem idle_le (L : List Chk) : idleOf L ≤ L.length := by
  have : ∀ (l : List Chk) (n : Nat), l.foldl (fun n c => if c.2 = [] then n + 1 else 0) n ≤ n + l.length := by
    intro l
    induction l with
    | nil => intro n; simp
    | cons c r ih =>
      intro n
      rw [List.foldl_cons, List.length_cons]
      split
      · have := ih (n + 1); omega
      · have := ih 0; omega
  have := this L 0
  unfold idleOf
  omega

theorem src_two {w w1 : World} {hi bc : Nat} {a : Option Addr} {cp : Nat} {L : List Chk} {k : Nat} (h : Src w hi bc a cp L k) (hk : k < L.length) (f : Fr (fun _ => False) w w1) (i : Int) (hi' : i = idleOf (L.take (k + 1))) : ReadIt w ((w1.setCell ⟨bc, 1, none⟩ (.int .i64 ((k : Int) + 1))).setCell ⟨bc, 2, none⟩ (.int .i64 i)) hi bc a cp L k := by
  have f2 : Fr (fun x => x = bc) w ((w1.setCell ⟨bc, 1, none⟩ (.int .i64 ((k : Int) + 1))).setCell ⟨bc, 2, none⟩ (.int .i64 i)) := ((f.mono (S' := fun x => x = bc) (fun _ _ h => h.elim)).setCell ⟨bc, 1, none⟩ _ (fun _ => rfl)).setCell ⟨bc, 2, none⟩ _ (fun _ => rfl)
  have hb := h.hb
  refine ⟨⟨h.ls.kept f2 (fun x hx e => by omega), ?_, hk, h.len, h.hb⟩, f2⟩
  have h1 := (f.block bc (lt_of h.blk) id).trans h.blk
  have h2 := set_of (set_of h1 1 (.int .i64 ((k : Int) + 1))) 2 (.int .i64 i)
  rw [hi'] at h2 ⊢
  simpa using h2

set_option maxRecDepth 100000 in
set_option maxHeartbeats 1600000 in
theorem readC_calls {w : World} {hi bc : Nat} {a : Option Addr} {cp : Nat} {L : List Chk} {k : Nat} {c : Chk} (h : Src w hi bc a cp L k) (hc : L[k]? = some c) (hf : faultAt L k = 0) :
    Calls Tryz.prog 62 #[.pointer (some ⟨bc, 0, none⟩)] w fun e w' => e = .returned (.string ⟨c.2.toArray⟩) ∧ ReadIt w w' hi bc a cp L k := by
  have hk : k < L.length := (List.getElem?_eq_some_iff.1 hc).1
  obtain ⟨b, off, rfl, hb1, hb2, d0, d1, r0, r1⟩ := h.ls k c hc
  have c0 : w.cell? ⟨bc, 0, none⟩ = some (.slice (some ⟨b, off, none⟩) L.length cp) := cell_of h.blk rfl
  have c1 : w.cell? ⟨bc, 1, none⟩ = some (.int .i64 k) := cell_of h.blk rfl
  have f0 := frozen_of h.blk
  have hlen := h.len
  have i0 : (0 : Int) ≤ (k : Int) := by omega
  have i1 : (k : Int) < (L.length : Int) := by omega
  have hkd : decide (k = L.length) = false := by simp; omega
  have HEN : Hid (Calls Tryz.prog 85 #[.pointer (some ⟨bc, 0, none⟩)] w fun e w' => e = .returned (.bool false) ∧ ∃ q, w' = w.drewN q) := hkd ▸ endedC_calls h
  have HC : Hid (L[k]? = some c ∧ faultAt L k = 0 ∧ Src w hi bc (some ⟨b, off, none⟩) cp L k) := ⟨hc, hf, h⟩
  clear h hc hf hkd
  obtain ⟨kd, tx⟩ := c
  dsimp only at d0 d1 r0 r1 ⊢
  go_enter Tryz.func62, Tryz.ntmps62
  go_wp2_with (go_at_call 85; refine HEN.out.mono ?_; rintro e w1 ⟨rfl, q, rfl⟩)
  obtain ⟨W, hW⟩ : ∃ W, W = w.drewN q := ⟨_, rfl⟩
  have c0W : W.cell? ⟨bc, 0, none⟩ = some (.slice (some ⟨b, off, none⟩) L.length cp) := hW ▸ c0
  have c1W : W.cell? ⟨bc, 1, none⟩ = some (.int .i64 k) := hW ▸ c1
  have d0W : W.cell? ⟨b, off + k * 2, none⟩ = some (.int .i64 kd) := hW ▸ d0
  have d1W : W.cell? ⟨b, off + k * 2 + 1, none⟩ = some (.string ⟨tx.toArray⟩) := hW ▸ d1
  have f0W : ∀ o, W.frozen? ⟨bc, o, none⟩ = false := hW ▸ f0
  rw [← hW]
  have HW : Hid (W = w.drewN q) := hW
  clear hW c0 c1 d0 d1 f0
  have n0 : W.heap.size ≠ bc := World.new_ne W ⟨bc, 0, none⟩ c0W
  have n1 : W.heap.size ≠ b := World.new_ne W ⟨b, off + k * 2, none⟩ d0W
  have n2 := Ne.symm n0
  have n3 := Ne.symm n1
  go_region_held3 (fun w' => w'.cell? ⟨bc, 0, none⟩ = some (.slice (some ⟨b, off, none⟩) L.length cp) ∧ w'.cell? ⟨bc, 1, none⟩ = some (.int .i64 k) ∧ w'.cell? ⟨b, off + k * 2, none⟩ = some (.int .i64 kd) ∧ w'.cell? ⟨b, off + k * 2 + 1, none⟩ = some (.string ⟨tx.toArray⟩)) (go_keep) (fail)
  clear d0W d1W n1 n3
  rename_i hheld
  clear hheld
  have f5 : Fr (fun _ => False) w (W.alloc (.cells #[.int .i64 kd, .string ⟨tx.toArray⟩] 144)).drew := by
    rw [HW.out]
    exact (((Fr.refl _ _).drewN q).alloc _).drew
  have hnew : (W.alloc (.cells #[.int .i64 kd, .string ⟨tx.toArray⟩] 144)).drew.heap[W.heap.size]? = some (.cells #[.int .i64 kd, .string ⟨tx.toArray⟩] 144 (0, 0)) := heap_alloc_new W _
  generalize (W.alloc (.cells #[.int .i64 kd, .string ⟨tx.toArray⟩] 144)).drew = w5 at *
  obtain ⟨hc, hf, h⟩ := HC.out
  have hb5 : w5.heap[bc]? = some (.cells #[.slice (some ⟨b, off, none⟩) L.length cp, .int .i64 k, .int .i64 (idleOf (L.take k))] 127 (0, 0)) := (f5.block bc (lt_of h.blk) id).trans h.blk
  have k1 : w5.cell? ⟨bc, 1, none⟩ = some (.int .i64 k) := cell_of hb5 rfl
  have z1 := frozen_of hb5 1
  have hb6 : (w5.setCell ⟨bc, 1, none⟩ (.int .i64 ((k : Int) + 1))).heap[bc]? = some (.cells #[.slice (some ⟨b, off, none⟩) L.length cp, .int .i64 ((k : Int) + 1), .int .i64 (idleOf (L.take k))] 127 (0, 0)) := by
    have := set_of hb5 1 (.int .i64 ((k : Int) + 1))
    simpa using this
  have hn6 : ∀ v, (w5.setCell ⟨bc, 1, none⟩ v).heap[W.heap.size]? = some (.cells #[.int .i64 kd, .string ⟨tx.toArray⟩] 144 (0, 0)) := fun v => by
    rw [set_other n0]
    exact hnew
  have e0 : ∀ v, (w5.setCell ⟨bc, 1, none⟩ v).cell? ⟨W.heap.size, 0, none⟩ = some (.int .i64 kd) := fun v => cell_of (hn6 v) rfl
  have e1 : ∀ v, (w5.setCell ⟨bc, 1, none⟩ v).cell? ⟨W.heap.size, 1, none⟩ = some (.string ⟨tx.toArray⟩) := fun v => cell_of (hn6 v) rfl
  have hfb := faultAt_some hc
  rw [hf] at hfb
  obtain ⟨rfl, hid⟩ : kd = 0 ∧ idleOf (L.take k ++ [(kd, tx)]) ≠ 64 := by
    unfold faultBy at hfb
    dsimp only at hfb
    by_cases h1 : kd = 0
    · rw [if_pos h1] at hfb
      refine ⟨h1, fun h2 => ?_⟩
      rw [if_pos h2] at hfb
      omega
    · rw [if_neg h1] at hfb
      split at hfb <;> omega
  have hLS : Calls Tryz.prog 87 #[.pointer (some ⟨bc, 0, none⟩), .string ⟨tx.toArray⟩] (w5.setCell ⟨bc, 1, none⟩ (.int .i64 ((k : Int) + 1))) fun e w' => e = .returned (.tuple #[]) ∧ w' = (w5.setCell ⟨bc, 1, none⟩ (.int .i64 ((k : Int) + 1))).setCell ⟨bc, 2, none⟩ (.int .i64 (idleOf (L.take (k + 1)))) := by
    have c2 : (w5.setCell ⟨bc, 1, none⟩ (.int .i64 ((k : Int) + 1))).cell? ⟨bc, 2, none⟩ = some (.int .i64 (idleOf (L.take k))) := cell_of hb6 rfl
    rw [take_snoc hc]
    rw [idle_snoc] at hid ⊢
    dsimp only at hid ⊢
    by_cases ht : tx = []
    · rw [if_pos ht] at hid ⊢
      have hil := idle_le (L.take k)
      rw [List.length_take] at hil
      exact lose_none ⟨tx.toArray⟩ (by simpa using ht) hid (by omega) c2 (frozen_of hb6 2)
    · rw [if_neg ht]
      exact lose_some ⟨tx.toArray⟩ (by simpa using ht) c2 (frozen_of hb6 2)
  obtain ⟨w7, hw7⟩ : ∃ w7, w7 = (w5.setCell ⟨bc, 1, none⟩ (.int .i64 ((k : Int) + 1))).setCell ⟨bc, 2, none⟩ (.int .i64 (idleOf (L.take (k + 1)))) := ⟨_, rfl⟩
  have hn7 : w7.heap[W.heap.size]? = some (.cells #[.int .i64 0, .string ⟨tx.toArray⟩] 144 (0, 0)) := by
    rw [hw7, set_other n0]
    exact hn6 _
  have e2 : w7.cell? ⟨W.heap.size, 1, none⟩ = some (.string ⟨tx.toArray⟩) := cell_of hn7 rfl
  rw [← hw7] at hLS
  have HLS : Hid (Calls Tryz.prog 87 #[.pointer (some ⟨bc, 0, none⟩), .string ⟨tx.toArray⟩] (w5.setCell ⟨bc, 1, none⟩ (.int .i64 ((k : Int) + 1))) fun e w' => e = .returned (.tuple #[]) ∧ w' = w7) := hLS
  have HR : Hid (ReadIt w w7 hi bc (some ⟨b, off, none⟩) cp L k) := hw7 ▸ src_two h hk f5 _ rfl
  clear hLS hw7 hn7 hn6 hb6 hb5 hid hfb hf hc h hnew f5 HC
  go_wp2_with (first
    | (go_at_call 86; refine (refuse_ok _).mono ?_; rintro e w8 ⟨rfl, hw8⟩; have hw9 := hw8.symm; subst hw9; clear hw8)
    | (go_at_call 87; refine HLS.out.mono ?_; rintro e w8 ⟨rfl, hw8⟩; have hw9 := hw8.symm; subst hw9; clear hw8))
  go_ret
  exact ⟨rfl, HR.out⟩

set_option maxRecDepth 100000 in
set_option maxHeartbeats 1600000 in
theorem readC_no {w : World} {hi bc : Nat} {a : Option Addr} {cp : Nat} {L : List Chk} {k : Nat} {c : Chk} (h : Src w hi bc a cp L k) (hc : L[k]? = some c) (hf : faultAt L k ≠ 0) :
    Calls Tryz.prog 62 #[.pointer (some ⟨bc, 0, none⟩)] w fun e w' => e = .panicked [{ v := upV (faultAt L k), recovered := false }] ∧ w'.cell? ⟨bc, 1, none⟩ = some (.int .i64 ((k : Int) + 1)) ∧ Fr (fun x => x = bc) w w' := by
  have hk : k < L.length := (List.getElem?_eq_some_iff.1 hc).1
  obtain ⟨b, off, rfl, hb1, hb2, d0, d1, r0, r1⟩ := h.ls k c hc
  have c0 : w.cell? ⟨bc, 0, none⟩ = some (.slice (some ⟨b, off, none⟩) L.length cp) := cell_of h.blk rfl
  have c1 : w.cell? ⟨bc, 1, none⟩ = some (.int .i64 k) := cell_of h.blk rfl
  have f0 := frozen_of h.blk
  have hlen := h.len
  have i0 : (0 : Int) ≤ (k : Int) := by omega
  have i1 : (k : Int) < (L.length : Int) := by omega
  have hkd : decide (k = L.length) = false := by simp; omega
  have HEN : Hid (Calls Tryz.prog 85 #[.pointer (some ⟨bc, 0, none⟩)] w fun e w' => e = .returned (.bool false) ∧ ∃ q, w' = w.drewN q) := hkd ▸ endedC_calls h
  have HC : Hid (L[k]? = some c ∧ faultAt L k ≠ 0 ∧ Src w hi bc (some ⟨b, off, none⟩) cp L k) := ⟨hc, hf, h⟩
  clear h hc hf hkd
  obtain ⟨kd, tx⟩ := c
  dsimp only at d0 d1 r0 r1
  obtain ⟨er, her⟩ : ∃ er, er = faultAt L k := ⟨_, rfl⟩
  rw [← her]
  have HER : Hid (er = faultAt L k) := her
  clear her
  go_enter Tryz.func62, Tryz.ntmps62
  go_wp2_with (go_at_call 85; refine HEN.out.mono ?_; rintro e w1 ⟨rfl, q, rfl⟩)
  obtain ⟨W, hW⟩ : ∃ W, W = w.drewN q := ⟨_, rfl⟩
  have c0W : W.cell? ⟨bc, 0, none⟩ = some (.slice (some ⟨b, off, none⟩) L.length cp) := hW ▸ c0
  have c1W : W.cell? ⟨bc, 1, none⟩ = some (.int .i64 k) := hW ▸ c1
  have d0W : W.cell? ⟨b, off + k * 2, none⟩ = some (.int .i64 kd) := hW ▸ d0
  have d1W : W.cell? ⟨b, off + k * 2 + 1, none⟩ = some (.string ⟨tx.toArray⟩) := hW ▸ d1
  have f0W : ∀ o, W.frozen? ⟨bc, o, none⟩ = false := hW ▸ f0
  rw [← hW]
  have HW : Hid (W = w.drewN q) := hW
  clear hW c0 c1 d0 d1 f0
  have n0 : W.heap.size ≠ bc := World.new_ne W ⟨bc, 0, none⟩ c0W
  have n1 : W.heap.size ≠ b := World.new_ne W ⟨b, off + k * 2, none⟩ d0W
  have n2 := Ne.symm n0
  have n3 := Ne.symm n1
  go_region_held3 (fun w' => w'.cell? ⟨bc, 0, none⟩ = some (.slice (some ⟨b, off, none⟩) L.length cp) ∧ w'.cell? ⟨bc, 1, none⟩ = some (.int .i64 k) ∧ w'.cell? ⟨b, off + k * 2, none⟩ = some (.int .i64 kd) ∧ w'.cell? ⟨b, off + k * 2 + 1, none⟩ = some (.string ⟨tx.toArray⟩)) (go_keep) (fail)
  clear d0W d1W n1 n3
  rename_i hheld
  clear hheld
  have f5 : Fr (fun _ => False) w (W.alloc (.cells #[.int .i64 kd, .string ⟨tx.toArray⟩] 144)).drew := by
    rw [HW.out]
    exact (((Fr.refl _ _).drewN q).alloc _).drew
  have hnew : (W.alloc (.cells #[.int .i64 kd, .string ⟨tx.toArray⟩] 144)).drew.heap[W.heap.size]? = some (.cells #[.int .i64 kd, .string ⟨tx.toArray⟩] 144 (0, 0)) := heap_alloc_new W _
  generalize (W.alloc (.cells #[.int .i64 kd, .string ⟨tx.toArray⟩] 144)).drew = w5 at *
  obtain ⟨hc, hf, h⟩ := HC.out
  have hb5 : w5.heap[bc]? = some (.cells #[.slice (some ⟨b, off, none⟩) L.length cp, .int .i64 k, .int .i64 (idleOf (L.take k))] 127 (0, 0)) := (f5.block bc (lt_of h.blk) id).trans h.blk
  have k1 : w5.cell? ⟨bc, 1, none⟩ = some (.int .i64 k) := cell_of hb5 rfl
  have z1 := frozen_of hb5 1
  have hb6 : (w5.setCell ⟨bc, 1, none⟩ (.int .i64 ((k : Int) + 1))).heap[bc]? = some (.cells #[.slice (some ⟨b, off, none⟩) L.length cp, .int .i64 ((k : Int) + 1), .int .i64 (idleOf (L.take k))] 127 (0, 0)) := by
    have := set_of hb5 1 (.int .i64 ((k : Int) + 1))
    simpa using this
  have hn6 : ∀ v, (w5.setCell ⟨bc, 1, none⟩ v).heap[W.heap.size]? = some (.cells #[.int .i64 kd, .string ⟨tx.toArray⟩] 144 (0, 0)) := fun v => by
    rw [set_other n0]
    exact hnew
  have e0 : ∀ v, (w5.setCell ⟨bc, 1, none⟩ v).cell? ⟨W.heap.size, 0, none⟩ = some (.int .i64 kd) := fun v => cell_of (hn6 v) rfl
  have e1 : ∀ v, (w5.setCell ⟨bc, 1, none⟩ v).cell? ⟨W.heap.size, 1, none⟩ = some (.string ⟨tx.toArray⟩) := fun v => cell_of (hn6 v) rfl
  have hfb := faultAt_some hc
  have f6 : Fr (fun x => x = bc) w (w5.setCell ⟨bc, 1, none⟩ (.int .i64 ((k : Int) + 1))) := (f5.mono (S' := fun x => x = bc) (fun _ _ h => h.elim)).setCell ⟨bc, 1, none⟩ _ (fun _ => rfl)
  by_cases h1 : kd = 0
  · subst h1
    have hid : idleOf (L.take k ++ [((0 : Int), tx)]) = 64 := by
      unfold faultBy at hfb
      dsimp only at hfb
      rw [if_pos rfl] at hfb
      by_cases h2 : idleOf (L.take k ++ [((0 : Int), tx)]) = 64
      · exact h2
      · rw [if_neg h2] at hfb
        exact absurd hfb hf
    have he4 : er = 4 := by
      rw [HER.out, hfb]
      unfold faultBy
      dsimp only
      rw [if_pos rfl, if_pos hid]
    subst he4
    rw [idle_snoc] at hid
    dsimp only at hid
    have ht : tx = [] := by
      by_cases ht : tx = []
      · exact ht
      · rw [if_neg ht] at hid
        omega
    rw [if_pos ht] at hid
    have c2 : (w5.setCell ⟨bc, 1, none⟩ (.int .i64 ((k : Int) + 1))).cell? ⟨bc, 2, none⟩ = some (.int .i64 (idleOf (L.take k))) := cell_of hb6 rfl
    have HLS : Hid (Calls Tryz.prog 87 #[.pointer (some ⟨bc, 0, none⟩), .string ⟨tx.toArray⟩] (w5.setCell ⟨bc, 1, none⟩ (.int .i64 ((k : Int) + 1))) fun e w' => e = .panicked [{ v := upV 4, recovered := false }] ∧ w' = (w5.setCell ⟨bc, 1, none⟩ (.int .i64 ((k : Int) + 1))).setCell ⟨bc, 2, none⟩ (.int .i64 64)) := lose_all ⟨tx.toArray⟩ (by simpa using ht) hid c2 (frozen_of hb6 2)
    have HEN2 : Hid ((((w5.setCell ⟨bc, 1, none⟩ (.int .i64 ((k : Int) + 1))).setCell ⟨bc, 2, none⟩ (.int .i64 64))).cell? ⟨bc, 1, none⟩ = some (.int .i64 ((k : Int) + 1)) ∧ Fr (fun x => x = bc) w (((w5.setCell ⟨bc, 1, none⟩ (.int .i64 ((k : Int) + 1))).setCell ⟨bc, 2, none⟩ (.int .i64 64)))) := by
      refine ⟨?_, f6.setCell ⟨bc, 2, none⟩ _ (fun _ => rfl)⟩
      have h7 := set_of hb6 2 (.int .i64 64)
      exact cell_of h7 rfl
    clear c2 hid ht hfb hf hc h hnew f5 f6 HC hb6 hb5 hn6 HER
    go_wp2_with (first
      | (go_at_call 86; refine (refuse_ok _).mono ?_; rintro e w8 ⟨rfl, hw8⟩; have hw9 := hw8.symm; subst hw9; clear hw8)
      | (go_at_call 87; refine HLS.out.mono ?_; rintro e w8 ⟨rfl, hw8⟩; have hw9 := hw8.symm; subst hw9; clear hw8))
    exact ⟨rfl, rfl, HEN2.out⟩
  · have he : er = if kd = 1 then 2 else 3 := by
      rw [HER.out, hfb]
      unfold faultBy
      dsimp only
      rw [if_neg h1]
    have HRE : Hid (Calls Tryz.prog 86 #[.int .i64 kd] (w5.setCell ⟨bc, 1, none⟩ (.int .i64 ((k : Int) + 1))) fun e w' => e = .panicked [{ v := upV er, recovered := false }] ∧ w' = w5.setCell ⟨bc, 1, none⟩ (.int .i64 ((k : Int) + 1))) := he ▸ refuse_no kd _ h1
    have HEN2 : Hid ((w5.setCell ⟨bc, 1, none⟩ (.int .i64 ((k : Int) + 1))).cell? ⟨bc, 1, none⟩ = some (.int .i64 ((k : Int) + 1)) ∧ Fr (fun x => x = bc) w (w5.setCell ⟨bc, 1, none⟩ (.int .i64 ((k : Int) + 1)))) := ⟨cell_of hb6 rfl, f6⟩
    clear hfb hf hc h hnew f5 f6 HC hb6 hb5 hn6 HER he h1
    go_wp2_with (go_at_call 86; refine HRE.out.mono ?_; rintro e w8 ⟨rfl, hw8⟩; have hw9 := hw8.symm; subst hw9; clear hw8)
    exact ⟨rfl, rfl, HEN2.out⟩

end Go.Proofs.YtmhaknejeobfgaaGreatDoor

/- ReaderC1. -/
namespace Go.Proofs.YtmhaknejeobfgaaGreatDoor
open Go.RowKit Go.Proofs.YtmhaknejeobfgaaGreatDoor.Stable Go.Proofs.YtmhaknejeobfgaaGreatDoor.Order Go.Proofs.YtmhaknejeobfgaaGreatDoor.Points
attribute [local go_sem ↓] Go.wp_at_zero Go.wp_at_succ

/-- The bytes that wait behind k reads. -/
def waitsIn (L : List Chk) (k : Nat) (e : Bool) : List UInt8 := if e = true then [] else left (bytesOf (L.take k))

/-- A reader's block. -/
def rdC (_ bc bl bvr bvs : Nat) (e : Bool) : Obj := .cells #[.iface 89 (.pointer (some ⟨bc, 0, none⟩)), .pointer (some ⟨bl, 0, none⟩), .func (.func 60) #[] #[.pointer (some ⟨bvr, 0, none⟩), .pointer (some ⟨bvs, 0, none⟩)], .bool e] 112 (0, 0)

/-- A reader (br) of chunks (bc), with its line (bl) and stages (bs): k chunks were read; e: it has ended; R is released and was not taken. -/
structure Rc (w : World) (hi br bc bl bvr bvs bs cp B : Nat) (a : Option Addr) (cpl : Nat) (m : Int) (L : List Chk) (k : Nat) (e : Bool) (R : List Int) (S : Nat → Prop) (N : Nat) : Prop where
  rd : w.heap[br]? = some (rdC br bc bl bvr bvs e)
  src : Src w hi bc a cpl L k
  vr : w.heap[bvr]? = some (.cells #[.pointer (some ⟨br, 0, none⟩)] 71 (0, 0))
  vs : w.heap[bvs]? = some (.cells #[.pointer (some ⟨bc, 0, none⟩)] 89 (0, 0))
  ln : Lin w hi bl bs cp B (stagesOf m) (kindAt m) (goneIn L k e) (waitsIn L k e) e R S N
  nS : ¬ S br ∧ ¬ S bc ∧ ¬ S bvr ∧ ¬ S bvs
  ne : br ≠ bc ∧ br ≠ bvr ∧ br ≠ bvs ∧ bc ≠ bvr ∧ bc ≠ bvs
  hib : hi ≤ br ∧ 11 ≤ hi
  env : Env w
  ke : e = true → k = L.length
  bd : 432 * (bytesOf L).length ≤ 1099511627776
  hN : N ≤ (bytesOf (L.take k)).length

/-- Behind a step that left the closure's variables alone. -/
theorem Rc.step {w w' : World} {hi br bc bl bvr bvs bs cp B : Nat} {a : Option Addr} {cpl : Nat} {m : Int} {L : List Chk} {k k' : Nat} {e e' : Bool} {R R' : List Int} {S X : Nat → Prop} {N N' : Nat} (H : Rc w hi br bc bl bvr bvs bs cp B a cpl m L k e R S N) (f : Fr X w w') (hX : ¬ X bvr ∧ ¬ X bvs) (hl : ∀ x, x < hi → ¬ X x)
    (rd : w'.heap[br]? = some (rdC br bc bl bvr bvs e')) (src : Src w' hi bc a cpl L k') (ln : Lin w' hi bl bs cp B (stagesOf m) (kindAt m) (goneIn L k' e') (waitsIn L k' e') e' R' (fun x => S x ∨ w.heap.size ≤ x) N') (ke : e' = true → k' = L.length) (hN : N' ≤ (bytesOf (L.take k')).length) : Rc w' hi br bc bl bvr bvs bs cp B a cpl m L k' e' R' (fun x => S x ∨ w.heap.size ≤ x) N' := by
  obtain ⟨s1, s2, s3, s4⟩ := H.nS
  have l1 := lt_of H.rd
  have l2 := lt_of H.src.blk
  have l3 := lt_of H.vr
  have l4 := lt_of H.vs
  have hb := H.hib
  exact ⟨rd, src, (f.block bvr l3 hX.1).trans H.vr, (f.block bvs l4 hX.2).trans H.vs, ln, ⟨fun h => h.elim s1 (fun h => by omega), fun h => h.elim s2 (fun h => by omega), fun h => h.elim s3 (fun h => by omega), fun h => h.elim s4 (fun h => by omega)⟩, H.ne, hb, H.env.kept f (fun x hx => hl x (by omega)), ke, H.bd, hN⟩

theorem take_le {L : List Chk} (k : Nat) : (bytesOf (L.take k)).length ≤ (bytesOf L).length := by
  have : bytesOf L = bytesOf (L.take k) ++ bytesOf (L.drop k) := by rw [← bytes_append, List.take_append_drop]
  rw [this, List.length_append]
  omega

theorem gone_le (L : List Chk) (k : Nat) (e : Bool) : (goneIn L k e).length + (waitsIn L k e).length ≤ (bytesOf (L.take k)).length := by
  unfold goneIn waitsIn
  cases e with
  | true =>
    simp only [if_true]
    have := codes_len (bytesOf (L.take k))
    simp
    omega
  | false =>
    simp only [Bool.false_eq_true, if_false]
    exact sure_length _

theorem Rc.gone {w : World} {hi br bc bl bvr bvs bs cp B : Nat} {a : Option Addr} {cpl : Nat} {m : Int} {L : List Chk} {k : Nat} {e : Bool} {R : List Int} {S : Nat → Prop} {N : Nat} (H : Rc w hi br bc bl bvr bvs bs cp B a cpl m L k e R S N) : 432 * (goneIn L k e).length ≤ 1099511627776 := by
  have h1 := gone_le L k e
  have h2 := take_le (L := L) k
  have h3 := H.bd
  omega

theorem gone_next {L : List Chk} {k : Nat} {c : Chk} (h : L[k]? = some c) : goneIn L (k + 1) false = goneIn L k false ++ sure (waitsIn L k false ++ c.2) ∧ waitsIn L (k + 1) false = left (waitsIn L k false ++ c.2) := by
  unfold goneIn waitsIn
  simp only [Bool.false_eq_true, if_false]
  rw [take_snoc h, bytes_snoc]
  exact ⟨sure_app _ _, left_app _ _⟩

theorem gone_end (L : List Chk) (k : Nat) : goneIn L k true = goneIn L k false ++ codes (waitsIn L k false) ∧ waitsIn L k true = [] := by
  unfold goneIn waitsIn
  simp only [if_true, Bool.false_eq_true, if_false]
  exact ⟨codes_left _, trivial⟩

/-- What reading on leaves. -/
def ReadOnC (w w' : World) (hi br bc bl bvr bvs bs cp B : Nat) (a : Option Addr) (cpl : Nat) (m : Int) (L : List Chk) (k : Nat) (R : List Int) (S : Nat → Prop) : Prop :=
  ∃ d N, relOf m L (k + 1) false = relOf m L k false ++ d ∧ Rc w' hi br bc bl bvr bvs bs cp B a cpl m L (k + 1) false (R ++ d) (fun x => S x ∨ w.heap.size ≤ x) N ∧ Fr (fun x => x = bc ∨ S x) w w'

theorem readC_done {w w1 w2 : World} {hi br bc bl bvr bvs bs cp B : Nat} {a : Option Addr} {cpl : Nat} {m : Int} {L : List Chk} {k : Nat} {R : List Int} {S : Nat → Prop} {N : Nat} {c : Chk} (H : Rc w hi br bc bl bvr bvs bs cp B a cpl m L k false R S N) (hc : L[k]? = some c) (hr : ReadIt w w1 hi bc a cpl L k) (hp : PutLeaves w1 w2 hi bl bs cp B (stagesOf m) (kindAt m) (goneIn L k false) (waitsIn L k false ++ c.2) R S (N + c.2.length)) : ReadOnC w w2 hi br bc bl bvr bvs bs cp B a cpl m L k R S := by
  obtain ⟨d, hd, hL, hf⟩ := hp
  obtain ⟨g1, g2⟩ := gone_next hc
  obtain ⟨s1, s2, s3, s4⟩ := H.nS
  obtain ⟨e1, e2, e3, e4, e5⟩ := H.ne
  have hlt := H.ln.lt
  have hsz := hr.2.size
  have hb := H.src.hb
  have fA : Fr (fun x => x = bc ∨ S x) w w2 := (hr.2.mono (S' := fun x => x = bc ∨ S x) (fun _ _ h => .inl h)).trans hf (fun _ _ h => .inr h)
  refine ⟨d, N + c.2.length, ?_, ?_, fA⟩
  · unfold relOf
    rw [g1]
    exact hd
  · refine H.step fA ⟨fun h => h.elim (Ne.symm e4) s3, fun h => h.elim (Ne.symm e5) s4⟩ (fun x hx h => ?_) ((hf.block br (by have := lt_of H.rd; omega) s1).trans ((hr.2.block br (lt_of H.rd) e1).trans H.rd)) (hr.1.kept hf (fun x hx h => ?_) s2) ?_ (fun h => by cases h) ?_
    · rcases h with h | h
      · omega
      · have := H.ln.hiS x h; omega
    · have := H.ln.hiS x h; omega
    · rw [g1, g2]
      exact hL.mono (fun x hx => hx.elim .inl (fun h => .inr (by omega))) (fun x hx => hx.elim (H.ln.hiS x) (fun h => by omega)) (Nat.le_refl _)
    · have := H.hN
      rw [take_snoc hc, bytes_snoc, List.length_append]
      omega

set_option maxRecDepth 100000 in
set_option maxHeartbeats 800000 in
/-- The closure that reads on. -/
theorem readOnC_calls {w : World} {hi br bc bl bvr bvs bs cp B : Nat} {a : Option Addr} {cpl : Nat} {m : Int} {L : List Chk} {k : Nat} {R : List Int} {S : Nat → Prop} {N : Nat} {c : Chk} (H : Rc w hi br bc bl bvr bvs bs cp B a cpl m L k false R S N) (hc : L[k]? = some c) (hf : faultAt L k = 0) :
    Calls Tryz.prog 60 #[.pointer (some ⟨bvr, 0, none⟩), .pointer (some ⟨bvs, 0, none⟩)] w fun e w' => e = .returned (.tuple #[]) ∧ ReadOnC w w' hi br bc bl bvr bvs bs cp B a cpl m L k R S := by
  have c1 : w.cell? ⟨bvr, 0, none⟩ = some (.pointer (some ⟨br, 0, none⟩)) := cell_of H.vr rfl
  have c2 : w.cell? ⟨bvs, 0, none⟩ = some (.pointer (some ⟨bc, 0, none⟩)) := cell_of H.vs rfl
  have c3 : w.cell? ⟨br, 1, none⟩ = some (.pointer (some ⟨bl, 0, none⟩)) := cell_of H.rd rfl
  have HH : Hid (Rc w hi br bc bl bvr bvs bs cp B a cpl m L k false R S N ∧ L[k]? = some c ∧ faultAt L k = 0) := ⟨H, hc, hf⟩
  have HRD : Hid (∀ q, Calls Tryz.prog 62 #[.pointer (some ⟨bc, 0, none⟩)] (w.drewN q) fun e w' => e = .returned (.string ⟨c.2.toArray⟩) ∧ ReadIt w w' hi bc a cpl L k) := Hid.mk0 (fun q => by
    have f := (Fr.refl (fun _ => False) w).drewN q
    refine (readC_calls (H.src.kept f (fun _ _ => id) id) hc hf).mono ?_
    rintro e w' ⟨rfl, h1, h2⟩
    exact ⟨rfl, h1, (f.mono (fun _ _ h => h.elim)).trans h2 (fun _ _ h => h)⟩)
  have HPT : Hid (∀ w1, ReadIt w w1 hi bc a cpl L k → (Calls Tryz.prog 61 #[.pointer (some ⟨bl, 0, none⟩), .string ⟨c.2.toArray⟩] w1 fun e w2 => e = .returned (.tuple #[]) ∧ ReadOnC w w2 hi br bc bl bvr bvs bs cp B a cpl m L k R S)) := Hid.mk0 (fun w1 hr => by
    have hb := H.src.hb
    have hlow : ∀ x, x < hi → ¬ x = bc := fun x hx e => by omega
    have hsz : (⟨c.2.toArray⟩ : ByteArray).data.toList = c.2 := rfl
    have hln := H.ln.kept hr.2 (fun x hx e => H.nS.2.1 (e ▸ hx)) hlow
    have hg := gone_le L k false
    have ht := take_le (L := L) (k + 1)
    rw [take_snoc hc, bytes_snoc, List.length_append] at ht
    have hbd := H.bd
    have hN := H.hN
    refine (linePut_calls ⟨c.2.toArray⟩ hln (H.env.kept hr.2 (fun x hx => hlow x (by have := H.hib; omega))) H.hib.2 (by rw [hsz, List.length_append]; omega) (by rw [hsz]; omega)).mono ?_
    rintro e w2 ⟨rfl, hp⟩
    exact ⟨rfl, readC_done H hc hr hp⟩)
  have HK : Hid (∀ w1, ReadIt w w1 hi bc a cpl L k → w1.cell? ⟨bvr, 0, none⟩ = some (.pointer (some ⟨br, 0, none⟩)) ∧ w1.cell? ⟨bvs, 0, none⟩ = some (.pointer (some ⟨bc, 0, none⟩)) ∧ w1.cell? ⟨br, 1, none⟩ = some (.pointer (some ⟨bl, 0, none⟩))) := Hid.mk0 (fun w1 hr => by
    obtain ⟨e1, e2, e3, e4, e5⟩ := H.ne
    exact ⟨cell_of ((hr.2.block bvr (lt_of H.vr) (Ne.symm e4)).trans H.vr) rfl, cell_of ((hr.2.block bvs (lt_of H.vs) (Ne.symm e5)).trans H.vs) rfl, cell_of ((hr.2.block br (lt_of H.rd) e1).trans H.rd) rfl⟩)
  have HK2 : Hid (∀ w2, ReadOnC w w2 hi br bc bl bvr bvs bs cp B a cpl m L k R S → w2.cell? ⟨bvr, 0, none⟩ = some (.pointer (some ⟨br, 0, none⟩)) ∧ w2.cell? ⟨bvs, 0, none⟩ = some (.pointer (some ⟨bc, 0, none⟩)) ∧ w2.cell? ⟨br, 1, none⟩ = some (.pointer (some ⟨bl, 0, none⟩))) := Hid.mk0 (fun w2 hr => by
    obtain ⟨d, N', _, h2, _⟩ := hr
    exact ⟨cell_of h2.vr rfl, cell_of h2.vs rfl, cell_of h2.rd rfl⟩)
  clear H hc hf
  go_enter Tryz.func60, Tryz.ntmps60
  go_wp2_with fail
  go_region_held3 (fun w' => w'.cell? ⟨bvr, 0, none⟩ = some (.pointer (some ⟨br, 0, none⟩)) ∧ w'.cell? ⟨bvs, 0, none⟩ = some (.pointer (some ⟨bc, 0, none⟩)) ∧ w'.cell? ⟨br, 1, none⟩ = some (.pointer (some ⟨bl, 0, none⟩))) (go_keep)
    (first
      | (go_at_call 62; refine (HRD.out 1).mono ?_; rintro e w1 ⟨rfl, hr⟩; obtain ⟨d1, d2, d3⟩ := HK.out w1 hr; have HR1 : Hid (ReadIt w w1 hi bc a cpl L k) := hr; clear hr)
      | (go_at_call 61; refine (HPT.out _ HR1.out).mono ?_; rintro e w2 ⟨rfl, hro⟩; obtain ⟨g1, g2, g3⟩ := HK2.out w2 hro; have HRO : Hid (ReadOnC w w2 hi br bc bl bvr bvs bs cp B a cpl m L k R S) := hro; clear hro))
  go_wp2
  go_end0
  exact ⟨rfl, HRO.out⟩

set_option maxRecDepth 100000 in
set_option maxHeartbeats 800000 in
/-- The closure, where the source gives up. -/
theorem readOnC_no {w : World} {hi br bc bl bvr bvs bs cp B : Nat} {a : Option Addr} {cpl : Nat} {m : Int} {L : List Chk} {k : Nat} {R : List Int} {S : Nat → Prop} {N : Nat} {c : Chk} (H : Rc w hi br bc bl bvr bvs bs cp B a cpl m L k false R S N) (hc : L[k]? = some c) (hf : faultAt L k ≠ 0) :
    Calls Tryz.prog 60 #[.pointer (some ⟨bvr, 0, none⟩), .pointer (some ⟨bvs, 0, none⟩)] w fun e w' => e = .panicked [{ v := upV (faultAt L k), recovered := false }] ∧ w'.cell? ⟨bc, 1, none⟩ = some (.int .i64 ((k : Int) + 1)) ∧ Fr (fun x => x = bc) w w' := by
  have c1 : w.cell? ⟨bvr, 0, none⟩ = some (.pointer (some ⟨br, 0, none⟩)) := cell_of H.vr rfl
  have c2 : w.cell? ⟨bvs, 0, none⟩ = some (.pointer (some ⟨bc, 0, none⟩)) := cell_of H.vs rfl
  have c3 : w.cell? ⟨br, 1, none⟩ = some (.pointer (some ⟨bl, 0, none⟩)) := cell_of H.rd rfl
  have HRD : Hid (∀ q, Calls Tryz.prog 62 #[.pointer (some ⟨bc, 0, none⟩)] (w.drewN q) fun e w' => e = .panicked [{ v := upV (faultAt L k), recovered := false }] ∧ w'.cell? ⟨bc, 1, none⟩ = some (.int .i64 ((k : Int) + 1)) ∧ Fr (fun x => x = bc) w w') := Hid.mk0 (fun q => by
    have f := (Fr.refl (fun _ => False) w).drewN q
    refine (readC_no (H.src.kept f (fun _ _ => id) id) hc hf).mono ?_
    rintro e w' ⟨rfl, h1, h2⟩
    exact ⟨rfl, h1, (f.mono (fun _ _ h => h.elim)).trans h2 (fun _ _ h => h)⟩)
  clear H hc hf
  go_enter Tryz.func60, Tryz.ntmps60
  go_wp2_with fail
  refine wp_region_any (by kernel_rfl) ?_
  change wpAny _ _ _ _ _ _ _ (World.drew _)
  refine wpAny_ready (rs := [0, 4]) (by kernel_rfl) (by simp) ?_
  refine AllReady.cons rfl (fun K hK => ?_) ?_
  · go_simp
    refine hK _ _ ?_
    clear hK K
    refine wpAny_ready (rs := [1, 4]) (by kernel_rfl) (by simp) ?_
    refine AllReady.cons rfl (fun K hK => ?_) ?_
    · go_simp
      refine hK _ _ ?_
      clear hK K
      refine wpAny_ready (rs := [2, 4]) (by kernel_rfl) (by simp) ?_
      refine AllReady.cons rfl (fun K hK => ?_) ?_
      · go_simp
        refine hK _ _ ?_
        clear hK K
        refine wpAny_ready (rs := [3, 4]) (by kernel_rfl) (by simp) ?_
        refine AllReady.cons rfl (fun K hK => ?_) ?_
        · go_simp
          refine hK _ _ ?_
          clear hK K
          refine wpAny_ready (rs := [4]) (by kernel_rfl) (by simp) ?_
          refine AllReady.cons rfl (fun K hK => ?_) ?_
          · go_simp
            refine hK _ _ ?_
            clear hK K
            refine wpAny_ready (rs := [5]) (by kernel_rfl) (by simp) ?_
            refine AllReady.cons rfl (fun K hK => ?_) ?_
            · go_simp
              refine (HRD.out 1).mono ?_
              rintro e w1 ⟨rfl, hr⟩
              exact ⟨rfl, rfl, hr⟩
            exact AllReady.nil
          exact AllReady.nil
        refine AllReady.cons rfl (fun K hK => ?_) ?_
        · go_simp
          refine hK _ _ ?_
          clear hK K
          refine wpAny_ready (rs := [3, 5]) (by kernel_rfl) (by simp) ?_
          refine AllReady.cons rfl (fun K hK => ?_) ?_
          · go_simp
            refine hK _ _ ?_
            clear hK K
            refine wpAny_ready (rs := [5]) (by kernel_rfl) (by simp) ?_
            refine AllReady.cons rfl (fun K hK => ?_) ?_
            · go_simp
              refine (HRD.out 1).mono ?_
              rintro e w1 ⟨rfl, hr⟩
              exact ⟨rfl, rfl, hr⟩
            exact AllReady.nil
          refine AllReady.cons rfl (fun K hK => ?_) ?_
          · go_simp
            refine (HRD.out 1).mono ?_
            rintro e w1 ⟨rfl, hr⟩
            exact ⟨rfl, rfl, hr⟩
          exact AllReady.nil
        exact AllReady.nil
      refine AllReady.cons rfl (fun K hK => ?_) ?_
      · go_simp
        refine hK _ _ ?_
        clear hK K
        refine wpAny_ready (rs := [2, 5]) (by kernel_rfl) (by simp) ?_
        refine AllReady.cons rfl (fun K hK => ?_) ?_
        · go_simp
          refine hK _ _ ?_
          clear hK K
          refine wpAny_ready (rs := [3, 5]) (by kernel_rfl) (by simp) ?_
          refine AllReady.cons rfl (fun K hK => ?_) ?_
          · go_simp
            refine hK _ _ ?_
            clear hK K
            refine wpAny_ready (rs := [5]) (by kernel_rfl) (by simp) ?_
            refine AllReady.cons rfl (fun K hK => ?_) ?_
            · go_simp
              refine (HRD.out 1).mono ?_
              rintro e w1 ⟨rfl, hr⟩
              exact ⟨rfl, rfl, hr⟩
            exact AllReady.nil
          refine AllReady.cons rfl (fun K hK => ?_) ?_
          · go_simp
            refine (HRD.out 1).mono ?_
            rintro e w1 ⟨rfl, hr⟩
            exact ⟨rfl, rfl, hr⟩
          exact AllReady.nil
        refine AllReady.cons rfl (fun K hK => ?_) ?_
        · go_simp
          refine (HRD.out 1).mono ?_
          rintro e w1 ⟨rfl, hr⟩
          exact ⟨rfl, rfl, hr⟩
        exact AllReady.nil
      exact AllReady.nil
    refine AllReady.cons rfl (fun K hK => ?_) ?_
    · go_simp
      refine hK _ _ ?_
      clear hK K
      refine wpAny_ready (rs := [1, 5]) (by kernel_rfl) (by simp) ?_
      refine AllReady.cons rfl (fun K hK => ?_) ?_
      · go_simp
        refine hK _ _ ?_
        clear hK K
        refine wpAny_ready (rs := [2, 5]) (by kernel_rfl) (by simp) ?_
        refine AllReady.cons rfl (fun K hK => ?_) ?_
        · go_simp
          refine hK _ _ ?_
          clear hK K
          refine wpAny_ready (rs := [3, 5]) (by kernel_rfl) (by simp) ?_
          refine AllReady.cons rfl (fun K hK => ?_) ?_
          · go_simp
            refine hK _ _ ?_
            clear hK K
            refine wpAny_ready (rs := [5]) (by kernel_rfl) (by simp) ?_
            refine AllReady.cons rfl (fun K hK => ?_) ?_
            · go_simp
              refine (HRD.out 1).mono ?_
              rintro e w1 ⟨rfl, hr⟩
              exact ⟨rfl, rfl, hr⟩
            exact AllReady.nil
          refine AllReady.cons rfl (fun K hK => ?_) ?_
          · go_simp
            refine (HRD.out 1).mono ?_
            rintro e w1 ⟨rfl, hr⟩
            exact ⟨rfl, rfl, hr⟩
          exact AllReady.nil
        refine AllReady.cons rfl (fun K hK => ?_) ?_
        · go_simp
          refine (HRD.out 1).mono ?_
          rintro e w1 ⟨rfl, hr⟩
          exact ⟨rfl, rfl, hr⟩
        exact AllReady.nil
      refine AllReady.cons rfl (fun K hK => ?_) ?_
      · go_simp
        refine (HRD.out 1).mono ?_
        rintro e w1 ⟨rfl, hr⟩
        exact ⟨rfl, rfl, hr⟩
      exact AllReady.nil
    exact AllReady.nil
  refine AllReady.cons rfl (fun K hK => ?_) ?_
  · go_simp
    refine hK _ _ ?_
    clear hK K
    refine wpAny_ready (rs := [0, 5]) (by kernel_rfl) (by simp) ?_
    refine AllReady.cons rfl (fun K hK => ?_) ?_
    · go_simp
      refine hK _ _ ?_
      clear hK K
      refine wpAny_ready (rs := [1, 5]) (by kernel_rfl) (by simp) ?_
      refine AllReady.cons rfl (fun K hK => ?_) ?_
      · go_simp
        refine hK _ _ ?_
        clear hK K
        refine wpAny_ready (rs := [2, 5]) (by kernel_rfl) (by simp) ?_
        refine AllReady.cons rfl (fun K hK => ?_) ?_
        · go_simp
          refine hK _ _ ?_
          clear hK K
          refine wpAny_ready (rs := [3, 5]) (by kernel_rfl) (by simp) ?_
          refine AllReady.cons rfl (fun K hK => ?_) ?_
          · go_simp
            refine hK _ _ ?_
            clear hK K
            refine wpAny_ready (rs := [5]) (by kernel_rfl) (by simp) ?_
            refine AllReady.cons rfl (fun K hK => ?_) ?_
            · go_simp
              refine (HRD.out 1).mono ?_
              rintro e w1 ⟨rfl, hr⟩
              exact ⟨rfl, rfl, hr⟩
            exact AllReady.nil
          refine AllReady.cons rfl (fun K hK => ?_) ?_
          · go_simp
            refine (HRD.out 1).mono ?_
            rintro e w1 ⟨rfl, hr⟩
            exact ⟨rfl, rfl, hr⟩
          exact AllReady.nil
        refine AllReady.cons rfl (fun K hK => ?_) ?_
        · go_simp
          refine (HRD.out 1).mono ?_
          rintro e w1 ⟨rfl, hr⟩
          exact ⟨rfl, rfl, hr⟩
        exact AllReady.nil
      refine AllReady.cons rfl (fun K hK => ?_) ?_
      · go_simp
        refine (HRD.out 1).mono ?_
        rintro e w1 ⟨rfl, hr⟩
        exact ⟨rfl, rfl, hr⟩
      exact AllReady.nil
    refine AllReady.cons rfl (fun K hK => ?_) ?_
    · go_simp
      refine (HRD.out 1).mono ?_
      rintro e w1 ⟨rfl, hr⟩
      exact ⟨rfl, rfl, hr⟩
    exact AllReady.nil
  exact AllReady.nil

end Go.Proofs.YtmhaknejeobfgaaGreatDoor

/- ReaderC2. -/
namespace Go.Proofs.YtmhaknejeobfgaaGreatDoor
open Go.RowKit Go.Proofs.YtmhaknejeobfgaaGreatDoor.Stable Go.Proofs.YtmhaknejeobfgaaGreatDoor.Order Go.Proofs.YtmhaknejeobfgaaGreatDoor.Points
attribute [local go_sem ↓] Go.wp_at_zero Go.wp_at_succ

theorem Rc.kept {w w' : World} {hi br bc bl bvr bvs bs cp B : Nat} {a : Option Addr} {cpl : Nat} {m : Int} {L : List Chk} {k : Nat} {e : Bool} {R : List Int} {S X : Nat → Prop} {N : Nat} (H : Rc w hi br bc bl bvr bvs bs cp B a cpl m L k e R S N) (f : Fr X w w') (hX : ¬ X br ∧ ¬ X bc ∧ ¬ X bvr ∧ ¬ X bvs ∧ ∀ x, S x → ¬ X x) (hh : ∀ x, x < hi → ¬ X x) : Rc w' hi br bc bl bvr bvs bs cp B a cpl m L k e R S N := by
  obtain ⟨x1, x2, x3, x4, x5⟩ := hX
  exact ⟨(f.block br (lt_of H.rd) x1).trans H.rd, H.src.kept f hh x2, (f.block bvr (lt_of H.vr) x3).trans H.vr, (f.block bvs (lt_of H.vs) x4).trans H.vs, H.ln.kept f x5 hh, H.nS, H.ne, H.hib, H.env.kept f (fun x hx => hh x (by have := H.hib; omega)), H.ke, H.bd, H.hN⟩

theorem Rc.same {w w' : World} {hi br bc bl bvr bvs bs cp B : Nat} {a : Option Addr} {cpl : Nat} {m : Int} {L : List Chk} {k : Nat} {e : Bool} {R : List Int} {S : Nat → Prop} {N : Nat} (H : Rc w hi br bc bl bvr bvs bs cp B a cpl m L k e R S N) (f : Fr (fun _ => False) w w') : Rc w' hi br bc bl bvr bvs bs cp B a cpl m L k e R S N := H.kept f ⟨id, id, id, id, fun _ _ => id⟩ (fun _ _ => id)

/-- What the end leaves. -/
def EndOnC (w w' : World) (hi br bc bl bvr bvs bs cp B : Nat) (a : Option Addr) (cpl : Nat) (m : Int) (L : List Chk) (k : Nat) (R : List Int) (S : Nat → Prop) : Prop :=
  ∃ d N, relOf m L k true = relOf m L k false ++ d ∧ Rc w' hi br bc bl bvr bvs bs cp B a cpl m L k true (R ++ d) (fun x => S x ∨ w.heap.size ≤ x) N ∧ Fr (fun x => x = br ∨ S x) w w'

theorem endC_done {w w1 : World} {hi br bc bl bvr bvs bs cp B : Nat} {a : Option Addr} {cpl : Nat} {m : Int} {L : List Chk} {k : Nat} {R : List Int} {S : Nat → Prop} {N : Nat} (H : Rc w hi br bc bl bvr bvs bs cp B a cpl m L k false R S N) (hk : k = L.length) (hp : EndLeaves w w1 hi bl bs cp B (stagesOf m) (kindAt m) (goneIn L k false) (waitsIn L k false) R S N) : EndOnC w (w1.setCell ⟨br, 3, none⟩ (.bool true)) hi br bc bl bvr bvs bs cp B a cpl m L k R S := by
  obtain ⟨d, hd, hL, hf⟩ := hp
  obtain ⟨g1, g2⟩ := gone_end L k
  obtain ⟨s1, s2, s3, s4⟩ := H.nS
  obtain ⟨e1, e2, e3, e4, e5⟩ := H.ne
  have hlt := H.ln.lt
  have hib := H.hib
  have hsz := hf.size
  have r1 := (hf.block br (lt_of H.rd) s1).trans H.rd
  have fs : Fr (fun x => x = br) w1 (w1.setCell ⟨br, 3, none⟩ (.bool true)) := (Fr.refl _ _).setCell ⟨br, 3, none⟩ _ (fun _ => rfl)
  have fA : Fr (fun x => x = br ∨ S x) w (w1.setCell ⟨br, 3, none⟩ (.bool true)) := (hf.mono (S' := fun x => x = br ∨ S x) (fun _ _ h => .inr h)).trans fs (fun _ _ h => .inl h)
  refine ⟨d, N, ?_, ?_, fA⟩
  · unfold relOf
    rw [g1]
    exact hd
  · refine H.step fA ⟨fun h => h.elim (Ne.symm e2) s3, fun h => h.elim (Ne.symm e3) s4⟩ (fun x hx h => ?_) ?_ ((H.src.kept hf (fun x hx h => ?_) s2).kept fs (fun x hx h => by omega) (Ne.symm e1)) ?_ (fun _ => hk) H.hN
    · rcases h with h | h
      · omega
      · have := H.ln.hiS x h; omega
    · have := set_of r1 3 (.bool true)
      unfold rdC
      simpa using this
    · have := H.ln.hiS x h; omega
    · rw [g1, g2]
      refine hL.kept fs (fun x hx e => ?_) (fun x hx e => by omega)
      rcases hx with h | h
      · exact s1 (e ▸ h)
      · have := lt_of H.rd; omega

set_option maxRecDepth 100000 in
set_option maxHeartbeats 800000 in
theorem readOnE_more {w : World} {hi br bc bl bvr bvs bs cp B : Nat} {a : Option Addr} {cpl : Nat} {m : Int} {L : List Chk} {k : Nat} {R : List Int} {S : Nat → Prop} {N : Nat} (H : Rc w hi br bc bl bvr bvs bs cp B a cpl m L k false R S N) (hk : k < L.length) (hf : faultAt L k = 0) :
    Calls Tryz.prog 64 #[.pointer (some ⟨br, 0, none⟩)] w fun e w' => e = .returned (.tuple #[]) ∧ ReadOnC w w' hi br bc bl bvr bvs bs cp B a cpl m L k R S := by
  have c0 : w.cell? ⟨br, 0, none⟩ = some (.iface 89 (.pointer (some ⟨bc, 0, none⟩))) := cell_of H.rd rfl
  have c4 : ∀ q, (w.drewN q).cell? ⟨br, 2, none⟩ = some (.func (.func 60) #[] #[.pointer (some ⟨bvr, 0, none⟩), .pointer (some ⟨bvs, 0, none⟩)]) := fun q => cell_of (w := w.drewN q) H.rd rfl
  have hme : ∀ (p : Option Addr) (w : World), (method 356 89 (.pointer p) "Ended").run Tryz.prog w = .ok (85, .pointer p) w := fun p w => by kernel_rfl
  have hdec : decide (k = L.length) = false := by simp; omega
  have HEN : Hid (Calls Tryz.prog 85 #[.pointer (some ⟨bc, 0, none⟩)] w fun e w' => e = .returned (.bool false) ∧ ∃ q, w' = w.drewN q) := hdec ▸ endedC_calls H.src
  have HRO : Hid (∀ q, Calls Tryz.prog 60 #[.pointer (some ⟨bvr, 0, none⟩), .pointer (some ⟨bvs, 0, none⟩)] (w.drewN q) fun e w' => e = .returned (.tuple #[]) ∧ ReadOnC w w' hi br bc bl bvr bvs bs cp B a cpl m L k R S) := Hid.mk0 (fun q => by
    have f := (Fr.refl (fun _ => False) w).drewN q
    refine (readOnC_calls (H.same f) (List.getElem?_eq_getElem hk) hf).mono ?_
    rintro e w' ⟨rfl, d, N', h1, h2, h3⟩
    exact ⟨rfl, d, N', h1, h2, (f.mono (fun _ _ h => h.elim)).trans h3 (fun _ _ h => h)⟩)
  clear H hk hf hdec
  go_enter Tryz.func64, Tryz.ntmps64
  go_wp2_with (first
    | (go_at_call 85; refine HEN.out.mono ?_; rintro e w' ⟨rfl, q, rfl⟩)
    | (go_at_call 60; refine (HRO.out q).mono ?_; rintro e w' ⟨rfl, hro⟩))
  go_end0
  exact ⟨rfl, hro⟩

set_option maxRecDepth 100000 in
set_option maxHeartbeats 800000 in
theorem readOnE_no {w : World} {hi br bc bl bvr bvs bs cp B : Nat} {a : Option Addr} {cpl : Nat} {m : Int} {L : List Chk} {k : Nat} {R : List Int} {S : Nat → Prop} {N : Nat} (H : Rc w hi br bc bl bvr bvs bs cp B a cpl m L k false R S N) (hk : k < L.length) (hf : faultAt L k ≠ 0) :
    Calls Tryz.prog 64 #[.pointer (some ⟨br, 0, none⟩)] w fun e w' => e = .panicked [{ v := upV (faultAt L k), recovered := false }] ∧ w'.cell? ⟨bc, 1, none⟩ = some (.int .i64 ((k : Int) + 1)) ∧ Fr (fun x => x = bc) w w' := by
  have c0 : w.cell? ⟨br, 0, none⟩ = some (.iface 89 (.pointer (some ⟨bc, 0, none⟩))) := cell_of H.rd rfl
  have c4 : ∀ q, (w.drewN q).cell? ⟨br, 2, none⟩ = some (.func (.func 60) #[] #[.pointer (some ⟨bvr, 0, none⟩), .pointer (some ⟨bvs, 0, none⟩)]) := fun q => cell_of (w := w.drewN q) H.rd rfl
  have hme : ∀ (p : Option Addr) (w : World), (method 356 89 (.pointer p) "Ended").run Tryz.prog w = .ok (85, .pointer p) w := fun p w => by kernel_rfl
  have hdec : decide (k = L.length) = false := by simp; omega
  have HEN : Hid (Calls Tryz.prog 85 #[.pointer (some ⟨bc, 0, none⟩)] w fun e w' => e = .returned (.bool false) ∧ ∃ q, w' = w.drewN q) := hdec ▸ endedC_calls H.src
  have HRO : Hid (∀ q, Calls Tryz.prog 60 #[.pointer (some ⟨bvr, 0, none⟩), .pointer (some ⟨bvs, 0, none⟩)] (w.drewN q) fun e w' => e = .panicked [{ v := upV (faultAt L k), recovered := false }] ∧ w'.cell? ⟨bc, 1, none⟩ = some (.int .i64 ((k : Int) + 1)) ∧ Fr (fun x => x = bc) w w') := Hid.mk0 (fun q => by
    have f := (Fr.refl (fun _ => False) w).drewN q
    refine (readOnC_no (H.same f) (List.getElem?_eq_getElem hk) hf).mono ?_
    rintro e w' ⟨rfl, h1, h2⟩
    exact ⟨rfl, h1, (f.mono (fun _ _ h => h.elim)).trans h2 (fun _ _ h => h)⟩)
  clear H hk hf hdec
  go_enter Tryz.func64, Tryz.ntmps64
  go_wp2_with (first
    | (go_at_call 85; refine HEN.out.mono ?_; rintro e w' ⟨rfl, q, rfl⟩)
    | (go_at_call 60; refine (HRO.out q).mono ?_; rintro e w' ⟨rfl, hro⟩))
  exact ⟨rfl, rfl, hro⟩

set_option maxRecDepth 100000 in
set_option maxHeartbeats 800000 in
theorem readOnE_end {w : World} {hi br bc bl bvr bvs bs cp B : Nat} {a : Option Addr} {cpl : Nat} {m : Int} {L : List Chk} {k : Nat} {R : List Int} {S : Nat → Prop} {N : Nat} (H : Rc w hi br bc bl bvr bvs bs cp B a cpl m L k false R S N) (hk : k = L.length) :
    Calls Tryz.prog 64 #[.pointer (some ⟨br, 0, none⟩)] w fun e w' => e = .returned (.tuple #[]) ∧ EndOnC w w' hi br bc bl bvr bvs bs cp B a cpl m L k R S := by
  have c0 : w.cell? ⟨br, 0, none⟩ = some (.iface 89 (.pointer (some ⟨bc, 0, none⟩))) := cell_of H.rd rfl
  have c1 : ∀ q, (w.drewN q).cell? ⟨br, 1, none⟩ = some (.pointer (some ⟨bl, 0, none⟩)) := fun q => cell_of (w := w.drewN q) H.rd rfl
  have hme : ∀ (p : Option Addr) (w : World), (method 356 89 (.pointer p) "Ended").run Tryz.prog w = .ok (85, .pointer p) w := fun p w => by kernel_rfl
  have hdec : decide (k = L.length) = true := by simp [hk]
  have HEN : Hid (Calls Tryz.prog 85 #[.pointer (some ⟨bc, 0, none⟩)] w fun e w' => e = .returned (.bool true) ∧ ∃ q, w' = w.drewN q) := hdec ▸ endedC_calls H.src
  have HLE : Hid (∀ q, Calls Tryz.prog 89 #[.pointer (some ⟨bl, 0, none⟩)] (w.drewN q) fun e w' => e = .returned (.tuple #[]) ∧ EndLeaves w w' hi bl bs cp B (stagesOf m) (kindAt m) (goneIn L k false) (waitsIn L k false) R S N) := Hid.mk0 (fun q => by
    have f := (Fr.refl (fun _ => False) w).drewN q
    have H1 := H.same f
    have h1 := gone_le L k false
    have h2 := take_le (L := L) k
    have h3 := H.bd
    have h4 := H.hN
    refine (lineEnd_calls H1.ln H1.env H.hib.2 (by omega) (by omega)).mono ?_
    rintro e w' ⟨rfl, d, q1, q2, q3⟩
    exact ⟨rfl, d, q1, q2, (f.mono (fun _ _ h => h.elim)).trans q3 (fun _ _ h => h)⟩)
  have HK : Hid (∀ w', EndLeaves w w' hi bl bs cp B (stagesOf m) (kindAt m) (goneIn L k false) (waitsIn L k false) R S N → w'.heap[br]? = some (rdC br bc bl bvr bvs false) ∧ EndOnC w (w'.setCell ⟨br, 3, none⟩ (.bool true)) hi br bc bl bvr bvs bs cp B a cpl m L k R S) := Hid.mk0 (fun w' hp => by
    obtain ⟨d, hd, hL, hf⟩ := id hp
    exact ⟨(hf.block br (lt_of H.rd) H.nS.1).trans H.rd, endC_done H hk hp⟩)
  clear H hk hdec
  go_enter Tryz.func64, Tryz.ntmps64
  go_wp2_with (first
    | (go_at_call 85; refine HEN.out.mono ?_; rintro e w' ⟨rfl, q, rfl⟩)
    | (go_at_call 89; refine (HLE.out q).mono ?_; rintro e w1 ⟨rfl, hp⟩; obtain ⟨rb, heo⟩ := HK.out w1 hp; have c3 : w1.cell? ⟨br, 3, none⟩ = some (.bool false) := cell_of rb rfl; have f3 := frozen_of rb 3; clear rb; have HEO : Hid (EndOnC w (w1.setCell ⟨br, 3, none⟩ (.bool true)) hi br bc bl bvr bvs bs cp B a cpl m L k R S) := heo; clear heo hp))
  try simp only [Exit.inBlock, Exit.then]
  refine bodyPost_ret (results_none rfl _ _ _) rfl ?_
  exact ⟨rfl, HEO.out⟩

end Go.Proofs.YtmhaknejeobfgaaGreatDoor

/- ReaderC3. -/
namespace Go.Proofs.YtmhaknejeobfgaaGreatDoor
open Go.RowKit Go.Proofs.YtmhaknejeobfgaaGreatDoor.Stable Go.Proofs.YtmhaknejeobfgaaGreatDoor.Order Go.Proofs.YtmhaknejeobfgaaGreatDoor.Points
attribute [local go_sem ↓] Go.wp_at_zero Go.wp_at_succ

/-- A reader of the chunks L (its source's block bc): k were read, e: it has ended, t code points were fetched; all its blocks in T. -/
def RcM (w : World) (hi br bc : Nat) (a : Option Addr) (cpl : Nat) (m : Int) (L : List Chk) (k : Nat) (e : Bool) (t : Nat) (T : Nat → Prop) : Prop :=
  ∃ bl bvr bvs bs cp B R S N tk, Rc w hi br bc bl bvr bvs bs cp B a cpl m L k e R S N ∧ relOf m L k e = tk ++ R ∧ tk.length = t ∧ (T br ∧ T bc ∧ T bvr ∧ T bvs ∧ ∀ x, S x → T x)

theorem RcM.mono {w : World} {hi br bc : Nat} {a : Option Addr} {cpl : Nat} {m : Int} {L : List Chk} {k : Nat} {e : Bool} {t : Nat} {T T' : Nat → Prop} (h : RcM w hi br bc a cpl m L k e t T) (ht : ∀ x, T x → T' x) : RcM w hi br bc a cpl m L k e t T' := by
  obtain ⟨bl, bvr, bvs, bs, cp, B, R, S, N, tk, h1, h2, h3, t1, t2, t3, t4, t5⟩ := h
  exact ⟨bl, bvr, bvs, bs, cp, B, R, S, N, tk, h1, h2, h3, ht _ t1, ht _ t2, ht _ t3, ht _ t4, fun x hx => ht _ (t5 x hx)⟩

theorem RcM.kept {w w' : World} {hi br bc : Nat} {a : Option Addr} {cpl : Nat} {m : Int} {L : List Chk} {k : Nat} {e : Bool} {t : Nat} {T X : Nat → Prop} (h : RcM w hi br bc a cpl m L k e t T) (f : Fr X w w') (hX : ∀ x, T x → ¬ X x) (hh : ∀ x, x < hi → ¬ X x) : RcM w' hi br bc a cpl m L k e t T := by
  obtain ⟨bl, bvr, bvs, bs, cp, B, R, S, N, tk, h1, h2, h3, t1, t2, t3, t4, t5⟩ := h
  exact ⟨bl, bvr, bvs, bs, cp, B, R, S, N, tk, h1.kept f ⟨hX _ t1, hX _ t2, hX _ t3, hX _ t4, fun x hx => hX _ (t5 x hx)⟩ hh, h2, h3, t1, t2, t3, t4, t5⟩

/-- What Fetch gives and leaves. -/
def FetchedC (w w' : World) (hi br bc : Nat) (a : Option Addr) (cpl : Nat) (m : Int) (L : List Chk) (t : Nat) (T : Nat → Prop) (F : Ft) (en : Ending) : Prop :=
  ((F.err = 0 ∧ en = .returned (.int .i32 F.c) ∧ RcM w' hi br bc a cpl m L F.k F.e (if F.c = -1 then t else t + 1) (fun x => T x ∨ w.heap.size ≤ x)) ∨ (F.err ≠ 0 ∧ en = .panicked [{ v := upV F.err, recovered := false }] ∧ w'.cell? ⟨bc, 1, none⟩ = some (.int .i64 F.k))) ∧ Fr T w w'

/-- Behind a Take. -/
theorem Rc.took {wr w1 w : World} {hi br bc bl bvr bvs bs cp B : Nat} {a : Option Addr} {cpl : Nat} {m : Int} {L : List Chk} {k : Nat} {e : Bool} {R R' : List Int} {S T : Nat → Prop} {N : Nat} (H : Rc wr hi br bc bl bvr bvs bs cp B a cpl m L k e R S N) (hl : LinLeft wr w1 hi bl bs cp B (stagesOf m) (kindAt m) (goneIn L k e) (waitsIn L k e) e R' S N) (hf : Fr T w wr) (hS : ∀ x, S x → T x ∨ w.heap.size ≤ x) :
    Rc w1 hi br bc bl bvr bvs bs cp B a cpl m L k e R' (fun x => S x ∨ wr.heap.size ≤ x) N ∧ Fr T w w1 ∧ ∀ x, (S x ∨ wr.heap.size ≤ x) → T x ∨ w.heap.size ≤ x := by
  have hlow : ∀ x, x < hi → ¬ S x := fun x hx h => by have := H.ln.hiS x h; omega
  refine ⟨H.step hl.2 ⟨H.nS.2.2.1, H.nS.2.2.2⟩ hlow ((hl.2.block br (lt_of H.rd) H.nS.1).trans H.rd) (H.src.kept hl.2 hlow H.nS.2.1) hl.1 H.ke H.hN, hf.trans hl.2 (fun i hi h => ?_), fun x hx => ?_⟩
  · rcases hS i h with h | h
    · exact h
    · omega
  · rcases hx with hx | hx
    · exact hS x hx
    · have := hf.size; exact .inr (by omega)

theorem rel_at {m : Int} {L : List Chk} {k : Nat} {e : Bool} {tk R : List Int} {t : Nat} (h : relOf m L k e = tk ++ R) (ht : tk.length = t) : (relOf m L k e)[t]? = R[0]? := by
  rw [h, List.getElem?_append_right (by omega), ht, Nat.sub_self]

set_option maxRecDepth 100000 in
set_option maxHeartbeats 1600000 in
theorem fetchC_calls {w : World} {hi br bc : Nat} {a : Option Addr} {cpl : Nat} {m : Int} {L : List Chk} {k0 : Nat} {e0 : Bool} {t : Nat} {T : Nat → Prop} (H : RcM w hi br bc a cpl m L k0 e0 t T) :
    Calls Tryz.prog 36 #[.pointer (some ⟨br, 0, none⟩)] w fun en w' => FetchedC w w' hi br bc a cpl m L t T (fetchP m L t k0 e0) en := by
  obtain ⟨F, hF⟩ : ∃ F, F = fetchP m L t k0 e0 := ⟨_, rfl⟩
  rw [← hF]
  have HH : Hid (RcM w hi br bc a cpl m L k0 e0 t T ∧ F = fetchP m L t k0 e0) := ⟨H, hF⟩
  clear H hF
  go_enter Tryz.func36, Tryz.ntmps36
  go_wp2
  go_loopg [5] (stepsOf L k0 e0) (fun g _ wr => Hid (∃ k e, RcM wr hi br bc a cpl m L k e t (fun x => T x ∨ w.heap.size ≤ x) ∧ F = fetchP m L t k e ∧ g = stepsOf L k e ∧ Fr T w wr))
  case atStart => exact ⟨k0, e0, HH.out.1.mono (fun x h => .inl h), HH.out.2, rfl, Fr.refl _ _⟩
  case round =>
    obtain ⟨k, e, ⟨bl, bvr, bvs, bs, cp, B, R, S, N, tk, h1, h2, h3, h4⟩, h5, h6, hfr⟩ := hrel.out
    have c1 : wr.cell? ⟨br, 1, none⟩ = some (.pointer (some ⟨bl, 0, none⟩)) := cell_of h1.rd rfl
    have HR : Hid (Rc wr hi br bc bl bvr bvs bs cp B a cpl m L k e R S N) := h1
    have HF : Hid (relOf m L k e = tk ++ R ∧ tk.length = t ∧ F = fetchP m L t k e ∧ gk = stepsOf L k e) := ⟨h2, h3, h5, h6⟩
    have HT : Hid ((fun x => T x ∨ w.heap.size ≤ x) br ∧ (fun x => T x ∨ w.heap.size ≤ x) bc ∧ (fun x => T x ∨ w.heap.size ≤ x) bvr ∧ (fun x => T x ∨ w.heap.size ≤ x) bvs ∧ ∀ x, S x → (fun x => T x ∨ w.heap.size ≤ x) x) := h4
    have HFR : Hid (Fr T w wr) := hfr
    have hat := rel_at h2 h3
    cases R with
    | cons c r =>
      have hce : F = ⟨k, e, c, 0⟩ := h5.trans (fetchP_there hat)
      have hcv : c ≠ -1 := by
        have := h1.ln.hR c (by simp)
        unfold Valid at this
        omega
      have HC : Hid (F = ⟨k, e, c, 0⟩ ∧ c ≠ -1) := ⟨hce, hcv⟩
      clear h1 h2 h3 h4 h5 h6 hfr hrel hat hce hcv
      go_wp2_with (go_at_call 63; refine (linTake_calls HR.out.ln HR.out.gone).mono ?_; rintro e' w1 ⟨x, ok, rfl, hm, hl⟩; have HL : Hid (LinLeft wr w1 hi bl bs cp B (stagesOf m) (kindAt m) (goneIn L k e) (waitsIn L k e) e r S N) := hl; clear hl; obtain ⟨rfl, rfl⟩ : x = c ∧ ok = true := hm.cons; clear hm)
      go_ret
      obtain ⟨k1, k2, k3⟩ := HR.out.took HL.out HFR.out HT.out.2.2.2.2
      obtain ⟨t1, t2, t3, t4, _⟩ := HT.out
      obtain ⟨q1, q2, _, _⟩ := HF.out
      refine ⟨.inl ⟨by rw [HC.out.1], by rw [HC.out.1]; rfl, ?_⟩, k2⟩
      rw [HC.out.1]
      dsimp only
      rw [if_neg HC.out.2]
      exact ⟨bl, bvr, bvs, bs, cp, B, r, _, N, tk ++ [x], k1, by rw [q1]; simp, by simp [q2], t1, t2, t3, t4, k3⟩
    | nil =>
      have hnone : (relOf m L k e)[t]? = none := by rw [hat]; rfl
      cases e with
      | true =>
        have hce : F = ⟨k, true, -1, 0⟩ := h5.trans (fetchP_done hnone)
        have HC : Hid (F = ⟨k, true, -1, 0⟩) := hce
        clear h1 h2 h3 h4 h5 h6 hfr hrel hat hce hnone
        go_wp2_with (go_at_call 63; refine (linTake_calls HR.out.ln HR.out.gone).mono ?_; rintro e' w1 ⟨x, ok, rfl, hm, hl⟩; obtain ⟨rfl, rfl⟩ : x = 0 ∧ ok = false := hm.nil; clear hm; have K1 : Hid (Rc w1 hi br bc bl bvr bvs bs cp B a cpl m L k true [] (fun x => S x ∨ wr.heap.size ≤ x) N ∧ Fr T w w1 ∧ ∀ x, (S x ∨ wr.heap.size ≤ x) → T x ∨ w.heap.size ≤ x) := HR.out.took hl HFR.out HT.out.2.2.2.2; clear hl; have c3 : w1.cell? ⟨br, 3, none⟩ = some (.bool true) := cell_of K1.out.1.rd rfl)
        go_ret
        obtain ⟨k1, k2, k3⟩ := K1.out
        obtain ⟨t1, t2, t3, t4, _⟩ := HT.out
        obtain ⟨q1, q2, _, _⟩ := HF.out
        refine ⟨.inl ⟨by rw [HC.out], by rw [HC.out]; rfl, ?_⟩, k2⟩
        rw [HC.out]
        dsimp only
        rw [if_pos rfl]
        exact ⟨bl, bvr, bvs, bs, cp, B, [], _, N, tk, k1, q1, q2, t1, t2, t3, t4, k3⟩
      | false =>
        have hle := h1.src.le
        have HTK : Hid (Calls Tryz.prog 63 #[.pointer (some ⟨bl, 0, none⟩)] wr fun e' w1 => e' = .returned (.tuple #[.int .i32 0, .bool false]) ∧ Rc w1 hi br bc bl bvr bvs bs cp B a cpl m L k false [] (fun x => S x ∨ wr.heap.size ≤ x) N ∧ Fr T w w1 ∧ ∀ x, (S x ∨ wr.heap.size ≤ x) → T x ∨ w.heap.size ≤ x) := by
          refine (linTake_calls HR.out.ln HR.out.gone).mono ?_
          rintro e' w1 ⟨x, ok, rfl, hm, hl⟩
          obtain ⟨rfl, rfl⟩ : x = 0 ∧ ok = false := hm.nil
          exact ⟨rfl, HR.out.took hl HFR.out HT.out.2.2.2.2⟩
        by_cases hk : k = L.length
        · have hce : F = fetchP m L t k true := h5.trans (fetchP_end hnone hk)
          have HC : Hid (F = fetchP m L t k true ∧ k = L.length) := ⟨hce, hk⟩
          clear h1 h2 h3 h4 h5 h6 hfr hrel hat hce hnone hk hle
          go_wp2_with (first
            | (go_at_call 63; refine HTK.out.mono ?_; rintro e' w1 ⟨rfl, k1, k2, k3⟩; have c3 : w1.cell? ⟨br, 3, none⟩ = some (.bool false) := cell_of k1.rd rfl; have K1 : Hid (Rc w1 hi br bc bl bvr bvs bs cp B a cpl m L k false [] (fun x => S x ∨ wr.heap.size ≤ x) N ∧ Fr T w w1 ∧ ∀ x, (S x ∨ wr.heap.size ≤ x) → T x ∨ w.heap.size ≤ x) := ⟨k1, k2, k3⟩; clear k1 k2 k3)
            | (go_at_call 64; refine (readOnE_end K1.out.1 HC.out.2).mono ?_; rintro e' w2 ⟨rfl, hro⟩))
          obtain ⟨d, N', hd, q1, q2⟩ := hro
          obtain ⟨k1, k2, k3⟩ := K1.out
          obtain ⟨t1, t2, t3, t4, _⟩ := HT.out
          obtain ⟨p1, p2, p3, p4⟩ := HF.out
          go_roundg (stepsOf L k true)
          case measure => rw [p4]; simp [stepsOf]
          case rel =>
            refine ⟨k, true, ⟨bl, bvr, bvs, bs, cp, B, _, _, N', tk, q1, ?_, p2, t1, t2, t3, t4, fun x hx => ?_⟩, HC.out.1, rfl, k2.trans q2 (fun i hi h => ?_)⟩
            · rw [hd, p1, List.append_assoc]
            · rcases hx with hx | hx
              · exact k3 x hx
              · have := k2.size; exact .inr (by omega)
            · rcases h with rfl | h
              · rcases t1 with h | h
                · exact h
                · omega
              · rcases k3 i h with h | h
                · exact h
                · omega
        · have hkl : k < L.length := by omega
          by_cases hfa : faultAt L k = 0
          · have hce : F = fetchP m L t (k + 1) false := h5.trans (fetchP_read hnone hkl hfa)
            have HC : Hid (F = fetchP m L t (k + 1) false ∧ k < L.length ∧ faultAt L k = 0) := ⟨hce, hkl, hfa⟩
            clear h1 h2 h3 h4 h5 h6 hfr hrel hat hce hnone hk hle hkl hfa
            go_wp2_with (first
              | (go_at_call 63; refine HTK.out.mono ?_; rintro e' w1 ⟨rfl, k1, k2, k3⟩; have c3 : w1.cell? ⟨br, 3, none⟩ = some (.bool false) := cell_of k1.rd rfl; have K1 : Hid (Rc w1 hi br bc bl bvr bvs bs cp B a cpl m L k false [] (fun x => S x ∨ wr.heap.size ≤ x) N ∧ Fr T w w1 ∧ ∀ x, (S x ∨ wr.heap.size ≤ x) → T x ∨ w.heap.size ≤ x) := ⟨k1, k2, k3⟩; clear k1 k2 k3)
              | (go_at_call 64; refine (readOnE_more K1.out.1 HC.out.2.1 HC.out.2.2).mono ?_; rintro e' w2 ⟨rfl, hro⟩))
            obtain ⟨d, N', hd, q1, q2⟩ := hro
            obtain ⟨k1, k2, k3⟩ := K1.out
            obtain ⟨t1, t2, t3, t4, _⟩ := HT.out
            obtain ⟨p1, p2, p3, p4⟩ := HF.out
            go_roundg (stepsOf L (k + 1) false)
            case measure => have := HC.out.2.1; rw [p4]; simp [stepsOf]; omega
            case rel =>
              refine ⟨k + 1, false, ⟨bl, bvr, bvs, bs, cp, B, _, _, N', tk, q1, ?_, p2, t1, t2, t3, t4, fun x hx => ?_⟩, HC.out.1, rfl, k2.trans q2 (fun i hi h => ?_)⟩
              · rw [hd, p1, List.append_assoc]
              · rcases hx with hx | hx
                · exact k3 x hx
                · have := k2.size; exact .inr (by omega)
              · rcases h with rfl | h
                · rcases t2 with h | h
                  · exact h
                  · omega
                · rcases k3 i h with h | h
                  · exact h
                  · omega
          · have hce : F = ⟨k + 1, false, -1, faultAt L k⟩ := h5.trans (fetchP_fault hnone hkl hfa)
            have HC : Hid (F = ⟨k + 1, false, -1, faultAt L k⟩ ∧ k < L.length ∧ faultAt L k ≠ 0) := ⟨hce, hkl, hfa⟩
            clear h1 h2 h3 h4 h5 h6 hfr hrel hat hce hnone hk hle hkl hfa
            go_wp2_with (first
              | (go_at_call 63; refine HTK.out.mono ?_; rintro e' w1 ⟨rfl, k1, k2, k3⟩; have c3 : w1.cell? ⟨br, 3, none⟩ = some (.bool false) := cell_of k1.rd rfl; have K1 : Hid (Rc w1 hi br bc bl bvr bvs bs cp B a cpl m L k false [] (fun x => S x ∨ wr.heap.size ≤ x) N ∧ Fr T w w1 ∧ ∀ x, (S x ∨ wr.heap.size ≤ x) → T x ∨ w.heap.size ≤ x) := ⟨k1, k2, k3⟩; clear k1 k2 k3)
              | (go_at_call 64; refine (readOnE_no K1.out.1 HC.out.2.1 HC.out.2.2).mono ?_; rintro e' w2 ⟨rfl, hce, hf2⟩))
            obtain ⟨t1, t2, t3, t4, _⟩ := HT.out
            refine ⟨rfl, .inr ⟨?_, ?_, ?_⟩, K1.out.2.1.trans hf2 (fun i hi h => ?_)⟩
            · rw [HC.out.1]; exact HC.out.2.2
            · rw [HC.out.1]
            · rw [HC.out.1, hce]
              rfl
            · subst h
              rcases t2 with h | h
              · exact h
              · omega

end Go.Proofs.YtmhaknejeobfgaaGreatDoor

/- BeginC. -/
namespace Go.Proofs.YtmhaknejeobfgaaGreatDoor
open Go.RowKit Go.Proofs.YtmhaknejeobfgaaGreatDoor.Stable Go.Proofs.YtmhaknejeobfgaaGreatDoor.Order Go.Proofs.YtmhaknejeobfgaaGreatDoor.Points
attribute [local go_sem ↓] Go.wp_at_zero Go.wp_at_succ

theorem gone_zero (L : List Chk) : goneIn L 0 false = [] ∧ waitsIn L 0 false = [] := ⟨sure_nil.1, sure_nil.2⟩

theorem rel_zero (m : Int) (L : List Chk) : relOf m L 0 false = [] := by
  unfold relOf
  rw [(gone_zero L).1, ← inE_const, inE_nil]

theorem beginC_done {w w1 : World} {b0 bc bl b1 cp B n : Nat} {cs cs1 : Array Value} {m : Int} {a : Option Addr} {cpl : Nat} {L : List Chk} (h0 : 0 ≤ m) (h3 : m ≤ 3) (hn : (kindL m).length = n) (hE : Env w) (hg : 11 ≤ b0) (hsrc : Src w b0 bc a cpl L 0) (ht : TabIn w b0 B) (hf : Fresh cs B m n) (hbd : 432 * (bytesOf L).length ≤ 1099511627776)
    (p1 : LineBlk w1 bl b1 n cp 135) (p2 : w.heap.size ≤ b1) (p3 : b1 < bl) (p4 : w1.heap[b1]? = some (.cells cs1 106 (0, 0))) (p5 : ∀ i, i < 8 * n → cs1[i]? = cs[i]?) (p6 : Fr (fun _ => False) w w1) :
    RcM (((w1.alloc (.cells #[.iface 89 (.pointer (some ⟨bc, 0, none⟩)), .pointer (some ⟨bl, 0, none⟩), .func (.func 60) #[] #[.pointer (some ⟨w1.heap.size + 1, 0, none⟩), .pointer (some ⟨w1.heap.size + 1 + 1, 0, none⟩)], .bool false] 112)).alloc (.cells #[.pointer (some ⟨w1.heap.size, 0, none⟩)] 71)).alloc (.cells #[.pointer (some ⟨bc, 0, none⟩)] 89)) b0 w1.heap.size bc a cpl m L 0 false 0 (fun x => x = bc ∨ w.heap.size ≤ x) ∧
    Fr (fun _ => False) w (((w1.alloc (.cells #[.iface 89 (.pointer (some ⟨bc, 0, none⟩)), .pointer (some ⟨bl, 0, none⟩), .func (.func 60) #[] #[.pointer (some ⟨w1.heap.size + 1, 0, none⟩), .pointer (some ⟨w1.heap.size + 1 + 1, 0, none⟩)], .bool false] 112)).alloc (.cells #[.pointer (some ⟨w1.heap.size, 0, none⟩)] 71)).alloc (.cells #[.pointer (some ⟨bc, 0, none⟩)] 89)) := by
  obtain ⟨A, hA⟩ : ∃ A, A = w1.alloc (.cells #[.iface 89 (.pointer (some ⟨bc, 0, none⟩)), .pointer (some ⟨bl, 0, none⟩), .func (.func 60) #[] #[.pointer (some ⟨w1.heap.size + 1, 0, none⟩), .pointer (some ⟨w1.heap.size + 1 + 1, 0, none⟩)], .bool false] 112) := ⟨_, rfl⟩
  rw [← hA]
  obtain ⟨Bw, hB⟩ : ∃ Bw, Bw = A.alloc (.cells #[.pointer (some ⟨w1.heap.size, 0, none⟩)] 71) := ⟨_, rfl⟩
  rw [← hB]
  obtain ⟨C, hC⟩ : ∃ C, C = Bw.alloc (.cells #[.pointer (some ⟨bc, 0, none⟩)] 89) := ⟨_, rfl⟩
  rw [← hC]
  have sA : A.heap.size = w1.heap.size + 1 := by rw [hA]; simp
  have sB : Bw.heap.size = w1.heap.size + 2 := by rw [hB]; simp [sA]
  have sC : C.heap.size = w1.heap.size + 3 := by rw [hC]; simp [sB]
  have rA : A.heap[w1.heap.size]? = some (.cells #[.iface 89 (.pointer (some ⟨bc, 0, none⟩)), .pointer (some ⟨bl, 0, none⟩), .func (.func 60) #[] #[.pointer (some ⟨w1.heap.size + 1, 0, none⟩), .pointer (some ⟨w1.heap.size + 1 + 1, 0, none⟩)], .bool false] 112 (0, 0)) := by rw [hA]; exact heap_alloc_new w1 _
  have rB : Bw.heap[w1.heap.size + 1]? = some (.cells #[.pointer (some ⟨w1.heap.size, 0, none⟩)] 71 (0, 0)) := by rw [hB, ← sA]; exact heap_alloc_new A _
  have rC : C.heap[w1.heap.size + 2]? = some (.cells #[.pointer (some ⟨bc, 0, none⟩)] 89 (0, 0)) := by rw [hC, ← sB]; exact heap_alloc_new Bw _
  have fAB : Fr (fun _ => False) A Bw := by rw [hB]; exact (Fr.refl _ _).alloc _
  have fBC : Fr (fun _ => False) Bw C := by rw [hC]; exact (Fr.refl _ _).alloc _
  have f1C : Fr (fun _ => False) w1 C := by rw [hC, hB, hA]; exact (((Fr.refl _ _).alloc _).alloc _).alloc _
  have rAC : C.heap[w1.heap.size]? = some (.cells #[.iface 89 (.pointer (some ⟨bc, 0, none⟩)), .pointer (some ⟨bl, 0, none⟩), .func (.func 60) #[] #[.pointer (some ⟨w1.heap.size + 1, 0, none⟩), .pointer (some ⟨w1.heap.size + 1 + 1, 0, none⟩)], .bool false] 112 (0, 0)) := (fBC.block _ (by omega) id).trans ((fAB.block _ (by omega) id).trans rA)
  have l1 := lt_of p4
  have l2 := lt_of p1
  have l3 := lt_of hsrc.blk
  have s6 := p6.size
  have hbb := hsrc.hb
  have fwX : Fr (fun _ => False) w C := p6.trans f1C (fun _ _ h => h)
  have hnn : n = stagesOf m := by rw [← (kind_at h0 h3).1, hn]
  have hlin : Lin C b0 bl b1 cp B (stagesOf m) (kindAt m) (goneIn L 0 false) (waitsIn L 0 false) false [] (fun x => x = b1 ∨ x = bl) 0 := by
    rw [(gone_zero L).1, (gone_zero L).2, ← hnn]
    refine ⟨⟨_, none, fun x => x = b1, p1.kept f1C id, rfl, ⟨.slice none 0 0, [], rfl, rfl, ⟨rfl, .inl ⟨rfl, rfl⟩⟩, rfl, Nat.le_refl _, fun _ => rfl⟩, by simp, ?_, by omega, fun x hx => (by cases hx), fun x hx => .inl hx, .inr rfl⟩, fun x hx => by omega, ?_, ?_, fun c hc => (by cases hc), fun c hc => (by cases hc), slim_kindAt h0 h3⟩
    · exact sts_fresh h0 h3 hn ((f1C.block b1 l1 id).trans p4) p5 hf (ht.kept fwX (fun _ _ => id)) (by omega)
    · rcases modes h0 h3 with rfl | rfl | rfl | rfl <;> (subst hn; decide)
    · rcases modes h0 h3 with rfl | rfl | rfl | rfl <;> (subst hn; decide)
  refine ⟨⟨bl, w1.heap.size + 1, w1.heap.size + 1 + 1, b1, cp, B, [], _, 0, [], ⟨rAC, hsrc.kept fwX (fun _ _ => id) id, (fBC.block _ (by omega) id).trans rB, rC, hlin, ⟨by omega, by omega, by omega, by omega⟩, ⟨by omega, by omega, by omega, by omega, by omega⟩, ⟨by omega, hg⟩, hE.kept fwX (fun _ _ => id), fun h => (by cases h), hbd, Nat.zero_le _⟩, rel_zero m L, rfl, .inr (by omega), .inl rfl, .inr (by omega), .inr (by omega), fun x hx => .inr (by omega)⟩, fwX⟩

set_option maxRecDepth 100000 in
set_option maxHeartbeats 800000 in
theorem beginC_calls {w : World} {b0 n bc B : Nat} {cs : Array Value} {m : Int} {a : Option Addr} {cpl : Nat} {L : List Chk} (h0 : 0 ≤ m) (h3 : m ≤ 3) (hn : (kindL m).length = n) (hE : Env w) (hg : 11 ≤ b0) (hsrc : Src w b0 bc a cpl L 0) (ht : TabIn w b0 B) (hf : Fresh cs B m n) (hbd : 432 * (bytesOf L).length ≤ 1099511627776) (hb : w.heap[b0]? = some (.cells cs 106 (0, 0))) (hs : cs.size = 8 * n) :
    Calls Tryz.prog 34 #[.slice (some ⟨b0, 0, none⟩) n n, .iface 89 (.pointer (some ⟨bc, 0, none⟩))] w fun e w' => ∃ br, e = .returned (.pointer (some ⟨br, 0, none⟩)) ∧ RcM w' b0 br bc a cpl m L 0 false 0 (fun x => x = bc ∨ w.heap.size ≤ x) ∧ Fr (fun _ => False) w w' ∧ w.heap.size ≤ br := by
  have hn1 : 1 ≤ n := by
    rcases modes h0 h3 with rfl | rfl | rfl | rfl <;> (subst hn; decide)
  have hn3 : n ≤ 3 := by
    rcases modes h0 h3 with rfl | rfl | rfl | rfl <;> (subst hn; decide)
  have h1 : ∀ u ∈ cs.toList, u.oneCell' = true := by
    intro u hu
    obtain ⟨i, hi⟩ := List.getElem?_of_mem hu
    have hil : i < cs.size := by
      have := (List.getElem?_eq_some_iff.1 hi).1
      simpa using this
    obtain ⟨a, j, hj, rfl⟩ : ∃ a j, j < 8 ∧ i = 8 * a + j := ⟨i / 8, i % 8, by omega, by omega⟩
    have h2 := hf a (by omega) j hj
    rw [← Array.getElem?_toList, hi] at h2
    rcases (by omega : j = 0 ∨ j = 1 ∨ j = 2 ∨ j = 3 ∨ j = 4 ∨ j = 5 ∨ j = 6 ∨ j = 7) with rfl | rfl | rfl | rfl | rfl | rfl | rfl | rfl <;> (cases h2; rfl)
  have hta1 : ∀ (p : Option Addr) (w : World), (Instr.typeAssert (.iface 89 (.pointer p)) 108 73 true).run Tryz.prog w = .ok (.tuple #[.pointer none, .bool false]) w := fun p w => by kernel_rfl
  have hta2 : ∀ (p : Option Addr) (w : World), (Instr.typeAssert (.iface 89 (.pointer p)) 108 89 true).run Tryz.prog w = .ok (.tuple #[.pointer p, .bool true]) w := fun p w => by kernel_rfl
  have hmf : ∀ (fn : Fn) (first cap : Array Value) (w : World), (Instr.makeFunc fn first cap).run Tryz.prog w = .ok (.func fn first cap) w := fun _ _ _ _ => rfl
  have HB : Hid (w.heap[b0]? = some (.cells cs 106 (0, 0)) ∧ cs.size = 8 * n ∧ ∀ u ∈ cs.toList, u.oneCell' = true) := ⟨hb, hs, h1⟩
  have HD : Hid (∀ (w1 : World) (bl b1 cp : Nat) (cs1 : Array Value), LineBlk w1 bl b1 n cp 135 → w.heap.size ≤ b1 → b1 < bl → w1.heap[b1]? = some (.cells cs1 106 (0, 0)) → (∀ i, i < 8 * n → cs1[i]? = cs[i]?) → Fr (fun _ => False) w w1 → _) := Hid.to (fun w1 bl b1 cp cs1 p1 p2 p3 p4 p5 p6 => beginC_done h0 h3 hn hE hg hsrc ht hf hbd p1 p2 p3 p4 p5 p6)
  clear hb hs h1 h0 h3 hn hE hg hsrc ht hf hbd
  go_enter Tryz.func34, Tryz.ntmps34
  go_wp2_with (go_at_call 56; refine (newLine_calls hn1 hn3 HB.out.1 HB.out.2.1 HB.out.2.2).mono ?_; rintro e w1 ⟨bl, b1, cp, cs1, rfl, p1, p2, p3, p4, p5, p6⟩; have HP : Hid (LineBlk w1 bl b1 n cp 135 ∧ w.heap.size ≤ b1 ∧ b1 < bl ∧ w1.heap[b1]? = some (.cells cs1 106 (0, 0)) ∧ (∀ i, i < 8 * n → cs1[i]? = cs[i]?) ∧ Fr (fun _ => False) w w1) := ⟨p1, p2, p3, p4, p5, p6⟩; clear p1 p2 p3 p4 p5 p6)
  go_ret
  obtain ⟨p1, p2, p3, p4, p5, p6⟩ := HP.out
  obtain ⟨q1, q2⟩ := HD.out w1 bl b1 cp cs1 p1 p2 p3 p4 p5 p6
  exact ⟨_, rfl, q1, q2, p6.size⟩

end Go.Proofs.YtmhaknejeobfgaaGreatDoor
