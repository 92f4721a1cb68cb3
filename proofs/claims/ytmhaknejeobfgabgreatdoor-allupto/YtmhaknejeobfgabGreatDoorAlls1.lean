/- The law All, its own small functions: a list with spare room that is lent. The law All: lent, walked. The law All: back, walked: what was lent is as it was; then its owner writes over it. The law All: the lists that came out, kept by their owner: kept, walked. The law All: how the owner's book changes. The law All: keep, walked: a list that came out is its owner's. The law All: one call of a script: what is around it. -/
import Derived.Test.YtmhaknejeobfgabGreatDoorDigesting
import Derived.Test.YtmhaknejeobfgabGreatDoorRefs2
import Derived.Laws.CopyRow
import Derived.Laws.ResultCell
import Derived.Deep.RegionHeld3
import Derived.Deep.RegionLaw
import Derived.Deep.AppendLies
import Derived.Deep.DeepAppendRoom
import Derived.ArgAppend

/- All1. -/
namespace Go.Proofs.YtmhaknejeobfgabGreatDoor
open Go.RowKit Go.Proofs.YtmhaknejeobfgabGreatDoor.Stable Go.Proofs.YtmhaknejeobfgabGreatDoor.Order Go.Proofs.YtmhaknejeobfgabGreatDoor.Points
attribute [local go_sem ↓] Go.wp_at_zero Go.wp_at_succ

/-- copy of elements of two cells each. -/
theorem run_copy_two {P : Program} (w : World) (dT sT ty elem : TypeId) (g dLen dCap : Nat) (a : Addr) (sLen sCap m : Nat) (cur : Array Value) (t : TypeId) (cs : List Value)
    (hu : P.underlying dT = some (.slice elem)) (hs : (P.info? elem).map (·.size) = some 2)
    (hg : w.heap[g]? = some (.cells cur t (0, 0))) (hm : m = Nat.min sLen dLen) (hn : cs.length = m * 2)
    (hsrc : ∀ j v, cs[j]? = some v → w.cell? (a.add j) = some v) (hfit : cs.length ≤ cur.size) (h1 : ∀ v ∈ cs, v.oneCell' = true) :
    (Builtin.copy_ #[dT, sT] ty #[.slice (some ⟨g, 0, none⟩) dLen dCap, .slice (some a) sLen sCap]).run P w =
      .ok (goInt m) (w.setRow g (cs ++ cur.toList.drop cs.length).toArray) := by
  have hl := run_loadCells_list (P := P) w a cs hsrc
  have hst := run_storeCells_at P g 0 t cs 0 cur w hg (by simpa using hfit) h1
  rw [hn] at hl
  simp only [Nat.zero_add, List.take_zero, List.nil_append] at hst
  cases hq : P.info? elem with
  | none => simp [hq] at hs
  | some i =>
    have hi : i.size = 2 := by simpa [hq] using hs
    simp [Builtin.copy_, run_underlying hu, Builtin.lenOf, Builtin.firstCells, sizeOf, typeInfo, hq, hi, ← hm, hl, hst]

theorem run_copy_any {P : Program} (w : World) (dT sT ty elem : TypeId) (hu : P.underlying dT = some (.slice elem)) (hsz : (P.info? elem).map (·.size) = some 2)
    (g dLen dCap : Nat) (sp : Option Addr) (sLen sCap : Nat)
    (cur : Array Value) (t : TypeId) (hg : w.heap[g]? = some (.cells cur t (0, 0))) (cs : List Value) (hle : sLen ≤ dLen) (hn : cs.length = sLen * 2)
    (hsrc : 0 < sLen → ∃ ad, sp = some ad ∧ ∀ j v, cs[j]? = some v → w.cell? (ad.add j) = some v) (hnil : sp = none → sCap = 0) (hfit : cs.length ≤ cur.size) (h1 : ∀ v ∈ cs, v.oneCell' = true) :
    (Builtin.copy_ #[dT, sT] ty #[.slice (some ⟨g, 0, none⟩) dLen dCap, .slice sp sLen sCap]).run P w = .ok (goInt sLen) (w.setRow g (cs ++ cur.toList.drop cs.length).toArray) := by
  have hmin : sLen = Nat.min sLen dLen := (Nat.min_eq_left hle).symm
  cases sp with
  | some ad =>
    refine run_copy_two w dT sT ty elem g dLen dCap ad sLen sCap sLen cur t cs hu hsz hg hmin hn (fun j v hj => ?_) hfit h1
    have hpos : 0 < sLen := by
      have := (List.getElem?_eq_some_iff.1 hj).1
      omega
    obtain ⟨ad', e, h2⟩ := hsrc hpos
    cases e
    exact h2 j v hj
  | none =>
    have h0 : sLen = 0 := by
      rcases Nat.eq_zero_or_pos sLen with h0 | h0
      · exact h0
      · obtain ⟨ad', e, _⟩ := hsrc h0
        cases e
    have hc : cs = [] := List.eq_nil_of_length_eq_zero (by omega)
    subst hc
    obtain rfl : sCap = 0 := hnil rfl
    subst h0
    have e1 : (([] : List Value) ++ cur.toList.drop ([] : List Value).length).toArray = cur := by simp
    rw [e1, setRow_self w g cur t (0, 0) hg]
    exact run_copy_nil P w dT sT ty elem ⟨g, 0, none⟩ dLen dCap hu (by rw [hsz]; rfl)

/-- What lies in the spare room. -/
def bhText : List UInt8 := [98, 101, 104, 105, 110, 100]
def bh (i : Nat) : Chk := (90 + (i : Int), bhText)
def zeroChk : Chk := (0, [])

theorem behind_calls (z : Int) (w : World) (h0 : -1099511627776 ≤ z) (h1 : z ≤ 1099511627776) :
    Calls Tryz.prog 66 #[.int .i64 z] w fun e w' => e = .returned (.agg #[.int .i64 (90 + z), .string ⟨bhText.toArray⟩]) ∧ Fr (fun _ => False) w w' := by
  go_enter Tryz.func66, Tryz.ntmps66
  go_wp2
  try simp only [Exit.inBlock, Exit.then]
  refine bodyPost_ret (v := .agg #[.int .i64 (90 + z), .string ⟨bhText.toArray⟩]) ?_ rfl ⟨rfl, (Fr.refl _ _).alloc _⟩
  simp [results, Tryz.results66, go_sem]
  rfl

/-- Chunks in a block of their own. -/
def chArr (L : List Chk) : Array Value := (chCells L).toArray

theorem chArr_size (L : List Chk) : (chArr L).size = L.length * 2 := by
  unfold chArr
  rw [← Array.length_toList, List.toList_toArray, chCells_length]

theorem chCells_cons (c : Chk) (L : List Chk) : chCells (c :: L) = .int .i64 c.1 :: .string ⟨c.2.toArray⟩ :: chCells L := rfl

theorem chCells_set : ∀ (L : List Chk) (i : Nat) (c : Chk), i < L.length → ((chCells L).set (i * 2) (.int .i64 c.1)).set (i * 2 + 1) (.string ⟨c.2.toArray⟩) = chCells (L.set i c)
  | [], i, c, h => absurd h (Nat.not_lt_zero _)
  | d :: r, 0, c, h => rfl
  | d :: r, i + 1, c, h => by
    have ih := chCells_set r i c (by simp at h; omega)
    rw [chCells_cons, List.set_cons_succ, chCells_cons, ← ih, show (i + 1) * 2 = i * 2 + 1 + 1 by omega, List.set_cons_succ, List.set_cons_succ, List.set_cons_succ, List.set_cons_succ]

theorem chArr_set {L : List Chk} {i : Nat} (c : Chk) (h : i < L.length) : ((chArr L).setIfInBounds (i * 2) (.int .i64 c.1)).setIfInBounds (i * 2 + 1) (.string ⟨c.2.toArray⟩) = chArr (L.set i c) := by
  unfold chArr
  rw [← chCells_set L i c h]
  simp

theorem chArr_at {L : List Chk} {i : Nat} {c : Chk} (h : L[i]? = some c) : (chArr L)[i * 2]? = some (.int .i64 c.1) ∧ (chArr L)[i * 2 + 1]? = some (.string ⟨c.2.toArray⟩) := by
  have := chCells_at L i c h
  unfold chArr
  simpa using this

theorem made_chunks (n : Nat) : madeCells #[.int .i64 0, .string ⟨#[]⟩] (n * 2) = chArr (List.replicate n zeroChk) := by
  apply Array.ext
  · rw [size_madeCells, chArr_size, List.length_replicate]
  · intro j h1 h2
    rw [size_madeCells] at h1
    have hr : (List.replicate n zeroChk)[j / 2]? = some zeroChk := by rw [List.getElem?_replicate]; simp; omega
    obtain ⟨e1, e2⟩ := chArr_at hr
    have hm : (madeCells #[.int .i64 0, .string ⟨#[]⟩] (n * 2))[j]'(by rw [size_madeCells]; exact h1) = (#[Value.int .i64 0, Value.string ⟨#[]⟩] : Array Value)[j % 2]! := by
      simp [madeCells]
    rw [hm]
    rcases Nat.mod_two_eq_zero_or_one j with h | h
    · have hj : j / 2 * 2 = j := by omega
      rw [hj] at e1
      rw [h]
      have := Array.getElem?_eq_getElem h2
      rw [this] at e1
      exact (Option.some.inj e1).symm ▸ rfl
    · have hj : j / 2 * 2 + 1 = j := by omega
      rw [hj] at e2
      rw [h]
      have := Array.getElem?_eq_getElem h2
      rw [this] at e2
      exact (Option.some.inj e2).symm ▸ rfl

end Go.Proofs.YtmhaknejeobfgabGreatDoor

/- All2. -/
namespace Go.Proofs.YtmhaknejeobfgabGreatDoor
open Go.RowKit Go.Proofs.YtmhaknejeobfgabGreatDoor.Stable Go.Proofs.YtmhaknejeobfgabGreatDoor.Order Go.Proofs.YtmhaknejeobfgabGreatDoor.Points
attribute [local go_sem ↓] Go.wp_at_zero Go.wp_at_succ

/-- A list that is being lent. -/
def lendAt (L : List Chk) (i : Nat) : List Chk := L ++ (List.range 8).map fun k => if k < i then bh k else zeroChk

theorem lend_len (L : List Chk) (i : Nat) : (lendAt L i).length = L.length + 8 := by simp [lendAt]

theorem lend_step (L : List Chk) {i n : Nat} (h : i < 8) (hn : n = L.length) : (lendAt L i).set (n + i) (bh i) = lendAt L (i + 1) := by
  unfold lendAt
  rw [hn, List.set_append_right _ _ (by omega), Nat.add_sub_cancel_left]
  congr 1
  match i, h with
  | 0, _ => rfl
  | 1, _ => rfl
  | 2, _ => rfl
  | 3, _ => rfl
  | 4, _ => rfl
  | 5, _ => rfl
  | 6, _ => rfl
  | 7, _ => rfl

theorem lend_zero (L : List Chk) : lendAt L 0 = L ++ List.replicate 8 zeroChk := rfl

/-- A list that was lent, its spare room behind it. -/
def lentL (L : List Chk) : List Chk := L ++ (List.range 8).map bh

theorem lend_at (L : List Chk) {i n : Nat} (h : i < 8) (hn : n = L.length) : ∃ c, (lendAt L i)[n + i]? = some c := ⟨_, List.getElem?_eq_getElem (by rw [lend_len]; omega)⟩

/-- The cells of chunks that came in, to be copied. -/
theorem chunks_src {w : World} {hi : Nat} {a : Option Addr} {L : List Chk} (h : ChunksIn w hi a L) (hp : 0 < L.length) : ∃ ad, a = some ad ∧ ∀ j v, (chCells L)[j]? = some v → w.cell? (ad.add j) = some v := by
  obtain ⟨b, off, rfl, _⟩ := h 0 _ (List.getElem?_eq_getElem hp)
  refine ⟨_, rfl, fun j v hj => ?_⟩
  have hlt : j < L.length * 2 := by
    have := (List.getElem?_eq_some_iff.1 hj).1
    rwa [chCells_length] at this
  have hq : L[j / 2]? = some (L[j / 2]'(by omega)) := List.getElem?_eq_getElem (by omega)
  obtain ⟨b', off', e, _, _, h4, h5, _⟩ := h (j / 2) _ hq
  cases e
  have ha : (⟨b, off, none⟩ : Addr).add j = ⟨b, off + j, none⟩ := by unfold Addr.add; split <;> simp_all
  obtain ⟨e1, e2⟩ := chCells_at L (j / 2) _ hq
  rw [ha]
  rcases Nat.mod_two_eq_zero_or_one j with hm | hm
  · have hj2 : j / 2 * 2 = j := by omega
    rw [hj2] at e1 h4
    rw [e1] at hj
    cases hj
    exact h4
  · have hj2 : j / 2 * 2 + 1 = j := by omega
    rw [hj2] at e2
    rw [show off + j / 2 * 2 + 1 = off + j by omega] at h5
    rw [e2] at hj
    cases hj
    exact h5

/-- Where lent stands. -/
structure LeAt (w wr : World) (g : Nat) (X : List Chk) : Prop where
  blk : wr.heap[g]? = some (.cells (chArr X) 49 (0, 0))
  fr : Fr (fun _ => False) w wr
  new : w.heap.size ≤ g

theorem LeAt.keep {w wr w' : World} {g : Nat} {X : List Chk} (h : LeAt w wr g X) (f : Fr (fun _ => False) wr w') : LeAt w w' g X := ⟨(f.block g (lt_of h.blk) id).trans h.blk, h.fr.trans f (fun _ _ h => h), h.new⟩

theorem LeAt.put {w wr : World} {g i : Nat} {X : List Chk} (h : LeAt w wr g X) (hi : i < X.length) (c : Chk) : LeAt w ((wr.setCell ⟨g, i * 2, none⟩ (.int .i64 c.1)).setCell ⟨g, i * 2 + 1, none⟩ (.string ⟨c.2.toArray⟩)) g (X.set i c) := by
  have hn := h.new
  refine ⟨?_, (h.fr.setCell _ _ (fun k => ?_)).setCell _ _ (fun k => ?_), h.new⟩
  · rw [set_of (set_of h.blk _ _) _ _, chArr_set c hi]
  · have k' : g < w.heap.size := k
    omega
  · have k' : g < w.heap.size := k
    omega

set_option maxRecDepth 100000 in
set_option maxHeartbeats 1600000 in
theorem lent_calls {w : World} {a : Option Addr} {L : List Chk} {cp n : Nat} (h : ChunksIn w w.heap.size a L) (hnil : a = none → cp = 0) (hn : n = L.length) (hl : n ≤ 1048576) :
    Calls Tryz.prog 40 #[.slice a n cp] w fun e w' => e = .returned (.slice (some ⟨w.heap.size, 0, none⟩) (n + 8) (n + 8)) ∧ LeAt w w' w.heap.size (lentL L) := by
  obtain ⟨i0, hi0, hz0, hz1, hz2⟩ := info_parts Tryz.info_chunk
  have hmk : ∀ w : World, (Instr.makeSlice 22 (.int .i64 ((n : Int) + 8)) (.int .i64 ((n : Int) + 8))).run Tryz.prog w = .ok (.slice (some ⟨w.heap.size, 0, none⟩) (n + 8) (n + 8)) (w.alloc (.cells (chArr (List.replicate (n + 8) zeroChk)) 49)) := fun w => by
    have := run_make (P := Tryz.prog) w 22 49 i0 _ Tryz.underlying22 hi0 hz0 .i64 .i64 ((n : Int) + 8) ((n : Int) + 8) (by omega) (Int.le_refl _) (by rw [hz2]; omega) (by omega)
    rw [this, hz1, show ((n : Int) + 8).toNat = n + 8 by omega]
    have e : (Value.agg #[.int .i64 0, .string ⟨#[]⟩]).cells = #[.int .i64 0, .string ⟨#[]⟩] := rfl
    rw [e, made_chunks]
  have hsz : (Tryz.prog.info? 49).map (·.size) = some 2 := by rw [hi0]; simp [hz1]
  have hb0 : (w.alloc (.cells (chArr (List.replicate (n + 8) zeroChk)) 49)).heap[w.heap.size]? = some (.cells (chArr (List.replicate (n + 8) zeroChk)) 49 (0, 0)) := heap_alloc_new w _
  have hch : ChunksIn (w.alloc (.cells (chArr (List.replicate (n + 8) zeroChk)) 49)) w.heap.size a L := h.kept ((Fr.refl (fun _ => False) w).alloc _) (fun _ _ => id)
  have hdr : (chArr (List.replicate (n + 8) zeroChk)).toList.drop (chCells L).length = chCells (List.replicate 8 zeroChk) := by
    unfold chArr
    rw [List.toList_toArray, show List.replicate (n + 8) zeroChk = List.replicate n zeroChk ++ List.replicate 8 zeroChk by rw [List.replicate_append_replicate], chCells_append, List.drop_left' (by rw [chCells_length, chCells_length, List.length_replicate, hn])]
  have hst : LeAt w ((w.alloc (.cells (chArr (List.replicate (n + 8) zeroChk)) 49)).setRow w.heap.size (chCells L ++ (chArr (List.replicate (n + 8) zeroChk)).toList.drop (chCells L).length).toArray) w.heap.size (lendAt L 0) := by
    refine ⟨?_, ?_, Nat.le_refl _⟩
    · rw [hdr, ← chCells_append, ← lend_zero]
      exact setRow_heap _ _ _ _ _ _ hb0
    · have f1 : Fr (fun _ => False) w (w.alloc (.cells (chArr (List.replicate (n + 8) zeroChk)) 49)) := (Fr.refl _ _).alloc _
      exact ⟨f1.os, f1.tape, f1.output, by simp [World.setRow], fun k hk _ => (setRow_other _ _ k _ (by omega)).trans (f1.block k hk id)⟩
  have hcp : (Builtin.copy_ #[22, 22] 3 #[.slice (some ⟨w.heap.size, 0, none⟩) (n + 8) (n + 8), .slice a n cp]).run Tryz.prog (w.alloc (.cells (chArr (List.replicate (n + 8) zeroChk)) 49)) = .ok (.int .i64 (n : Int)) ((w.alloc (.cells (chArr (List.replicate (n + 8) zeroChk)) 49)).setRow w.heap.size (chCells L ++ (chArr (List.replicate (n + 8) zeroChk)).toList.drop (chCells L).length).toArray) :=
    run_copy_any _ _ _ _ _ Tryz.underlying22 hsz w.heap.size (n + 8) (n + 8) a n cp _ _ hb0 (chCells L) (by omega) (by rw [chCells_length, hn]) (fun hp => chunks_src hch (by omega)) hnil (by rw [chArr_size, chCells_length, List.length_replicate]; omega) (chCells_one L)
  have HST : Hid (LeAt w ((w.alloc (.cells (chArr (List.replicate (n + 8) zeroChk)) 49)).setRow w.heap.size (chCells L ++ (chArr (List.replicate (n + 8) zeroChk)).toList.drop (chCells L).length).toArray) w.heap.size (lendAt L 0)) := hst
  have HN : Hid (n = L.length) := hn
  clear hi0 hz0 hz1 hz2 hsz hb0 hch hst h hn hnil hdr
  go_enter Tryz.func40, Tryz.ntmps40
  go_wp2
  generalize (w.alloc (.cells (chArr (List.replicate (n + 8) zeroChk)) 49)).setRow w.heap.size (chCells L ++ (chArr (List.replicate (n + 8) zeroChk)).toList.drop (chCells L).length).toArray = w0 at *
  obtain ⟨g, hg⟩ : ∃ g, g = w.heap.size := ⟨_, rfl⟩
  rw [← hg] at HST ⊢
  have HG : Hid (g = w.heap.size) := hg
  clear hcp hmk hg
  go_loopw [4] (fun v4 wr => ∃ i : Nat, v4 = .int .i64 i ∧ i ≤ 8 ∧ Hid (LeAt w wr g (lendAt L i))) (fun v4 _ => 8 - (intOf v4).toNat)
  case atStart => exact ⟨0, rfl, Nat.zero_le _, HST.out⟩
  case round =>
    obtain ⟨i, rfl, hi, HX⟩ := hrel
    by_cases hlt : i < 8
    · have i2 : (i : Int) < 8 := by omega
      have i0' : (0 : Int) ≤ (n : Int) + (i : Int) := by omega
      have i1' : (n : Int) + (i : Int) < (n : Int) + 8 := by omega
      go_wp2_with (go_at_call 66; refine (behind_calls i _ (by omega) (by omega)).mono ?_; rintro e w1 ⟨rfl, hf1⟩; have H1 : Hid (LeAt w w1 g (lendAt L i)) := HX.out.keep hf1; clear hf1; obtain ⟨c0, hc0⟩ := lend_at L hlt HN.out; obtain ⟨q1, q2⟩ := chArr_at hc0; have e1 : w1.cell? ⟨g, (n + i) * 2, none⟩ = some (.int .i64 c0.1) := cell_of H1.out.blk q1; have e2 : w1.cell? ⟨g, (n + i) * 2 + 1, none⟩ = some (.string ⟨c0.2.toArray⟩) := cell_of H1.out.blk q2; have f1 : w1.frozen? ⟨g, (n + i) * 2, none⟩ = false := frozen_of H1.out.blk _; have f2 : w1.frozen? ⟨g, (n + i) * 2 + 1, none⟩ = false := frozen_of H1.out.blk _; clear hc0 q1 q2)
      have h2 := H1.out.put (i := n + i) (by rw [lend_len, ← HN.out]; omega) (bh i)
      rw [lend_step L hlt HN.out] at h2
      exact ⟨⟨i + 1, by go_num, by omega, h2⟩, by simp [intOf]; omega⟩
    · obtain rfl : i = 8 := by omega
      have HX2 : Hid (LeAt w wr g (lentL L) ∧ g = w.heap.size) := ⟨HX.out, HG.out⟩
      clear HX
      go_wp2
      go_ret
      exact ⟨by rw [← HX2.out.2]; rfl, by rw [← HX2.out.2]; exact HX2.out.1⟩

end Go.Proofs.YtmhaknejeobfgabGreatDoor

/- All3. -/
namespace Go.Proofs.YtmhaknejeobfgabGreatDoor
open Go.RowKit Go.Proofs.YtmhaknejeobfgabGreatDoor.Stable Go.Proofs.YtmhaknejeobfgabGreatDoor.Order Go.Proofs.YtmhaknejeobfgabGreatDoor.Points
attribute [local go_sem ↓] Go.wp_at_zero Go.wp_at_succ

def otherChk : Chk := (99, [111, 116, 104, 101, 114])

/-- A list that is being written over. -/
def overAt (X : List Chk) (i : Nat) : List Chk := List.replicate i otherChk ++ X.drop i

theorem over_len {X : List Chk} {i : Nat} (h : i ≤ X.length) : (overAt X i).length = X.length := by
  unfold overAt
  rw [List.length_append, List.length_replicate, List.length_drop]
  omega

theorem over_at {X : List Chk} {i : Nat} {c : Chk} (h : X[i]? = some c) : (overAt X i)[i]? = some c := by
  unfold overAt
  rw [List.getElem?_append_right (by simp), List.length_replicate, Nat.sub_self, List.getElem?_drop, Nat.add_zero]
  exact h

theorem over_step {X : List Chk} {i : Nat} (h : i < X.length) : (overAt X i).set i otherChk = overAt X (i + 1) := by
  unfold overAt
  rw [List.set_append_right _ _ (by simp), List.length_replicate, Nat.sub_self, List.drop_eq_getElem_cons h, List.set_cons_zero, List.replicate_succ', List.append_assoc]
  rfl

/-- Where back stands. -/
structure BkAt (w wr : World) (g : Nat) (X : List Chk) : Prop where
  blk : wr.heap[g]? = some (.cells (chArr X) 49 (0, 0))
  fr : Fr (fun i => i = g) w wr

theorem BkAt.keep {w wr w' : World} {g : Nat} {X : List Chk} (h : BkAt w wr g X) (f : Fr (fun _ => False) wr w') : BkAt w w' g X := ⟨(f.block g (lt_of h.blk) id).trans h.blk, h.fr.trans f (fun _ _ h => h.elim)⟩

theorem BkAt.put {w wr : World} {g i : Nat} {X : List Chk} (h : BkAt w wr g X) (hi : i < X.length) (c : Chk) : BkAt w ((wr.setCell ⟨g, i * 2, none⟩ (.int .i64 c.1)).setCell ⟨g, i * 2 + 1, none⟩ (.string ⟨c.2.toArray⟩)) g (X.set i c) := by
  refine ⟨?_, (h.fr.setCell _ _ (fun _ => rfl)).setCell _ _ (fun _ => rfl)⟩
  rw [set_of (set_of h.blk _ _) _ _, chArr_set c hi]

theorem lent_old {L : List Chk} {i : Nat} (h : i < L.length) : (lentL L)[i]? = L[i]? := List.getElem?_append_left h

theorem lent_new {L : List Chk} {i : Nat} (h : L.length ≤ i) (h2 : i < L.length + 8) : (lentL L)[i]? = some (bh (i - L.length)) := by
  unfold lentL
  rw [List.getElem?_append_right h, List.getElem?_map, List.getElem?_range (by omega)]
  rfl

set_option maxRecDepth 100000 in
set_option maxHeartbeats 1600000 in
theorem back_calls {w : World} {g hi : Nat} {a : Option Addr} {L : List Chk} {cp n : Nat} (hg : w.heap[g]? = some (.cells (chArr (lentL L)) 49 (0, 0))) (h : ChunksIn w hi a L) (hh : hi ≤ g) (hn : n = L.length) (hl : n ≤ 1048576) :
    Calls Tryz.prog 48 #[.slice (some ⟨g, 0, none⟩) (n + 8) (n + 8), .slice a n cp] w fun e w' => e = .returned (.bool true) ∧ Fr (fun i => i = g) w w' := by
  have HC : Hid (ChunksIn w hi a L ∧ hi ≤ g ∧ n = L.length ∧ (lentL L).length = n + 8) := ⟨h, hh, hn, by simp [lentL, hn]⟩
  have HG : Hid (BkAt w w g (overAt (lentL L) 0)) := Hid.mk0 ⟨hg, Fr.refl _ _⟩
  clear h hh hn hg
  go_enter Tryz.func48, Tryz.ntmps48
  go_wp2
  go_loopw [5, 6] (fun v5 v6 wr => ∃ i : Nat, v5 = .bool true ∧ v6 = .int .i64 i ∧ i ≤ n + 8 ∧ Hid (BkAt w wr g (overAt (lentL L) i))) (fun _ v6 _ => n + 8 - (intOf v6).toNat)
  case atStart => exact ⟨0, rfl, rfl, Nat.zero_le _, HG.out⟩
  case round =>
    obtain ⟨i, rfl, rfl, hi1, HX⟩ := hrel
    by_cases hlt : i < n + 8
    · have i1 : (i : Int) < (n : Int) + 8 := by omega
      have i0 : (0 : Int) ≤ (i : Int) := by omega
      obtain ⟨x, hx⟩ : ∃ x, (lentL L)[i]? = some x := ⟨_, List.getElem?_eq_getElem (by have := HC.out.2.2.2; omega)⟩
      obtain ⟨z, hz⟩ : ∃ z : Int, z = (i : Int) - (n : Int) := ⟨_, rfl⟩
      have hsub : IntKind.i64.wrap ((i : Int) - (n : Int)) = z := by
        rw [hz]
        exact Go.IntWalk.i64_in _ ⟨by omega, by omega⟩
      have hz0 : -1099511627776 ≤ z ∧ z ≤ 1099511627776 := by omega
      have HZ : Hid (z = (i : Int) - (n : Int) ∧ (lentL L)[i]? = some x) := ⟨hz, hx⟩
      clear hz hx
      go_wp2_with fail
      refine (behind_calls z _ hz0.1 hz0.2).mono ?_
      rintro e w1 ⟨rfl, hf1⟩
      have H1 : Hid (BkAt w w1 g (overAt (lentL L) i)) := HX.out.keep hf1
      obtain ⟨x1, x2⟩ := x
      clear hf1
      go_upto_if 22 with fail
      change Code.wp _ _ _ _ (w1.alloc (.cells #[.int .i64 (90 + z), .string ⟨bhText.toArray⟩] 49))
      have HW : Hid ((w1.alloc (.cells #[.int .i64 (90 + z), .string ⟨bhText.toArray⟩] 49)).heap[w1.heap.size]? = some (.cells #[.int .i64 (90 + z), .string ⟨bhText.toArray⟩] 49 (0, 0)) ∧ BkAt w (w1.alloc (.cells #[.int .i64 (90 + z), .string ⟨bhText.toArray⟩] 49)) g (overAt (lentL L) i) ∧ w.heap.size ≤ w1.heap.size ∧ g < w1.heap.size) := ⟨heap_alloc_new w1 _, H1.out.keep ((Fr.refl _ _).alloc _), H1.out.fr.size, lt_of H1.out.blk⟩
      obtain ⟨vc, hvc⟩ : ∃ v, v = w1.heap.size := ⟨_, rfl⟩
      rw [← hvc] at HW ⊢
      clear hvc H1 HX
      generalize w1.alloc (.cells #[.int .i64 (90 + z), .string ⟨bhText.toArray⟩] 49) = W at *
      have y1 : vc ≠ g := by have := HW.out.2.2.2; omega
      have y2 : g ≠ vc := Ne.symm y1
      go_cut [7] (fun v wc => v = .pointer (some ⟨vc, 0, none⟩) ∧ Hid (wc.heap[vc]? = some (.cells #[.int .i64 x1, .string ⟨x2.toArray⟩] 49 (0, 0)) ∧ BkAt w wc g (overAt (lentL L) i)))
      case first =>
        by_cases hin : i < n
        · have j1 : (i : Int) < (n : Int) := by omega
          have hL : L[i]? = some (x1, x2) := by rw [← lent_old (by have := HC.out.2.2.1; omega)]; exact HZ.out.2
          obtain ⟨b, off, rfl, hb1, hb2, hb3, hb4, _⟩ := HC.out.1 i _ hL
          have hbg : b ≠ g := by have := HC.out.2.1; omega
          have y3 : b ≠ vc := by have := HW.out.2.2.1; omega
          have y4 : vc ≠ b := Ne.symm y3
          have c0 : W.cell? ⟨b, off + i * 2, none⟩ = some (.int .i64 x1) := HW.out.2.1.fr.cell hbg hb2 hb3
          have c1 : W.cell? ⟨b, off + i * 2 + 1, none⟩ = some (.string ⟨x2.toArray⟩) := HW.out.2.1.fr.cell hbg hb2 hb4
          have d0 : W.cell? ⟨vc, 0, none⟩ = some (.int .i64 (90 + z)) := cell_of HW.out.1 rfl
          have d1 : W.cell? ⟨vc, 1, none⟩ = some (.string ⟨bhText.toArray⟩) := cell_of HW.out.1 rfl
          have f0 : W.frozen? ⟨vc, 0, none⟩ = false := frozen_of HW.out.1 0
          have f1 : W.frozen? ⟨vc, 1, none⟩ = false := frozen_of HW.out.1 1
          have HR : Hid (((W.setCell ⟨vc, 0, none⟩ (.int .i64 x1)).setCell ⟨vc, 1, none⟩ (.string ⟨x2.toArray⟩)).heap[vc]? = some (.cells #[.int .i64 x1, .string ⟨x2.toArray⟩] 49 (0, 0)) ∧ BkAt w ((W.setCell ⟨vc, 0, none⟩ (.int .i64 x1)).setCell ⟨vc, 1, none⟩ (.string ⟨x2.toArray⟩)) g (overAt (lentL L) i)) := by
            refine ⟨set_of (set_of HW.out.1 0 _) 1 _, ?_, ?_⟩
            · rw [set_other y2, set_other y2]
              exact HW.out.2.1.blk
            · refine (HW.out.2.1.fr.setCell _ _ (fun k => ?_)).setCell _ _ (fun k => ?_)
              · have k' : vc < w.heap.size := k
                have := HW.out.2.2.1
                omega
              · have k' : vc < w.heap.size := k
                have := HW.out.2.2.1
                omega
          clear hL hb1 hb2 hb3 hb4
          go_wp2
          go_meet
          case rel => exact ⟨rfl, HR.out⟩
        · have j1 : ¬ (i : Int) < (n : Int) := by omega
          have hL : (lentL L)[i]? = some (bh (i - L.length)) := lent_new (by have := HC.out.2.2.1; omega) (by have := HC.out.2.2.1; omega)
          rw [HZ.out.2] at hL
          have hb := Option.some.inj hL
          unfold bh at hb
          simp only [Prod.mk.injEq] at hb
          obtain ⟨rfl, rfl⟩ := hb
          have HR : Hid (W.heap[vc]? = some (.cells #[.int .i64 (90 + ((i - L.length : Nat) : Int)), .string ⟨bhText.toArray⟩] 49 (0, 0)) ∧ BkAt w W g (overAt (lentL L) i)) := ⟨by rw [HW.out.1, show (90 : Int) + z = 90 + ((i - L.length : Nat) : Int) by have h1 := HZ.out.1; have h2 := HC.out.2.2.1; omega], HW.out.2.1⟩
          clear hL
          go_wp2
          go_meet
          case rel => exact ⟨rfl, HR.out⟩
      case rest =>
        obtain ⟨rfl, HR⟩ := hcut
        obtain ⟨W2, hW2⟩ : ∃ W2, W2 = wc := ⟨_, rfl⟩
        subst hW2
        have hX : (overAt (lentL L) i)[i]? = some (x1, x2) := over_at HZ.out.2
        obtain ⟨q1, q2⟩ := chArr_at hX
        have c0 : W2.cell? ⟨vc, 0, none⟩ = some (.int .i64 x1) := cell_of HR.out.1 rfl
        have c1 : W2.cell? ⟨vc, 1, none⟩ = some (.string ⟨x2.toArray⟩) := cell_of HR.out.1 rfl
        have e0 : W2.cell? ⟨g, i * 2, none⟩ = some (.int .i64 x1) := cell_of HR.out.2.blk q1
        have e1 : W2.cell? ⟨g, i * 2 + 1, none⟩ = some (.string ⟨x2.toArray⟩) := cell_of HR.out.2.blk q2
        have f0 : W2.frozen? ⟨g, i * 2, none⟩ = false := frozen_of HR.out.2.blk _
        have f1 : W2.frozen? ⟨g, i * 2 + 1, none⟩ = false := frozen_of HR.out.2.blk _
        clear hX q1 q2 HW
        go_wp2
        go_quiet (fail)
        go_wp2
        have hll := HC.out.2.2.2
        have h2 := BkAt.put (w := w) (wr := W2.drewN nq) (i := i) ⟨HR.out.2.blk, HR.out.2.fr.drewN nq⟩ (by rw [over_len (by omega)]; omega) otherChk
        rw [over_step (by omega)] at h2
        exact ⟨⟨i + 1, rfl, by go_num, by omega, h2⟩, by simp [intOf]; omega⟩
    · obtain rfl : i = n + 8 := by omega
      have HX2 : Hid (Fr (fun i => i = g) w wr) := HX.out.fr
      clear HX
      go_wp2
      go_ret
      exact ⟨rfl, HX2.out⟩

end Go.Proofs.YtmhaknejeobfgabGreatDoor

/- All4. -/
namespace Go.Proofs.YtmhaknejeobfgabGreatDoor
open Go.RowKit Go.Proofs.YtmhaknejeobfgabGreatDoor.Stable Go.Proofs.YtmhaknejeobfgabGreatDoor.Order Go.Proofs.YtmhaknejeobfgabGreatDoor.Points
attribute [local go_sem ↓] Go.wp_at_zero Go.wp_at_succ

/-- A list that is kept: where it lies, how long it is, its room. -/
abbrev Ent := Option Addr × Nat × Nat

def ecells (es : List Ent) : List Value := es.map fun e => .slice e.1 e.2.1 e.2.2

theorem ecells_append (es fs : List Ent) : ecells (es ++ fs) = ecells es ++ ecells fs := by simp [ecells]

theorem ecells_one (es : List Ent) : ∀ u ∈ ecells es, u.oneCell' = true := by
  intro u hu
  simp only [ecells, List.mem_map] at hu
  obtain ⟨c, _, rfl⟩ := hu
  rfl

/-- It holds its mark all over. -/
def EntIs (w : World) (H : Nat) (no : Nat → Prop) (e : Ent) (m : Int) : Prop := ∀ i, i < e.2.1 → ∃ b, e.1 = some ⟨b, 0, none⟩ ∧ b < H ∧ b < w.heap.size ∧ ¬ no b ∧ w.cell? ⟨b, i, none⟩ = some (.int .i64 m)

/-- The owner's book: the lists, their marks, how many came. -/
structure Kp (w : World) (bw H : Nat) (es : List Ent) (ms : List Int) (nn : Nat) (al : Option Addr) (cl : Nat) (am : Option Addr) (cm : Nat) : Prop where
  blk : w.heap[bw]? = some (.cells #[.slice al es.length cl, .slice am ms.length cm, .int .i64 nn] 57 (0, 0))
  lr : w.ownsRow 0 31 1 (.slice al es.length cl) es.length (ecells es)
  mr : Row w 0 am cm ms
  ent : ∀ (j : Nat) (e : Ent) (m : Int), es[j]? = some e → ms[j]? = some m → EntIs w H (fun b => b = bw ∨ (∃ y, al = some y ∧ y.block = b) ∨ ∃ y, am = some y ∧ y.block = b) e m
  hb : bw < H
  hl : ∀ y, al = some y → y.block < H ∧ y.block ≠ bw ∧ ∀ z, am = some z → y.block ≠ z.block
  hm : ∀ y, am = some y → y.block < H ∧ y.block ≠ bw

theorem Kp.keep {w w' : World} {bw H : Nat} {es : List Ent} {ms : List Int} {nn : Nat} {al : Option Addr} {cl : Nat} {am : Option Addr} {cm : Nat} (h : Kp w bw H es ms nn al cl am cm) {X : Nat → Prop} (f : Fr X w w') (hX : ∀ x, x < H → ¬ X x) : Kp w' bw H es ms nn al cl am cm := by
  refine ⟨(f.block bw (lt_of h.blk) (hX _ h.hb)).trans h.blk, row_kept h.lr f (fun x hx => ?_), h.mr.kept f (fun x hx => hX _ (h.hm x hx).1), fun j e m he hm i hi => ?_, h.hb, h.hl, h.hm⟩
  · rw [own_slice] at hx
    cases al with
    | none => cases hx
    | some y => cases hx; exact hX _ (h.hl y rfl).1
  · obtain ⟨b, h1, h2, h3, h4, h5⟩ := h.ent j e m he hm i hi
    exact ⟨b, h1, h2, by have := f.size; omega, h4, f.cell (hX b h2) h3 h5⟩

theorem Kp.up {w : World} {bw H H' : Nat} {es : List Ent} {ms : List Int} {nn : Nat} {al : Option Addr} {cl : Nat} {am : Option Addr} {cm : Nat} (h : Kp w bw H es ms nn al cl am cm) (hH : H ≤ H') : Kp w bw H' es ms nn al cl am cm := by
  have hb := h.hb
  refine ⟨h.blk, h.lr, h.mr, fun j e m he hm i hi => ?_, by omega, fun y hy => ?_, fun y hy => ?_⟩
  · obtain ⟨b, h1, h2, h3⟩ := h.ent j e m he hm i hi
    exact ⟨b, h1, by omega, h3⟩
  · obtain ⟨q1, q2⟩ := h.hl y hy
    exact ⟨by omega, q2⟩
  · obtain ⟨q1, q2⟩ := h.hm y hy
    exact ⟨by omega, q2⟩

theorem ent_cell {w : World} {al : Option Addr} {cl : Nat} {es : List Ent} {j : Nat} {e : Ent} (h : w.ownsRow 0 31 1 (.slice al es.length cl) es.length (ecells es)) (he : es[j]? = some e) : ∃ g, al = some ⟨g, 0, none⟩ ∧ w.cell? ⟨g, j, none⟩ = some (.slice e.1 e.2.1 e.2.2) := by
  have hlt : j < es.length := (List.getElem?_eq_some_iff.1 he).1
  exact row_cell h hlt (v := .slice e.1 e.2.1 e.2.2) (by simp [ecells, he])

set_option maxRecDepth 100000 in
set_option maxHeartbeats 1600000 in
theorem kept_calls {w : World} {bw H : Nat} {es : List Ent} {ms : List Int} {nn : Nat} {al : Option Addr} {cl : Nat} {am : Option Addr} {cm : Nat} (h : Kp w bw H es ms nn al cl am cm) (hlen : ms.length = es.length) (hes : es.length ≤ 1099511627776) (hen : ∀ e ∈ es, e.2.1 ≤ 1099511627776) :
    Calls Tryz.prog 22 #[.pointer (some ⟨bw, 0, none⟩)] w fun x w' => x = .returned (.bool true) ∧ Fr (fun _ => False) w w' := by
  obtain ⟨N, hN⟩ : ∃ N, N = es.length := ⟨_, rfl⟩
  have HK : Hid (Kp w bw H es ms nn al cl am cm ∧ N = es.length ∧ (∀ e ∈ es, e.2.1 ≤ 1099511627776) ∧ N = ms.length) := ⟨h, hN, hen, by omega⟩
  have hNb : N ≤ 1099511627776 := by omega
  clear h hes hen hN hlen
  go_enter Tryz.func22, Tryz.ntmps22
  go_wp2
  go_loopw [3] (fun v3 wr => ∃ i : Nat, v3 = .int .i64 i ∧ i ≤ N ∧ Hid (Fr (fun _ => False) w wr)) (fun v3 _ => N - (intOf v3).toNat)
  case atStart => exact ⟨0, rfl, Nat.zero_le _, Fr.refl _ _⟩
  case round =>
    obtain ⟨i, rfl, hi, HX⟩ := hrel
    have hk := HK.out.1.keep HX.out (fun _ _ => id)
    have c0 : wr.cell? ⟨bw, 0, none⟩ = some (.slice al N cl) := by rw [HK.out.2.1]; exact cell_of hk.blk rfl
    have c1 : wr.cell? ⟨bw, 1, none⟩ = some (.slice am N cm) := by rw [HK.out.2.2.2]; exact cell_of hk.blk rfl
    by_cases hlt : i < N
    · have i1 : (0 : Int) ≤ (i : Int) := by omega
      have i2 : (i : Int) < (N : Int) := by omega
      obtain ⟨⟨ae, ne, ce⟩, he⟩ : ∃ e, es[i]? = some e := ⟨_, List.getElem?_eq_getElem (by have := HK.out.2.1; omega)⟩
      obtain ⟨m, hm⟩ : ∃ m, ms[i]? = some m := ⟨_, List.getElem?_eq_getElem (by have := HK.out.2.2.2; omega)⟩
      obtain ⟨gl, rfl, hcl⟩ := ent_cell hk.lr he
      obtain ⟨gm, rfl, hcm, _⟩ := hk.mr.at hm
      dsimp only at hcl
      have hne : ne ≤ 1099511627776 := HK.out.2.2.1 _ (List.mem_of_getElem? he)
      have HE : Hid (∀ w', Fr (fun _ => False) w w' → ∀ k, k < ne → ∃ b, ae = some ⟨b, 0, none⟩ ∧ w'.cell? ⟨b, k, none⟩ = some (.int .i64 m)) := Hid.mk0 (fun w' f k hk' => by
        obtain ⟨b, h1, _, _, _, h5⟩ := (HK.out.1.keep f (fun _ _ => id)).ent i _ m he hm k hk'
        exact ⟨b, h1, h5⟩)
      have HL : Hid (∀ w', Fr (fun _ => False) w w' → w'.cell? ⟨bw, 0, none⟩ = some (.slice (some ⟨gl, 0, none⟩) N cl) ∧ w'.cell? ⟨bw, 1, none⟩ = some (.slice (some ⟨gm, 0, none⟩) N cm) ∧ w'.cell? ⟨gl, i, none⟩ = some (.slice ae ne ce) ∧ w'.cell? ⟨gm, i, none⟩ = some (.int .i64 m)) := Hid.mk0 (fun w' f => by
        have hk' := HK.out.1.keep f (fun _ _ => id)
        obtain ⟨gl', e1, q1⟩ := ent_cell hk'.lr he
        cases e1
        obtain ⟨gm', e2, q2, _⟩ := hk'.mr.at hm
        cases e2
        exact ⟨by rw [HK.out.2.1]; exact cell_of hk'.blk rfl, by rw [HK.out.2.2.2]; exact cell_of hk'.blk rfl, q1, q2⟩)
      clear he hm hcl hcm hk
      go_wp2
      go_loopw [4] (fun v4 wr => ∃ k : Nat, v4 = .int .i64 k ∧ k ≤ ne ∧ Hid (Fr (fun _ => False) w wr)) (fun v4 _ => ne - (intOf v4).toNat)
      case atStart => exact ⟨0, rfl, Nat.zero_le _, HX.out⟩
      case round =>
        obtain ⟨k, rfl, hk, HY⟩ := hrel
        obtain ⟨d0, d1, d2, d3⟩ := HL.out _ HY.out
        by_cases hlt2 : k < ne
        · have k1 : (0 : Int) ≤ (k : Int) := by omega
          have k2 : (k : Int) < (ne : Int) := by omega
          obtain ⟨b, rfl, d4⟩ := HE.out _ HY.out k hlt2
          have hnn : (m != m) = false := by simp
          go_wp2
          go_quiet (fail)
          go_wp2
          exact ⟨⟨k + 1, by go_num, by omega, HY.out.drewN _⟩, by simp [intOf]; omega⟩
        · obtain rfl : k = ne := by omega
          go_wp2
          exact ⟨⟨i + 1, by go_num, by omega, HY.out⟩, by simp [intOf]; omega⟩
    · obtain rfl : i = N := by omega
      clear hk
      go_wp2
      go_ret
      exact ⟨rfl, HX.out⟩

end Go.Proofs.YtmhaknejeobfgabGreatDoor

/- All5. -/
namespace Go.Proofs.YtmhaknejeobfgabGreatDoor
open Go.RowKit Go.Proofs.YtmhaknejeobfgabGreatDoor.Stable Go.Proofs.YtmhaknejeobfgabGreatDoor.Order Go.Proofs.YtmhaknejeobfgabGreatDoor.Points

/-- A number of a list is written over. -/
theorem Row.set {w : World} {base g cp : Nat} {l : List Int} {i : Nat} (h : Row w base (some ⟨g, 0, Option.none⟩) cp l) (_ : i < l.length) (v : Int) : Row (w.setCell ⟨g, i, Option.none⟩ (.int .i64 v)) base (some ⟨g, 0, Option.none⟩) cp (l.set i v) := by
  rcases h.2 with ⟨hs, _⟩ | ⟨g', cap, cur, hs, hb, hgg, h1, h2, h3, h4⟩
  · cases hs
  · cases hs
    refine ⟨by rw [ints_length, List.length_set, Nat.mul_one], .inr ⟨g, cp, cur.setIfInBounds i (.int .i64 v), by rw [List.length_set], hb, set_of hgg i _, by rw [List.length_set]; exact h1, h2, by rw [Array.size_setIfInBounds]; exact h3, ?_⟩⟩
    rw [List.length_set, Array.toList_setIfInBounds, List.take_set, h4]
    simp [YtmhaknejeobfgabGreatDoor.ints, List.map_set]

/-- Its blocks. -/
def inBook (bw : Nat) (al am : Option Addr) (b : Nat) : Prop := b = bw ∨ (∃ y, al = some y ∧ y.block = b) ∨ ∃ y, am = some y ∧ y.block = b

theorem Kp.inc {w : World} {bw H : Nat} {es : List Ent} {ms : List Int} {nn : Nat} {al : Option Addr} {cl : Nat} {am : Option Addr} {cm : Nat} (h : Kp w bw H es ms nn al cl am cm) : Kp (w.setCell ⟨bw, 2, none⟩ (.int .i64 ((nn : Int) + 1))) bw H es ms (nn + 1) al cl am cm := by
  have f : Fr (fun x => x = bw) w (w.setCell ⟨bw, 2, none⟩ (.int .i64 ((nn : Int) + 1))) := (Fr.refl _ _).setCell _ _ (fun _ => rfl)
  refine ⟨?_, row_kept h.lr f (fun x hx => ?_), h.mr.kept f (fun x hx => (h.hm x hx).2), fun j e m he hm i hi => ?_, h.hb, h.hl, h.hm⟩
  · rw [set_of h.blk 2 _, show ((nn + 1 : Nat) : Int) = (nn : Int) + 1 by omega]
    rfl
  · rw [own_slice] at hx
    cases al with
    | none => cases hx
    | some y => cases hx; exact (h.hl y rfl).2.1
  · obtain ⟨b, h1, h2, h3, h4, h5⟩ := h.ent j e m he hm i hi
    exact ⟨b, h1, h2, by have := f.size; omega, h4, f.cell (fun k => h4 (.inl k)) h3 h5⟩

/-- One list more. -/
theorem Kp.addL {w w' : World} {bw H : Nat} {es : List Ent} {ms : List Int} {nn : Nat} {al al' : Option Addr} {cl cl' : Nat} {am : Option Addr} {cm : Nat} {e : Ent} {X : Nat → Prop} (h : Kp w bw H es ms nn al cl am cm) (hlen : ms.length = es.length)
    (hb : w'.heap[bw]? = some (.cells #[.slice al' (es ++ [e]).length cl', .slice am ms.length cm, .int .i64 nn] 57 (0, 0)))
    (hr : w'.ownsRow 0 31 1 (.slice al' (es ++ [e]).length cl') (es ++ [e]).length (ecells (es ++ [e])))
    (f : Fr X w w') (hX : ∀ x, x < H → X x → x = bw ∨ ∃ y, al = some y ∧ y.block = x) (hal : ∀ y, al' = some y → (∃ z, al = some z ∧ z.block = y.block) ∨ H ≤ y.block) (hal2 : ∀ y, al' = some y → y.block < w'.heap.size) (hH : H ≤ w'.heap.size) : Kp w' bw w'.heap.size (es ++ [e]) ms nn al' cl' am cm := by
  have hbH := h.hb
  refine ⟨hb, hr, h.mr.kept f (fun x hx q => ?_), fun j e' m he hm i hi => ?_, by omega, fun y hy => ⟨hal2 y hy, ?_, fun z hz => ?_⟩, fun y hy => ⟨by have := (h.hm y hy).1; omega, (h.hm y hy).2⟩⟩
  · obtain ⟨q1, q2⟩ := h.hm x hx
    rcases hX _ q1 q with k | ⟨y, k1, k2⟩
    · exact q2 k
    · exact (h.hl y k1).2.2 x hx k2
  · have hj : j < es.length := by
      have := (List.getElem?_eq_some_iff.1 hm).1
      omega
    rw [List.getElem?_append_left hj] at he
    obtain ⟨b, h1, h2, h3, h4, h5⟩ := h.ent j e' m he hm i hi
    refine ⟨b, h1, by omega, by have := f.size; omega, fun k => ?_, f.cell (fun q => ?_) h3 h5⟩
    · rcases k with k | ⟨y, k1, k2⟩ | ⟨y, k1, k2⟩
      · exact h4 (.inl k)
      · rcases hal y k1 with ⟨z, z1, z2⟩ | z
        · exact h4 (.inr (.inl ⟨z, z1, z2.trans k2⟩))
        · omega
      · exact h4 (.inr (.inr ⟨y, k1, k2⟩))
    · rcases hX b h2 q with k | k
      · exact h4 (.inl k)
      · exact h4 (.inr (.inl k))
  · rcases hal y hy with ⟨z, z1, z2⟩ | z
    · rw [← z2]; exact (h.hl z z1).2.1
    · omega
  · rcases hal y hy with ⟨z', z1, z2⟩ | z'
    · rw [← z2]; exact (h.hl z' z1).2.2 z hz
    · have := (h.hm z hz).1
      omega

/-- Its mark. -/
theorem Kp.addM {w w' : World} {bw H : Nat} {es : List Ent} {ms : List Int} {nn : Nat} {al : Option Addr} {cl : Nat} {am am' : Option Addr} {cm cm' : Nat} {e : Ent} {mk : Int} {X : Nat → Prop} (h : Kp w bw H (es ++ [e]) ms nn al cl am cm) (hlen : ms.length = es.length)
    (hb : w'.heap[bw]? = some (.cells #[.slice al (es ++ [e]).length cl, .slice am' (ms ++ [mk]).length cm', .int .i64 nn] 57 (0, 0)))
    (hr : Row w' 0 am' cm' (ms ++ [mk]))
    (f : Fr X w w') (hX : ∀ x, x < H → X x → x = bw ∨ ∃ y, am = some y ∧ y.block = x) (ham : ∀ y, am' = some y → (∃ z, am = some z ∧ z.block = y.block) ∨ H ≤ y.block) (ham2 : ∀ y, am' = some y → y.block < w'.heap.size) (hH : H ≤ w'.heap.size)
    (he : ∀ i, i < e.2.1 → ∃ b, e.1 = some ⟨b, 0, none⟩ ∧ b < H ∧ b < w.heap.size ∧ ¬ inBook bw al am b ∧ w.cell? ⟨b, i, none⟩ = some (.int .i64 mk)) : Kp w' bw w'.heap.size (es ++ [e]) (ms ++ [mk]) nn al cl am' cm' := by
  have hbH := h.hb
  have hstep : ∀ (e' : Ent) (m : Int), EntIs w H (inBook bw al am) e' m → EntIs w' w'.heap.size (inBook bw al am') e' m := fun e' m hE i hi => by
    obtain ⟨b, h1, h2, h3, h4, h5⟩ := hE i hi
    refine ⟨b, h1, by omega, by have := f.size; omega, fun k => ?_, f.cell (fun q => ?_) h3 h5⟩
    · rcases k with k | ⟨y, k1, k2⟩ | ⟨y, k1, k2⟩
      · exact h4 (.inl k)
      · exact h4 (.inr (.inl ⟨y, k1, k2⟩))
      · rcases ham y k1 with ⟨z, z1, z2⟩ | z
        · exact h4 (.inr (.inr ⟨z, z1, z2.trans k2⟩))
        · omega
    · rcases hX b h2 q with k | k
      · exact h4 (.inl k)
      · exact h4 (.inr (.inr k))
  refine ⟨hb, row_kept h.lr f (fun x hx q => ?_), hr, fun j e' m he' hm => ?_, by omega, fun y hy => ⟨by have := (h.hl y hy).1; omega, (h.hl y hy).2.1, fun z hz => ?_⟩, fun y hy => ⟨ham2 y hy, ?_⟩⟩
  · rw [own_slice] at hx
    cases al with
    | none => cases hx
    | some y =>
      cases hx
      obtain ⟨q1, q2, q3⟩ := h.hl y rfl
      rcases hX _ q1 q with k | ⟨z, k1, k2⟩
      · exact q2 k
      · exact q3 z k1 k2.symm
  · refine hstep e' m ?_
    by_cases hj : j < ms.length
    · rw [List.getElem?_append_left hj] at hm
      exact h.ent j e' m he' hm
    · have hj2 := (List.getElem?_eq_some_iff.1 hm).1
      rw [List.length_append, List.length_singleton] at hj2
      have hje : j = ms.length := by omega
      subst hje
      rw [List.getElem?_append_right (Nat.le_refl _), Nat.sub_self] at hm
      rw [hlen, List.getElem?_append_right (Nat.le_refl _), Nat.sub_self] at he'
      cases hm
      cases he'
      exact he
  · rcases ham z hz with ⟨z', z1, z2⟩ | z'
    · rw [← z2]; exact (h.hl y hy).2.2 z' z1
    · have := (h.hl y hy).1
      omega
  · rcases ham y hy with ⟨z, z1, z2⟩ | z
    · rw [← z2]; exact (h.hm z z1).2
    · omega

/-- The list that grows, in its own room: what lies in its block stays. -/
theorem Kp.room {w w' : World} {bw H : Nat} {es : List Ent} {ms : List Int} {nn : Nat} {al : Option Addr} {cl : Nat} {am : Option Addr} {cm : Nat} {g n : Nat} {mk : Int} (h : Kp w bw H es ms nn al cl am cm) (f : Fr (fun x => x = g) w w') (hg : ¬ inBook bw al am g)
    (hc : ∀ i, i < n → w'.cell? ⟨g, i, none⟩ = some (.int .i64 mk)) (hsh : ∀ (j : Nat) (e : Ent) (m : Int), es[j]? = some e → ms[j]? = some m → 0 < e.2.1 → (∃ y, e.1 = some y ∧ y.block = g) → e.2.1 ≤ n ∧ m = mk) : Kp w' bw H es ms nn al cl am cm := by
  refine ⟨(f.block bw (lt_of h.blk) (fun k => hg (.inl k.symm))).trans h.blk, row_kept h.lr f (fun x hx q => ?_), h.mr.kept f (fun x hx q => hg (.inr (.inr ⟨x, hx, q⟩))), fun j e m he hm i hi => ?_, h.hb, h.hl, h.hm⟩
  · rw [own_slice] at hx
    cases al with
    | none => cases hx
    | some y => cases hx; exact hg (.inr (.inl ⟨y, rfl, q⟩))
  · obtain ⟨b, h1, h2, h3, h4, h5⟩ := h.ent j e m he hm i hi
    refine ⟨b, h1, h2, by have := f.size; omega, h4, ?_⟩
    by_cases hbg : b = g
    · obtain ⟨q1, q2⟩ := hsh j e m he hm (by omega) ⟨_, h1, hbg⟩
      rw [hbg, q2]
      exact hc i (by omega)
    · exact f.cell hbg h3 h5

end Go.Proofs.YtmhaknejeobfgabGreatDoor

/- All6. -/
namespace Go.Proofs.YtmhaknejeobfgabGreatDoor
open Go.RowKit Go.Proofs.YtmhaknejeobfgabGreatDoor.Stable Go.Proofs.YtmhaknejeobfgabGreatDoor.Order Go.Proofs.YtmhaknejeobfgabGreatDoor.Points
attribute [local go_sem ↓] Go.wp_at_zero Go.wp_at_succ

theorem Tryz.info_ints : (Tryz.prog.info? 31).map (fun i => (i.zero, i.size, i.bytes)) = some (some (.slice none 0 0), 1, 24) := by kernel_rfl

/-- Where keep's last loop stands. -/
structure KpL (w wr : World) (bw : Nat) (X0 : Nat → Prop) (es0 : List Ent) (i : Nat) (mk : Int) (es : List Ent) (ms : List Int) (nn : Nat) (al : Option Addr) (cl : Nat) (am : Option Addr) (cm : Nat) (a : Option Addr) (c n : Nat) : Prop where
  kp : Kp wr bw wr.heap.size es ms nn al cl am cm
  len : ms.length = es.length
  el : es.length = es0.length + i
  small : ∀ e ∈ es, e ∈ es0 ∨ e.2.1 ≤ n
  eb : ∀ e ∈ es, e ∈ es0 ∨ ∀ y, e.1 = some y → X0 y.block ∨ w.heap.size ≤ y.block
  row : Row wr 0 a c (List.replicate n mk)
  ab : ∀ y, a = some y → ¬ inBook bw al am y.block
  sh : ∀ (j : Nat) (e : Ent) (m : Int), es[j]? = some e → ms[j]? = some m → 0 < e.2.1 → (∃ y z, e.1 = some y ∧ a = some z ∧ y.block = z.block) → e.2.1 ≤ n ∧ m = mk
  fr : Fr X0 w wr
  xa : ∀ y, a = some y → X0 y.block ∨ w.heap.size ≤ y.block
  xl : ∀ y, al = some y → X0 y.block ∨ w.heap.size ≤ y.block
  xm : ∀ y, am = some y → X0 y.block ∨ w.heap.size ≤ y.block
  xb : X0 bw

/-- Behind the first append of a round. -/
structure KpM (wr w4 : World) (bw : Nat) (mk : Int) (es : List Ent) (ms : List Int) (nn : Nat) (al al3 : Option Addr) (cl3 : Nat) (am : Option Addr) (cm : Nat) (a : Option Addr) (c n : Nat) : Prop where
  kp : Kp w4 bw w4.heap.size (es ++ [(a, n, c)]) ms nn al3 cl3 am cm
  row : Row w4 0 a c (List.replicate n mk)
  fr : Fr (fun x => x = bw ∨ ∃ y, al = some y ∧ y.block = x) wr w4
  ab : ∀ y, a = some y → ¬ inBook bw al3 am y.block
  al : ∀ y, al3 = some y → (∃ z, al = some z ∧ z.block = y.block) ∨ wr.heap.size ≤ y.block

theorem KpM.of {wr w3 : World} {bw : Nat} {mk : Int} {es : List Ent} {ms : List Int} {nn : Nat} {al al3 : Option Addr} {cl cl3 : Nat} {am : Option Addr} {cm : Nat} {a : Option Addr} {c n N : Nat} (h : Kp wr bw wr.heap.size es ms nn al cl am cm) (hlen : ms.length = es.length) (hN : N = es.length) (hN2 : N = ms.length) (hrow : Row wr 0 a c (List.replicate n mk)) (hab : ∀ y, a = some y → ¬ inBook bw al am y.block)
    (hr : w3.ownsRow 0 31 1 (.slice al3 (N + 1) cl3) (N + 1) (ecells (es ++ [(a, n, c)]))) (f : Fr (fun x => some x = al.map (fun y => y.block)) wr w3) (hal : al3.map (fun y => y.block) = al.map (fun y => y.block) ∨ al3.map (fun y => y.block) = some (wr.heap.size + 1)) (hb : w3.heap[bw]? = some (.cells #[.slice al N cl, .slice am N cm, .int .i64 nn] 57 (0, 0))) :
    KpM wr (w3.setCell ⟨bw, 0, none⟩ (.slice al3 (N + 1) cl3)) bw mk es ms nn al al3 cl3 am cm a c n := by
  have hbw := h.hb
  have halb : ∀ y, al3 = some y → (∃ z, al = some z ∧ z.block = y.block) ∨ y.block = wr.heap.size + 1 := fun y hy => by
    rw [hy] at hal
    rcases hal with q | q
    · cases ha : al with
      | none => rw [ha] at q; cases q
      | some z =>
        rw [ha] at q
        exact .inl ⟨z, rfl, by simpa using q.symm⟩
    · exact .inr (by simpa using q)
  have halw : ∀ y, al3 = some y → y.block ≠ bw := fun y hy => by
    rcases halb y hy with ⟨z, z1, z2⟩ | z
    · rw [← z2]; exact (h.hl z z1).2.1
    · omega
  have f2 : Fr (fun x => x = bw) w3 (w3.setCell ⟨bw, 0, none⟩ (.slice al3 (N + 1) cl3)) := (Fr.refl _ _).setCell _ _ (fun _ => rfl)
  have f4 : Fr (fun x => x = bw ∨ ∃ y, al = some y ∧ y.block = x) wr (w3.setCell ⟨bw, 0, none⟩ (.slice al3 (N + 1) cl3)) := (f.mono (S' := fun x => x = bw ∨ ∃ y, al = some y ∧ y.block = x) (fun x _ q => by
    cases ha : al with
    | none => rw [ha] at q; cases q
    | some z =>
      rw [ha] at q
      have q' : x = z.block := by simpa using q
      exact .inr ⟨z, rfl, q'.symm⟩)).trans f2 (fun _ _ q => .inl q)
  have hlen1 : (es ++ [(a, n, c)]).length = N + 1 := by simp [hN]
  have hsz : (w3.setCell ⟨bw, 0, none⟩ (.slice al3 (N + 1) cl3)).heap.size = w3.heap.size := size_set _ _ _
  have hk := Kp.addL (e := (a, n, c)) (w' := w3.setCell ⟨bw, 0, none⟩ (.slice al3 (N + 1) cl3)) (al' := al3) (cl' := cl3) h hlen
    (by rw [set_of hb 0 _, hlen1, ← hN2]; rfl)
    (by rw [hlen1]; exact row_kept hr f2 (fun x hx q => by
      rw [own_slice] at hx
      cases ha : al3 with
      | none => rw [ha] at hx; cases hx
      | some y =>
        rw [ha] at hx
        cases hx
        exact halw y ha q))
    f4 (fun x _ q => q) (fun y hy => (halb y hy).elim .inl (fun q => .inr (by omega)))
    (fun y hy => by
      have := (row_lt hr (x := y.block) (by rw [own_slice, hy]; rfl)).2
      rw [hsz]
      exact this) (by have := f.size; rw [hsz]; exact this)
  refine ⟨hk, hrow.kept f4 (fun x hx q => ?_), f4, fun y hy q => ?_, fun y hy => (halb y hy).elim .inl (fun q => .inr (by omega))⟩
  · rcases q with q | q
    · exact hab x hx (.inl q)
    · exact hab x hx (.inr (.inl q))
  · rcases q with q | ⟨z, z1, z2⟩ | q
    · exact hab y hy (.inl q)
    · rcases halb z z1 with ⟨u, u1, u2⟩ | u
      · exact hab y hy (.inr (.inl ⟨u, u1, u2.trans z2⟩))
      · have := (hrow.lt hy).2
        omega
    · exact hab y hy (.inr (.inr q))

/-- Behind the second append of a round. -/
structure KpN (w4 w6 : World) (bw : Nat) (mk : Int) (ms : List Int) (am am6 : Option Addr) (cm6 N : Nat) : Prop where
  row : Row w6 0 am6 cm6 (ms ++ [mk])
  fr : Fr (fun x => ∃ y, am = some y ∧ y.block = x) w4 w6
  am : ∀ y, am6 = some y → (∃ z, am = some z ∧ z.block = y.block) ∨ w4.heap.size ≤ y.block
  lt : ∀ y, am6 = some y → y.block < w6.heap.size
  nb : ∀ y, am6 = some y → y.block ≠ bw

theorem KpN.of {w4 w6 : World} {bw : Nat} {mk : Int} {es : List Ent} {ms : List Int} {nn : Nat} {al : Option Addr} {cl : Nat} {am : Option Addr} {cm N g6 cap6 : Nat} {x1 x2 x3 : Value} (h : Kp w4 bw w4.heap.size es ms nn al cl am cm) (hN : N = ms.length) (hb : w4.heap[bw]? = some (.cells #[x1, x2, x3] 57 (0, 0)))
    (hown : w6.ownsRow 0 3 1 (.slice (some ⟨g6, 0, none⟩) (N + 1) cap6) (N + 1) (ints ms ++ ints [mk])) (hgrow : (w4.alloc (Obj.cells #[.int .i64 mk] 3)).drew.grownBy w6 (Value.slice am N cm).ownBlock) (hat : (Value.slice am N cm).ownBlock = some g6 ∨ g6 = (w4.alloc (Obj.cells #[.int .i64 mk] 3)).drew.heap.size) (hlt : g6 < w6.heap.size) :
    KpN w4 w6 bw mk ms am (some ⟨g6, 0, none⟩) cap6 N ∧ w6.heap[bw]? = some (.cells #[x1, x2, x3] 57 (0, 0)) := by
  have hbw := h.hb
  have fa : Fr (fun _ => False) w4 (w4.alloc (Obj.cells #[.int .i64 mk] 3)).drew := ((Fr.refl _ _).alloc _).drew
  have f : Fr (fun x => ∃ y, am = some y ∧ y.block = x) w4 w6 := (fa.mono (fun _ _ q => q.elim)).trans (grown_fr hgrow) (fun x _ q => by
    cases ha : am with
    | none => rw [ha] at q; cases q
    | some y =>
      rw [ha] at q
      have q' : x = y.block := by simpa using q
      exact ⟨y, rfl, q'.symm⟩)
  have hsz : (w4.alloc (Obj.cells #[.int .i64 mk] 3)).drew.heap.size = w4.heap.size + 1 := by simp [World.drew]
  have hal : (∃ z, am = some z ∧ z.block = g6) ∨ g6 = w4.heap.size + 1 := by
    rcases hat with q | q
    · rw [own_slice] at q
      cases ha : am with
      | none => rw [ha] at q; cases q
      | some y =>
        rw [ha] at q
        exact .inl ⟨y, rfl, by simpa using q⟩
    · exact .inr (by omega)
  refine ⟨⟨?_, f, fun y hy => ?_, fun y hy => ?_, fun y hy => ?_⟩, (f.block bw (lt_of hb) (fun q => ?_)).trans hb⟩
  · unfold Row
    rw [List.length_append, ← hN, ints_append]
    exact hown
  · cases hy
    exact hal.elim .inl (fun q => .inr (by dsimp only; omega))
  · cases hy
    exact hlt
  · cases hy
    rcases hal with ⟨z, z1, z2⟩ | z
    · dsimp only
      rw [← z2]
      exact (h.hm z z1).2
    · dsimp only
      omega
  · obtain ⟨y, y1, y2⟩ := q
    exact (h.hm y y1).2 y2

/-- Behind both. -/
structure KpP (w w7 : World) (bw : Nat) (X0 : Nat → Prop) (es0 : List Ent) (j : Nat) (mk : Int) (es : List Ent) (ms : List Int) (nn : Nat) (al : Option Addr) (cl : Nat) (am : Option Addr) (cm : Nat) (a : Option Addr) (c n : Nat) : Prop where
  kp : Kp w7 bw w7.heap.size es ms nn al cl am cm
  len : ms.length = es.length
  el : es.length = es0.length + j + 1
  small : ∀ e ∈ es, e ∈ es0 ∨ e.2.1 ≤ n
  eb : ∀ e ∈ es, e ∈ es0 ∨ ∀ y, e.1 = some y → X0 y.block ∨ w.heap.size ≤ y.block
  row : Row w7 0 a c (List.replicate n mk)
  ab : ∀ y, a = some y → ¬ inBook bw al am y.block
  sh : ∀ (j : Nat) (e : Ent) (m : Int), es[j]? = some e → ms[j]? = some m → 0 < e.2.1 → (∃ y z, e.1 = some y ∧ a = some z ∧ y.block = z.block) → e.2.1 ≤ n ∧ m = mk
  fr : Fr X0 w w7
  xa : ∀ y, a = some y → X0 y.block ∨ w.heap.size ≤ y.block
  xl : ∀ y, al = some y → X0 y.block ∨ w.heap.size ≤ y.block
  xm : ∀ y, am = some y → X0 y.block ∨ w.heap.size ≤ y.block
  xb : X0 bw

theorem KpP.of {w wr w4 w6 : World} {bw : Nat} {X0 : Nat → Prop} {es0 : List Ent} {j : Nat} {mk : Int} {es : List Ent} {ms : List Int} {nn : Nat} {al al3 : Option Addr} {cl cl3 : Nat} {am am6 : Option Addr} {cm cm6 : Nat} {a : Option Addr} {c n N : Nat} (L : KpL w wr bw X0 es0 j mk es ms nn al cl am cm a c n) (M : KpM wr w4 bw mk es ms nn al al3 cl3 am cm a c n) (K : KpN w4 w6 bw mk ms am am6 cm6 N) (hN : N = es.length) (hN2 : N = ms.length) (hb : w6.heap[bw]? = some (.cells #[.slice al3 (N + 1) cl3, .slice am N cm, .int .i64 nn] 57 (0, 0))) :
    KpP w (w6.setCell ⟨bw, 1, none⟩ (.slice am6 (N + 1) cm6)) bw X0 es0 j mk (es ++ [(a, n, c)]) (ms ++ [mk]) nn al3 cl3 am6 cm6 a c n := by
  have f7 : Fr (fun x => x = bw) w6 (w6.setCell ⟨bw, 1, none⟩ (.slice am6 (N + 1) cm6)) := (Fr.refl _ _).setCell _ _ (fun _ => rfl)
  have f47 : Fr (fun x => x = bw ∨ ∃ y, am = some y ∧ y.block = x) w4 (w6.setCell ⟨bw, 1, none⟩ (.slice am6 (N + 1) cm6)) := (K.fr.mono (S' := fun x => x = bw ∨ ∃ y, am = some y ∧ y.block = x) (fun x _ q => .inr q)).trans f7 (fun _ _ q => .inl q)
  have hsz : (w6.setCell ⟨bw, 1, none⟩ (.slice am6 (N + 1) cm6)).heap.size = w6.heap.size := size_set _ _ _
  have s4 := M.fr.size
  have s6 := K.fr.size
  have s0 := L.fr.size
  have hl1 : (es ++ [(a, n, c)]).length = N + 1 := by simp [hN]
  have hl2 : (ms ++ [mk]).length = N + 1 := by simp [hN2]
  have hae : ∀ i, i < n → ∃ b, a = some ⟨b, 0, none⟩ ∧ b < w4.heap.size ∧ b < w4.heap.size ∧ ¬ inBook bw al3 am b ∧ w4.cell? ⟨b, i, none⟩ = some (.int .i64 mk) := fun i hi => by
    obtain ⟨g, hg, hc, hl⟩ := M.row.at (i := i) (x := mk) (by rw [List.getElem?_replicate, if_pos hi])
    exact ⟨g, hg, hl, hl, M.ab _ hg, hc⟩
  have hk := Kp.addM (w' := w6.setCell ⟨bw, 1, none⟩ (.slice am6 (N + 1) cm6)) (am' := am6) (cm' := cm6) (mk := mk) M.kp L.len
    (by rw [set_of hb 1 _, hl1, hl2]; rfl) (K.row.kept f7 (fun x hx q => K.nb x hx q)) f47 (fun x _ q => q) K.am (fun y hy => by rw [hsz]; exact K.lt y hy) (by rw [hsz]; exact s6) hae
  refine ⟨hk, by rw [hl1, hl2], by rw [hl1, hN, L.el], fun e he => ?_, fun e he => ?_, M.row.kept f47 (fun x hx q => ?_), fun y hy q => ?_, fun k e m he hm hp q => ?_, ?_, L.xa, fun y hy => ?_, fun y hy => ?_, L.xb⟩
  · rcases List.mem_append.1 he with he | he
    · exact L.small e he
    · rw [List.mem_singleton.1 he]
      exact .inr (Nat.le_refl _)
  · rcases List.mem_append.1 he with he | he
    · exact L.eb e he
    · rw [List.mem_singleton.1 he]
      exact .inr L.xa
  · rcases q with q | q
    · exact M.ab x hx (.inl q)
    · exact M.ab x hx (.inr (.inr q))
  · rcases q with q | q | ⟨z, z1, z2⟩
    · exact M.ab y hy (.inl q)
    · exact M.ab y hy (.inr (.inl q))
    · rcases K.am z z1 with ⟨u, u1, u2⟩ | u
      · exact M.ab y hy (.inr (.inr ⟨u, u1, u2.trans z2⟩))
      · have := (M.row.lt hy).2
        omega
  · by_cases hk : k < ms.length
    · rw [List.getElem?_append_left hk] at hm
      rw [List.getElem?_append_left (by have := L.len; omega)] at he
      exact L.sh k e m he hm hp q
    · have hj2 := (List.getElem?_eq_some_iff.1 hm).1
      rw [hl2] at hj2
      have hke : k = ms.length := by omega
      subst hke
      rw [List.getElem?_append_right (Nat.le_refl _), Nat.sub_self] at hm
      rw [L.len, List.getElem?_append_right (Nat.le_refl _), Nat.sub_self] at he
      cases hm
      cases he
      exact ⟨Nat.le_refl _, rfl⟩
  · refine (L.fr.trans M.fr (fun x hx q => ?_)).trans f47 (fun x hx q => ?_)
    · rcases q with q | ⟨y, y1, y2⟩
      · rw [q]; exact L.xb
      · rcases L.xl y y1 with k | k
        · rw [← y2]; exact k
        · omega
    · rcases q with q | ⟨y, y1, y2⟩
      · rw [q]; exact L.xb
      · rcases L.xm y y1 with k | k
        · rw [← y2]; exact k
        · omega
  · rcases M.al y hy with ⟨z, z1, z2⟩ | z
    · rw [← z2]; exact L.xl z z1
    · exact .inr (by omega)
  · rcases K.am y hy with ⟨z, z1, z2⟩ | z
    · rw [← z2]; exact L.xm z z1
    · exact .inr (by omega)

/-- The list grows in its own room. -/
theorem KpP.room {w w7 w9 : World} {bw : Nat} {X0 : Nat → Prop} {es0 : List Ent} {j : Nat} {mk : Int} {es : List Ent} {ms : List Int} {nn : Nat} {al : Option Addr} {cl : Nat} {am : Option Addr} {cm : Nat} {g c n : Nat} (P : KpP w w7 bw X0 es0 j mk es ms nn al cl am cm (some ⟨g, 0, none⟩) c n) (f : Fr (fun x => x = g) w7 w9) (hr : Row w9 0 (some ⟨g, 0, none⟩) c (List.replicate (n + 1) mk)) : KpL w w9 bw X0 es0 (j + 1) mk es ms nn al cl am cm (some ⟨g, 0, none⟩) c (n + 1) := by
  have hk := P.kp.room f (P.ab _ rfl) (n := n + 1) (mk := mk) (fun i hi => by
    obtain ⟨g', e, hc, _⟩ := hr.at (i := i) (x := mk) (by rw [List.getElem?_replicate, if_pos hi])
    cases e
    exact hc) (fun k e m he hm hp q => by
    obtain ⟨y, q1, q2⟩ := q
    obtain ⟨p1, p2⟩ := P.sh k e m he hm hp ⟨y, _, q1, rfl, q2⟩
    exact ⟨by omega, p2⟩)
  refine ⟨hk.up f.size, P.len, by have := P.el; omega, fun e he => (P.small e he).elim .inl (fun q => .inr (by omega)), P.eb, hr, P.ab, fun k e m he hm hp q => ?_, P.fr.trans f (fun x hx q => ?_), P.xa, P.xl, P.xm, P.xb⟩
  · obtain ⟨p1, p2⟩ := P.sh k e m he hm hp q
    exact ⟨by omega, p2⟩
  · rcases P.xa _ rfl with k | k
    · rw [q]; exact k
    · dsimp only at k
      omega

/-- .. or moves. -/
theorem KpP.grow {w w7 w9 : World} {bw : Nat} {X0 : Nat → Prop} {es0 : List Ent} {j : Nat} {mk : Int} {es : List Ent} {ms : List Int} {nn : Nat} {al : Option Addr} {cl : Nat} {am : Option Addr} {cm : Nat} {a a9 : Option Addr} {c c9 n : Nat} (P : KpP w w7 bw X0 es0 j mk es ms nn al cl am cm a c n) (f : Fr (fun _ => False) w7 w9) (hr : Row w9 w7.heap.size a9 c9 (List.replicate (n + 1) mk)) : KpL w w9 bw X0 es0 (j + 1) mk es ms nn al cl am cm a9 c9 (n + 1) := by
  have s0 := P.fr.size
  have hnew : ∀ y, a9 = some y → w7.heap.size ≤ y.block := fun y hy => (hr.lt hy).1
  refine ⟨(P.kp.keep f (fun _ _ => id)).up f.size, P.len, by have := P.el; omega, fun e he => (P.small e he).elim .inl (fun q => .inr (by omega)), P.eb, hr.low (Nat.zero_le _), fun y hy q => ?_, fun k e m he hm hp q => ?_, P.fr.trans f (fun _ _ q => q.elim), fun y hy => .inr (by have := hnew y hy; omega), P.xl, P.xm, P.xb⟩
  · have h1 := hnew y hy
    have hb := P.kp.hb
    rcases q with q | ⟨z, z1, z2⟩ | ⟨z, z1, z2⟩
    · omega
    · have := (P.kp.hl z z1).1
      omega
    · have := (P.kp.hm z z1).1
      omega
  · obtain ⟨y, z, q1, q2, q3⟩ := q
    obtain ⟨b, p1, p2, _⟩ := P.kp.ent k e m he hm 0 hp
    have h1 := hnew z q2
    rw [p1] at q1
    cases q1
    dsimp only at q3
    omega

set_option maxRecDepth 100000 in
set_option maxHeartbeats 3200000 in
theorem keep_calls {w : World} {bw H : Nat} {es : List Ent} {ms : List Int} {nn : Nat} {al : Option Addr} {cl : Nat} {am : Option Addr} {cm : Nat} {a : Option Addr} {c n base : Nat} {X : List Int} (h : Kp w bw H es ms nn al cl am cm) (hlen : ms.length = es.length) (hr : Row w base a c X) (hn : n = X.length) (hH : H ≤ base) (hHw : H ≤ w.heap.size) (hb1 : nn ≤ 1099511627776) (hb2 : es.length ≤ 1099511627776) (hb3 : n ≤ 1099511627776) :
    Calls Tryz.prog 45 #[.pointer (some ⟨bw, 0, none⟩), .slice a n c] w fun x w' => x = .returned (.tuple #[]) ∧ ∃ es' ms' al' cl' am' cm' a' c', KpL w w' bw (fun x => inBook bw al am x ∨ ∃ y, a = some y ∧ y.block = x) es 4 (-((nn : Int) + 1)) es' ms' (nn + 1) al' cl' am' cm' a' c' (n + 4) := by
  obtain ⟨i0, hi0, hz0, hz1, hz2⟩ := info_parts Tryz.info_int
  obtain ⟨iL, hL0, hL1, hL2, hL3⟩ := info_parts Tryz.info_ints
  have HI : Hid (Tryz.prog.info? 3 = some i0 ∧ i0.zero = some (.int .i64 0) ∧ i0.size = 1 ∧ i0.bytes = 8) := ⟨hi0, hz0, hz1, hz2⟩
  have HIL : Hid (Tryz.prog.info? 31 = some iL ∧ iL.zero = some (.slice none 0 0) ∧ iL.size = 1 ∧ iL.bytes = 24) := ⟨hL0, hL1, hL2, hL3⟩
  obtain ⟨X0, hX0⟩ : ∃ X0 : Nat → Prop, X0 = fun x => inBook bw al am x ∨ ∃ y, a = some y ∧ y.block = x := ⟨_, rfl⟩
  rw [← hX0]
  obtain ⟨mk, hmk⟩ : ∃ mk, mk = -((nn : Int) + 1) := ⟨_, rfl⟩
  rw [← hmk]
  have hwrap : IntKind.i64.wrap (-((nn : Int) + 1)) = mk := by
    rw [hmk]
    exact Go.IntWalk.i64_in _ ⟨by omega, by omega⟩
  have HK : Hid (Kp w bw H es ms nn al cl am cm ∧ ms.length = es.length ∧ Row w base a c X ∧ n = X.length ∧ H ≤ base ∧ X0 = fun x => inBook bw al am x ∨ ∃ y, a = some y ∧ y.block = x) := ⟨h, hlen, hr, hn, hH, hX0⟩
  have c2 : w.cell? ⟨bw, 2, none⟩ = some (.int .i64 nn) := cell_of h.blk rfl
  have z2 : w.frozen? ⟨bw, 2, none⟩ = false := frozen_of h.blk 2
  clear hi0 hz0 hz1 hz2 hL0 hL1 hL2 hL3 h hlen hr hn hH hX0 hmk
  go_enter Tryz.func45, Tryz.ntmps45
  go_wp2
  have H1 : Hid (Kp (w.setCell ⟨bw, 2, none⟩ (.int .i64 ((nn : Int) + 1))) bw H es ms (nn + 1) al cl am cm ∧ Row (w.setCell ⟨bw, 2, none⟩ (.int .i64 ((nn : Int) + 1))) base a c X ∧ Fr X0 w (w.setCell ⟨bw, 2, none⟩ (.int .i64 ((nn : Int) + 1)))) := by
    have f : Fr (fun x => x = bw) w (w.setCell ⟨bw, 2, none⟩ (.int .i64 ((nn : Int) + 1))) := (Fr.refl _ _).setCell _ _ (fun _ => rfl)
    refine ⟨HK.out.1.inc, HK.out.2.2.1.kept f (fun x hx q => ?_), f.mono (fun i _ q => by rw [HK.out.2.2.2.2.2]; exact .inl (.inl q))⟩
    have h1 := (HK.out.2.2.1.lt hx).1
    have h2 := HK.out.1.hb
    have h3 := HK.out.2.2.2.2.1
    omega
  clear c2 z2
  generalize w.setCell ⟨bw, 2, none⟩ (.int .i64 ((nn : Int) + 1)) = w0 at *
  go_loopw [4] (fun v4 wr => ∃ i : Nat, v4 = .int .i64 i ∧ i ≤ n ∧ Hid (Kp wr bw H es ms (nn + 1) al cl am cm ∧ Row wr base a c (List.replicate i mk ++ X.drop i) ∧ Fr X0 w wr)) (fun v4 _ => n - (intOf v4).toNat)
  case atStart => exact ⟨0, rfl, Nat.zero_le _, H1.out⟩
  case round =>
    obtain ⟨i, rfl, hi, HX⟩ := hrel
    have c2 : wr.cell? ⟨bw, 2, none⟩ = some (.int .i64 ((nn : Int) + 1)) := by
      have := cell_of HX.out.1.blk (o := 2) (v := .int .i64 ((nn + 1 : Nat) : Int)) rfl
      rwa [show ((nn + 1 : Nat) : Int) = (nn : Int) + 1 by omega] at this
    by_cases hlt : i < n
    · have i1 : (0 : Int) ≤ (i : Int) := by omega
      have i2 : (i : Int) < (n : Int) := by omega
      obtain ⟨x, hx⟩ : ∃ x, (List.replicate i mk ++ X.drop i)[i]? = some x := ⟨_, List.getElem?_eq_getElem (by rw [List.length_append, List.length_replicate, List.length_drop]; have := HK.out.2.2.2.1; omega)⟩
      obtain ⟨g, rfl, hcx, hgl⟩ := HX.out.2.1.at hx
      have hgb := (HX.out.2.1.lt (x := ⟨g, 0, none⟩) rfl).1
      have hfz : wr.frozen? ⟨g, i, none⟩ = false := by
        rcases HX.out.2.1.2 with ⟨hs, _⟩ | ⟨g', cap', cur, hs, _, hgg, _⟩
        · cases hs
        · cases hs
          exact frozen_of hgg i
      have y1 : g ≠ bw := by have h2 := HK.out.1.hb; have h3 := HK.out.2.2.2.2.1; dsimp only at hgb; omega
      have y2 := Ne.symm y1
      have HS : Hid (Kp (wr.setCell ⟨g, i, none⟩ (.int .i64 mk)) bw H es ms (nn + 1) al cl am cm ∧ Row (wr.setCell ⟨g, i, none⟩ (.int .i64 mk)) base (some ⟨g, 0, none⟩) c (List.replicate (i + 1) mk ++ X.drop (i + 1)) ∧ Fr X0 w (wr.setCell ⟨g, i, none⟩ (.int .i64 mk))) := by
        have f : Fr (fun x => x = g) wr (wr.setCell ⟨g, i, none⟩ (.int .i64 mk)) := (Fr.refl _ _).setCell _ _ (fun _ => rfl)
        have hlX : i < X.length := by have := HK.out.2.2.2.1; omega
        have e : (List.replicate i mk ++ X.drop i).set i mk = List.replicate (i + 1) mk ++ X.drop (i + 1) := by
          rw [List.set_append_right _ _ (by simp), List.length_replicate, Nat.sub_self, List.drop_eq_getElem_cons hlX, List.set_cons_zero, List.replicate_succ', List.append_assoc]
          rfl
        have r := HX.out.2.1.set (i := i) (by rw [List.length_append, List.length_replicate, List.length_drop]; omega) mk
        rw [e] at r
        refine ⟨HX.out.1.keep f (fun x hx q => ?_), r, HX.out.2.2.trans f (fun i _ q => by rw [HK.out.2.2.2.2.2]; exact .inr ⟨_, rfl, q.symm⟩)⟩
        have h3 := HK.out.2.2.2.2.1
        dsimp only at hgb
        omega
      clear hx hgb hgl
      go_wp2
      exact ⟨⟨i + 1, by go_num, by omega, HS.out⟩, by simp [intOf]; omega⟩
    · obtain rfl : i = n := by omega
      have HX2 : Hid (KpL w wr bw X0 es 0 mk es ms (nn + 1) al cl am cm a c i) := by
        have hX : X.drop i = [] := List.drop_of_length_le (by have := HK.out.2.2.2.1; omega)
        have r := HX.out.2.1
        rw [hX, List.append_nil] at r
        have hk := HX.out.1
        have h3 := HK.out.2.2.2.2.1
        have e0 := HK.out.2.2.2.2.2
        have hba : ∀ y, a = some y → base ≤ y.block := fun y hy => (r.lt hy).1
        have hHs : H ≤ wr.heap.size := by have := HX.out.2.2.size; omega
        have hbH := hk.hb
        refine ⟨hk.up hHs, HK.out.2.1, rfl, fun e he => .inl he, fun e he => .inl he, r.low (Nat.zero_le _), fun y hy q => ?_, fun j e m he hm hp q => ?_, HX.out.2.2, fun y hy => ?_, fun y hy => ?_, fun y hy => ?_, ?_⟩
        · have h1 := hba y hy
          rcases q with q | ⟨z, q1, q2⟩ | ⟨z, q1, q2⟩
          · omega
          · have := (hk.hl z q1).1
            omega
          · have := (hk.hm z q1).1
            omega
        · obtain ⟨y, z, q1, q2, q3⟩ := q
          obtain ⟨b, p1, p2, _⟩ := hk.ent j e m he hm 0 hp
          have h1 := hba z q2
          rw [p1] at q1
          cases q1
          dsimp only at q3
          omega
        · rw [e0]; exact .inl (.inr ⟨y, hy, rfl⟩)
        · rw [e0]; exact .inl (.inl (.inr (.inl ⟨y, hy, rfl⟩)))
        · rw [e0]; exact .inl (.inl (.inr (.inr ⟨y, hy, rfl⟩)))
        · rw [e0]; exact .inl (.inl rfl)
      have hes : es.length ≤ 1099511627776 := hb2
      have HES : Hid (es.length ≤ 1099511627776) := hes
      obtain ⟨nn1, hnn1⟩ : ∃ nn1, nn1 = nn + 1 := ⟨_, rfl⟩
      rw [← hnn1] at HX2 ⊢
      have hwrap' : IntKind.i64.wrap (-(nn1 : Int)) = mk := by rw [← hwrap, hnn1]; congr 2
      have hnb : nn1 ≤ 1099511627777 := by omega
      obtain ⟨n0, hn0⟩ : ∃ n0, n0 = i := ⟨_, rfl⟩
      rw [← hn0] at HX2 ⊢
      have HN0 : Hid (n0 = i ∧ nn1 = nn + 1) := ⟨hn0, hnn1⟩
      have hn0b : n0 ≤ 1099511627776 := by omega
      clear HX c2 hwrap hb2 hlt hes hn0 hnn1
      obtain ⟨wk, hwk⟩ : ∃ wk, wk = wr := ⟨_, rfl⟩
      subst hwk
      go_wp2
      go_loopw [1, 5] (fun v1 v5 wr => ∃ (j : Nat) (es' : List Ent) (ms' : List Int) (al' : Option Addr) (cl' : Nat) (am' : Option Addr) (cm' : Nat) (a' : Option Addr) (c' : Nat), v1 = .slice a' (n0 + j) c' ∧ v5 = .int .i64 j ∧ j ≤ 4 ∧ Hid (KpL w wr bw X0 es j mk es' ms' nn1 al' cl' am' cm' a' c' (n0 + j))) (fun _ v5 _ => 4 - (intOf v5).toNat)
      case atStart => exact ⟨0, es, ms, al, cl, am, cm, a, c, rfl, rfl, Nat.zero_le _, HX2.out⟩
      case round =>
        obtain ⟨j, es', ms', al', cl', am', cm', a', c', rfl, rfl, hj, HL⟩ := hrel
        by_cases hlt : j < 4
        · have j2 : (j : Int) < 4 := by omega
          obtain ⟨N, hN⟩ : ∃ N, N = es'.length := ⟨_, rfl⟩
          obtain ⟨n1, hn1⟩ : ∃ n1, n1 = n0 + j := ⟨_, rfl⟩
          rw [← hn1] at HL ⊢
          have hn1b : n1 ≤ 1099511627780 := by omega
          have hNb : N ≤ 1099511627780 := by have h1 := HL.out.el; have h2 := HES.out; omega
          have HN : Hid (N = es'.length ∧ N = ms'.length ∧ n1 = n0 + j) := ⟨hN, by have := HL.out.len; omega, hn1⟩
          have HB : Hid (wr.heap[bw]? = some (.cells #[.slice al' N cl', .slice am' N cm', .int .i64 nn1] 57 (0, 0))) := Hid.mk0 (by have := HL.out.kp.blk; rw [← HN.out.1, ← HN.out.2.1] at this; exact this)
          have c0 : wr.cell? ⟨bw, 0, none⟩ = some (.slice al' N cl') := cell_of HB.out rfl
          clear hn1 hN
          go_wp2_with (at_builtin; refine wpList_append_own_at _ rfl _ _ 55 rfl 0 31 iL (.slice none 0 0) 1 24 Tryz.underlying55 HIL.out.1 HIL.out.2.1 HIL.out.2.2.1 HIL.out.2.2.2 rfl (by decide) (.slice al' N cl') N (ecells es') rfl ?own ⟨wr.heap.size, 0, none⟩ 1 1 (ecells [(a', n1, c')]) rfl ?ln ?cells (ecells_one _) ?len ?bytes ?base ?grow)
          case own =>
            have f : Fr (fun _ => False) wr (wr.alloc (Obj.cells #[.slice a' n1 c'] 31)) := (Fr.refl _ _).alloc _
            have := row_kept HL.out.kp.lr f (fun _ _ => id)
            rw [← HN.out.1] at this
            exact this
          case ln => rfl
          case cells => exact cell_one_new _ _ _
          case len => unfold maxLen; omega
          case bytes => omega
          case base => exact Nat.zero_le _
          case grow =>
            intro v1 w3 k1 g1 _ h5
            obtain ⟨al3, cl3, rfl⟩ := row_form k1
            have fa : Fr (fun _ => False) wr (wr.alloc (Obj.cells #[.slice a' n1 c'] 31)) := (Fr.refl _ _).alloc _
            have f3 : Fr (fun x => some x = al'.map (fun y => y.block)) wr w3 := (fa.mono (fun _ _ h => h.elim)).trans (grown_fr g1) (fun _ _ h => h)
            have H3 : Hid (w3.ownsRow 0 31 1 (.slice al3 (N + 1) cl3) (N + 1) (ecells (es' ++ [(a', n1, c')])) ∧ Fr (fun x => some x = al'.map (fun y => y.block)) wr w3 ∧ (al3.map (fun y => y.block) = al'.map (fun y => y.block) ∨ al3.map (fun y => y.block) = some (wr.heap.size + 1))) := ⟨by rw [ecells_append]; exact k1, f3, by rw [own_slice, own_slice] at h5; simpa using h5⟩
            have hb3 : w3.heap[bw]? = some (.cells #[.slice al' N cl', .slice am' N cm', .int .i64 nn1] 57 (0, 0)) := (f3.block bw (lt_of HB.out) (fun q => by
              cases hal : al' with
              | none => rw [hal] at q; cases q
              | some y =>
                rw [hal] at q
                have q' : bw = y.block := by simpa using q
                exact (HL.out.kp.hl y hal).2.1 q'.symm)).trans HB.out
            have HB3 : Hid (w3.heap[bw]? = some (.cells #[.slice al' N cl', .slice am' N cm', .int .i64 nn1] 57 (0, 0))) := hb3
            have d0 : w3.cell? ⟨bw, 0, none⟩ = some (.slice al' N cl') := cell_of hb3 rfl
            have d1 : w3.cell? ⟨bw, 1, none⟩ = some (.slice am' N cm') := cell_of hb3 rfl
            have d2 : w3.cell? ⟨bw, 2, none⟩ = some (.int .i64 nn1) := cell_of hb3 rfl
            have e0 : w3.frozen? ⟨bw, 0, none⟩ = false := frozen_of hb3 0
            have e1 : w3.frozen? ⟨bw, 1, none⟩ = false := frozen_of hb3 1
            clear k1 g1 h5 fa f3 hb3 c0
            go_wp2_with fail
            have H4 : Hid (KpM wr (w3.setCell ⟨bw, 0, none⟩ (.slice al3 (N + 1) cl3)) bw mk es' ms' nn1 al' al3 cl3 am' cm' a' c' n1 ∧ (w3.setCell ⟨bw, 0, none⟩ (.slice al3 (N + 1) cl3)).heap[bw]? = some (.cells #[.slice al3 (N + 1) cl3, .slice am' N cm', .int .i64 nn1] 57 (0, 0))) := ⟨KpM.of HL.out.kp HL.out.len HN.out.1 HN.out.2.1 HL.out.row HL.out.ab H3.out.1 H3.out.2.1 H3.out.2.2 HB3.out, set_of HB3.out 0 _⟩
            clear d0 d1 d2 e0 e1 HB3 H3
            generalize w3.setCell ⟨bw, 0, none⟩ (.slice al3 (N + 1) cl3) = w4 at *
            have d1 : w4.cell? ⟨bw, 1, none⟩ = some (.slice am' N cm') := cell_of H4.out.2 rfl
            have d2 : w4.cell? ⟨bw, 2, none⟩ = some (.int .i64 nn1) := cell_of H4.out.2 rfl
            have e1 : w4.frozen? ⟨bw, 1, none⟩ = false := frozen_of H4.out.2 1
            have fa5 : Fr (fun _ => False) w4 (w4.alloc (Obj.cells #[.int .i64 mk] 3)).drew := ((Fr.refl _ _).alloc _).drew
            have HMR : Hid ((w4.alloc (Obj.cells #[.int .i64 mk] 3)).drew.ownsRow 0 3 1 (.slice am' N cm') N (ints ms')) := Hid.mk0 ((H4.out.1.kp.mr.keep fa5).row HN.out.2.1.symm)
            have HNW : Hid (∀ j u, (ints [mk])[j]? = some u → (w4.alloc (Obj.cells #[.int .i64 mk] 3)).drew.cell? ((⟨w4.heap.size, 0, none⟩ : Addr).add j) = some u) := Hid.mk0 (fun j u hu => cell_one_new w4 (.int .i64 mk) 3 j u hu)
            have nb1 : w4.heap.size ≠ bw := World.new_ne w4 ⟨bw, 1, none⟩ d1
            have nb2 := Ne.symm nb1
            have fa6 : Fr (fun _ => False) w4 (w4.alloc (Obj.cells #[.int .i64 mk] 3)) := (Fr.refl _ _).alloc _
            have dA1 : (w4.alloc (Obj.cells #[.int .i64 mk] 3)).cell? ⟨bw, 1, none⟩ = some (.slice am' N cm') := fa6.cell id (lt_of H4.out.2) d1
            have dA2 : (w4.alloc (Obj.cells #[.int .i64 mk] 3)).drew.cell? ⟨bw, 1, none⟩ = some (.slice am' N cm') := fa5.cell id (lt_of H4.out.2) d1
            go_region_law
              ((refine step_append_lies (w4.alloc (Obj.cells #[.int .i64 mk] 3)).drew rfl (.tmp 46) (.tmp 52) 31 rfl 0 3 i0 (.int .i64 0) 1 8 Tryz.underlying31 HI.out.1 HI.out.2.1 HI.out.2.2.1 HI.out.2.2.2 rfl (by decide) (.slice am' N cm') N (ints ms') (by simp [Act.eval]) HMR.out ⟨w4.heap.size, 0, none⟩ 1 1 (ints [mk]) (by simp [Act.eval]) rfl HNW.out (ints_one _) (by decide) (by unfold maxLen; omega) (by omega) (Nat.zero_le _) _ rfl ?_; intro g6 cap6 w6 hown hgrow hat hlt6; have H6 : Hid (KpN w4 w6 bw mk ms' am' (some ⟨g6, 0, none⟩) cap6 N ∧ w6.heap[bw]? = some (.cells #[.slice al3 (N + 1) cl3, .slice am' N cm', .int .i64 nn1] 57 (0, 0))) := Hid.mk0 (KpN.of H4.out.1.kp HN.out.2.1 H4.out.2 hown hgrow hat hlt6); have q1 : w6.cell? ⟨bw, 1, none⟩ = some (.slice am' N cm') := cell_of H6.out.2 rfl; have q2 : w6.cell? ⟨bw, 2, none⟩ = some (.int .i64 nn1) := cell_of H6.out.2 rfl; have q3 : w6.frozen? ⟨bw, 1, none⟩ = false := frozen_of H6.out.2 1; clear hown hgrow hat hlt6))
            all_goals
              have H7 : Hid (KpP w (w6.setCell ⟨bw, 1, none⟩ (.slice (some ⟨g6, 0, none⟩) (N + 1) cap6)) bw X0 es j mk (es' ++ [(a', n1, c')]) (ms' ++ [mk]) nn1 al3 cl3 (some ⟨g6, 0, none⟩) cap6 a' c' n1) := Hid.mk0 (KpP.of HL.out H4.out.1 H6.out.1 HN.out.1 HN.out.2.1 H6.out.2)
              clear d1 d2 e1 dA1 dA2 q1 q2 q3 fa5 fa6 HMR HNW nb1 nb2
              generalize w6.setCell ⟨bw, 1, none⟩ (.slice (some ⟨g6, 0, none⟩) (N + 1) cap6) = w7 at *
              have d2 : w7.cell? ⟨bw, 2, none⟩ = some (.int .i64 nn1) := cell_of H7.out.kp.blk rfl
              have HNX : Hid (n1 + 1 = n0 + (j + 1)) := Hid.mk0 (by have := HN.out.2.2; omega)
              have fa7 : Fr (fun _ => False) w7 (w7.alloc (Obj.cells #[.int .i64 mk] 3)) := (Fr.refl _ _).alloc _
              have hrep : List.replicate (n1 + 1) mk = List.replicate n1 mk ++ [mk] := List.replicate_succ'
              have HREP : Hid (List.replicate (n1 + 1) mk = List.replicate n1 mk ++ [mk] ∧ Fr (fun _ => False) w7 (w7.alloc (Obj.cells #[.int .i64 mk] 3))) := ⟨hrep, fa7⟩
              have hform : (a' = none ∧ c' = 0 ∧ n1 = 0) ∨ ∃ g, a' = some ⟨g, 0, none⟩ := by
                rcases H7.out.row.2 with ⟨hv, hn0'⟩ | ⟨g, cap, cur, hv, hbg, hgg, hrest⟩
                · simp only [Value.slice.injEq, List.length_replicate] at hv
                  exact .inl ⟨hv.1, hv.2.2, hv.2.1⟩
                · simp only [Value.slice.injEq] at hv
                  exact .inr ⟨g, hv.1⟩
              clear hrep fa7
              by_cases hroom : n1 + 1 ≤ c'
              · obtain ⟨g, rfl⟩ : ∃ g, a' = some ⟨g, 0, none⟩ := by
                  rcases hform with ⟨_, q2, q3⟩ | q
                  · omega
                  · exact q
                go_wp2_with (at_builtin; refine wpList_append_own_spare _ rfl _ _ 31 rfl 0 3 i0 1 Tryz.underlying31 HI.out.1 HI.out.2.2.1 g n1 c' (ints (List.replicate n1 mk)) rfl ?own ⟨w7.heap.size, 0, none⟩ 1 1 (ints [mk]) rfl ?ln ?cells (ints_one _) ?room ?grow)
                case own => exact (H7.out.row.keep HREP.out.2).row (by simp)
                case ln => rfl
                case cells => exact cell_one_new _ _ _
                case room => exact hroom
                case grow =>
                  intro w9 k1 g1
                  have HL9 : Hid (KpL w w9 bw X0 es (j + 1) mk (es' ++ [(some ⟨g, 0, none⟩, n1, c')]) (ms' ++ [mk]) nn1 al3 cl3 (some ⟨g6, 0, none⟩) cap6 (some ⟨g, 0, none⟩) c' (n1 + 1)) := Hid.mk0 (H7.out.room ((HREP.out.2.mono (fun _ _ q => q.elim)).grown g1 (fun k hk _ => (Option.some.inj hk).symm)) (by
                    unfold Row
                    rw [HREP.out.1, List.length_append, List.length_replicate, ints_append]
                    exact k1))
                  rw [HNX.out] at HL9
                  clear k1 g1
                  go_wp2
                  exact ⟨⟨j + 1, _, _, al3, cl3, some ⟨g6, 0, none⟩, cap6, some ⟨g, 0, none⟩, c', by rw [HNX.out], by go_num, by omega, HL9.out⟩, by simp [intOf]; omega⟩
              · have hnone : a' = none → n1 = 0 ∧ c' = 0 := fun q => by
                  rcases hform with ⟨_, q2, q3⟩ | ⟨g, q2⟩
                  · exact ⟨q3, q2⟩
                  · rw [q] at q2; cases q2
                have HNO : Hid (a' = none → n1 = 0 ∧ c' = 0) := hnone
                have HOLD : Hid (∀ b, a' = some b → ∀ j u, (ints (List.replicate n1 mk))[j]? = some u → (w7.alloc (Obj.cells #[.int .i64 mk] 3)).cell? (b.add j) = some u) := Hid.mk0 (fun b hb => by
                  rcases hform with ⟨q1, _, _⟩ | ⟨g, q2⟩
                  · rw [q1] at hb; cases hb
                  · have r := H7.out.row.keep HREP.out.2
                    rw [q2] at hb r
                    cases hb
                    exact r.news2)
                clear hnone hform
                go_wp2_with (at_builtin; refine wpList_append_grows _ rfl _ _ 31 rfl 3 i0 (.int .i64 0) 1 8 Tryz.underlying31 HI.out.1 HI.out.2.1 HI.out.2.2.1 HI.out.2.2.2 rfl (by decide) a' n1 c' (ints (List.replicate n1 mk)) rfl HNO.out ?lo HOLD.out ⟨w7.heap.size, 0, none⟩ 1 1 (ints [mk]) rfl ?ln ?cells (ints_one _) ?full ?len ?bytes ?grow)
                case lo => simp [ints]
                case ln => rfl
                case cells => exact cell_one_new _ _ _
                case full => omega
                case len => unfold maxLen; omega
                case bytes => omega
                case grow =>
                  intro v9 w9 k1 g1
                  obtain ⟨a9, c9, rfl⟩ := row_form k1
                  have HL9 : Hid (KpL w w9 bw X0 es (j + 1) mk (es' ++ [(a', n1, c')]) (ms' ++ [mk]) nn1 al3 cl3 (some ⟨g6, 0, none⟩) cap6 a9 c9 (n1 + 1)) := Hid.mk0 (H7.out.grow (HREP.out.2.grown g1 (fun k hk _ => (by cases hk))) (by
                    have r : Row w9 (w7.heap.size + 1) a9 c9 (List.replicate (n1 + 1) mk) := by
                      unfold Row
                      rw [HREP.out.1, List.length_append, List.length_replicate, ints_append]
                      exact k1
                    exact r.low (by omega)))
                  rw [HNX.out] at HL9
                  clear k1 g1
                  go_wp2
                  exact ⟨⟨j + 1, _, _, al3, cl3, some ⟨g6, 0, none⟩, cap6, a9, c9, by rw [HNX.out], by go_num, by omega, HL9.out⟩, by simp [intOf]; omega⟩
        · obtain rfl : j = 4 := by omega
          have HL4 : Hid (KpL w wr bw X0 es 4 mk es' ms' (nn + 1) al' cl' am' cm' a' c' (i + 4)) := Hid.mk0 (by have := HL.out; rw [HN0.out.1, HN0.out.2] at this; exact this)
          clear HL
          go_wp2
          go_end0
          exact ⟨rfl, es', ms', al', cl', am', cm', a', c', HL4.out⟩

end Go.Proofs.YtmhaknejeobfgabGreatDoor

/- All7. -/
namespace Go.Proofs.YtmhaknejeobfgabGreatDoor
open Go.RowKit Go.Proofs.YtmhaknejeobfgabGreatDoor.Stable Go.Proofs.YtmhaknejeobfgabGreatDoor.Order Go.Proofs.YtmhaknejeobfgabGreatDoor.Points

/-- The book, away from the blocks of G. -/
structure Aw (w0 w : World) (bw nn : Nat) (G : Nat → Prop) (es : List Ent) (ms : List Int) (al : Option Addr) (cl : Nat) (am : Option Addr) (cm : Nat) : Prop where
  kp : Kp w bw w.heap.size es ms nn al cl am cm
  len : ms.length = es.length
  el : es.length ≤ 4 * nn
  small : ∀ e ∈ es, e.2.1 ≤ 2097152
  ob : w0.heap.size ≤ bw
  ol : ∀ y, al = some y → w0.heap.size ≤ y.block
  om : ∀ y, am = some y → w0.heap.size ≤ y.block
  fr : Fr (fun _ => False) w0 w
  ab : ∀ g, G g → ¬ inBook bw al am g
  ae : ∀ g, G g → ∀ e ∈ es, 0 < e.2.1 → ∀ y, e.1 = some y → y.block ≠ g

/-- The book. -/
def Bk (w0 w : World) (bw nn : Nat) (G : Nat → Prop) : Prop := ∃ es ms al cl am cm, Aw w0 w bw nn G es ms al cl am cm

theorem Kp.wide {w : World} {bw H : Nat} {es : List Ent} {ms : List Int} {nn : Nat} {al : Option Addr} {cl : Nat} {am : Option Addr} {cm : Nat} (h : Kp w bw H es ms nn al cl am cm) (hl : ms.length = es.length) {e : Ent} (he : e ∈ es) (hp : 0 < e.2.1) : ∃ b, e.1 = some ⟨b, 0, none⟩ ∧ b < H := by
  obtain ⟨j, hj, rfl⟩ := List.getElem_of_mem he
  obtain ⟨b, h1, h2, _⟩ := h.ent j _ _ (List.getElem?_eq_getElem hj) (List.getElem?_eq_getElem (by omega)) 0 hp
  exact ⟨b, h1, h2⟩

theorem Bk.keep {w0 w w' : World} {bw nn : Nat} {G : Nat → Prop} (h : Bk w0 w bw nn G) (f : Fr (fun _ => False) w w') : Bk w0 w' bw nn G := by
  obtain ⟨es, ms, al, cl, am, cm, a⟩ := h
  exact ⟨es, ms, al, cl, am, cm, { a with kp := (a.kp.keep f (fun _ _ => id)).up f.size, fr := a.fr.trans f (fun _ _ q => q) }⟩

theorem Bk.fr {w0 w : World} {bw nn : Nat} {G : Nat → Prop} (h : Bk w0 w bw nn G) : Fr (fun _ => False) w0 w := by
  obtain ⟨es, ms, al, cl, am, cm, a⟩ := h
  exact a.fr

/-- What is new is away from it. -/
theorem Bk.more {w0 w : World} {bw nn : Nat} {G G' : Nat → Prop} (h : Bk w0 w bw nn G) (hG : ∀ g, G' g → G g ∨ w.heap.size ≤ g) : Bk w0 w bw nn G' := by
  obtain ⟨es, ms, al, cl, am, cm, a⟩ := h
  refine ⟨es, ms, al, cl, am, cm, { a with ab := fun g hg q => ?_, ae := fun g hg e he hp y hy q => ?_ }⟩
  · rcases hG g hg with k | k
    · exact a.ab g k q
    · have hb := a.kp.hb
      rcases q with q | ⟨z, z1, z2⟩ | ⟨z, z1, z2⟩
      · omega
      · have := (a.kp.hl z z1).1
        omega
      · have := (a.kp.hm z z1).1
        omega
  · rcases hG g hg with k | k
    · exact a.ae g k e he hp y hy q
    · obtain ⟨b, h1, h2⟩ := a.kp.wide a.len he hp
      rw [hy] at h1
      cases h1
      dsimp only at q
      omega

/-- A block of G is turned. -/
theorem Bk.turn {w0 w w' : World} {bw nn g : Nat} {G : Nat → Prop} (h : Bk w0 w bw nn G) (hg : G g) (hn : w0.heap.size ≤ g) (f : Fr (fun x => x = g) w w') : Bk w0 w' bw nn G := by
  obtain ⟨es, ms, al, cl, am, cm, a⟩ := h
  have hk := a.kp.room f (a.ab g hg) (n := 0) (mk := 0) (fun i hi => absurd hi (Nat.not_lt_zero _)) (fun j e m he hm hp q => by
    obtain ⟨y, q1, q2⟩ := q
    exact absurd q2 (a.ae g hg e (List.mem_of_getElem? he) hp y q1))
  exact ⟨es, ms, al, cl, am, cm, { a with kp := hk.up f.size, fr := a.fr.trans f (fun i hi q => by omega) }⟩

/-- A list more is kept. -/
theorem Bk.kept {w0 w w' : World} {bw nn n : Nat} {G : Nat → Prop} {es es' : List Ent} {ms ms' : List Int} {al al' : Option Addr} {cl cl' : Nat} {am am' : Option Addr} {cm cm' : Nat} {a a' : Option Addr} {c' : Nat} {mk : Int} (B : Aw w0 w bw nn G es ms al cl am cm) (hG : ∀ g, G g → g < w.heap.size ∧ ∀ y, a = some y → y.block ≠ g) (ha : ∀ y, a = some y → w0.heap.size ≤ y.block) (hn : n ≤ 1048576)
    (L : KpL w w' bw (fun x => inBook bw al am x ∨ ∃ y, a = some y ∧ y.block = x) es 4 mk es' ms' (nn + 1) al' cl' am' cm' a' c' (n + 4)) : Bk w0 w' bw (nn + 1) G := by
  have s0 := B.fr.size
  have hnew : ∀ {o : Option Addr}, (∀ y, o = some y → (inBook bw al am y.block ∨ ∃ z, a = some z ∧ z.block = y.block) ∨ w.heap.size ≤ y.block) → ∀ y, o = some y → w0.heap.size ≤ y.block := fun {o} h y hy => by
    rcases h y hy with (q | ⟨z, z1, z2⟩) | q
    · rcases q with q | ⟨z, z1, z2⟩ | ⟨z, z1, z2⟩
      · rw [q]; exact B.ob
      · rw [← z2]; exact B.ol z z1
      · rw [← z2]; exact B.om z z1
    · rw [← z2]; exact ha z z1
    · omega
  have haw : ∀ {o : Option Addr}, (∀ y, o = some y → (inBook bw al am y.block ∨ ∃ z, a = some z ∧ z.block = y.block) ∨ w.heap.size ≤ y.block) → ∀ g, G g → ∀ y, o = some y → y.block ≠ g := fun {o} h g hg y hy e => by
    rcases h y hy with (q | ⟨z, z1, z2⟩) | q
    · rw [e] at q
      exact B.ab g hg q
    · exact (hG g hg).2 z z1 (z2.trans e)
    · have := (hG g hg).1
      omega
  refine ⟨es', ms', al', cl', am', cm', L.kp, L.len, by have h1 := L.el; have h2 := B.el; omega, fun e he => ?_, B.ob, hnew L.xl, hnew L.xm, B.fr.trans L.fr (fun i hi q => ?_), fun g hg q => ?_, fun g hg e he hp y hy => ?_⟩
  · rcases L.small e he with q | q
    · exact B.small e q
    · omega
  · rcases q with q | ⟨y, y1, y2⟩
    · have h1 := hnew (o := some ⟨i, 0, none⟩) (fun y hy => by cases hy; exact .inl (.inl q)) _ rfl
      dsimp only at h1
      omega
    · have := ha y y1
      omega
  · rcases q with q | ⟨y, y1, y2⟩ | ⟨y, y1, y2⟩
    · exact B.ab g hg (.inl q)
    · exact haw L.xl g hg y y1 y2
    · exact haw L.xm g hg y y1 y2
  · rcases L.eb e he with q | q
    · exact B.ae g hg e q hp y hy
    · exact haw q g hg y hy

/-- Chunks that were lent can be read. -/
theorem lent_chunks {w : World} {g : Nat} {L : List Chk} (h : w.heap[g]? = some (.cells (chArr (lentL L)) 49 (0, 0))) (hk : ∀ c ∈ L, -9223372036854775808 ≤ c.1 ∧ c.1 ≤ 9223372036854775807) : ChunksIn w w.heap.size (some ⟨g, 0, none⟩) L := fun j c hj => by
  have hlt : j < L.length := (List.getElem?_eq_some_iff.1 hj).1
  obtain ⟨e1, e2⟩ := chArr_at ((lent_old hlt).trans hj)
  exact ⟨g, 0, rfl, lt_of h, lt_of h, by rw [Nat.zero_add]; exact cell_of h e1, by rw [Nat.zero_add]; exact cell_of h e2, hk c (List.mem_of_getElem? hj)⟩

end Go.Proofs.YtmhaknejeobfgabGreatDoor
