/- The document's answer: a source, chunk by chunk: its reader, walked. The document's answer: one more chunk, walked. The document's answer: the next code point of a source, walked. The document's answer: two sources compared, walked. -/
import Derived.Test.YtmhaknejeobfgabGreatDoorRefs2
import Derived.Test.YtmhaknejeobfgabGreatDoorChReads
import Derived.Test.YtmhaknejeobfgabGreatDoorChPlain
import Derived.Deep.LoopGhost
import Derived.Laws.ResultCell

/- Ref19. -/
namespace Go.Proofs.YtmhaknejeobfgabGreatDoor
open Go.RowKit Go.Proofs.YtmhaknejeobfgabGreatDoor.Stable Go.Proofs.YtmhaknejeobfgabGreatDoor.Order Go.Proofs.YtmhaknejeobfgabGreatDoor.Points
open Go.Lib (decodeL decodeL_width)
attribute [local go_sem ↓] Go.wp_at_zero Go.wp_at_succ

theorem ptsR_sure : ∀ (n o : Nat) (l : List UInt8), l.length ≤ n → (ptsR false o l).map (fun p => p.2) = sureF n l
  | 0, o, l, h => by
    have : l = [] := List.eq_nil_of_length_eq_zero (by omega)
    subst this
    rfl
  | n + 1, o, l, h => by
    rw [sureF]
    by_cases hne : l = []
    · subst hne
      rw [if_neg (fun k => (full_iff.1 k).1 rfl)]
      rfl
    · rw [ptsR_step false o l hne]
      by_cases h0 : (atL l).2 = 0
      · rw [if_pos ⟨h0, rfl⟩, if_neg (fun k => (full_iff.1 k).2 h0)]
        rfl
      · have hw := decodeL_width l
        have hl : 0 < l.length := List.length_pos_iff.2 hne
        rw [if_neg (fun k => h0 k.1), if_pos (full_iff.2 ⟨hne, h0⟩), List.map_cons, ptsR_sure n _ _ (by rw [List.length_drop]; omega)]

theorem gone_pts (L : List Chk) (k : Nat) (e : Bool) : (ptsR e 0 (bytesOf (L.take k))).map (fun p => p.2) = goneIn L k e := by
  unfold goneIn
  cases e with
  | true => rw [if_pos rfl]; exact ptsR_all _
  | false => rw [if_neg (by decide)]; exact ptsR_sure _ 0 _ (Nat.le_refl _)

/-- Where the document's reader stands: k chunks were read, t code points fetched. -/
structure RdR (w : World) (hi lo br : Nat) (m : Int) (a : Option Addr) (cp : Nat) (L : List Chk) (k t : Nat) (e made : Bool) (s : ByteArray) (hd : Nat) (an : Option Addr) (nn cn : Nat) : Prop where
  blk : w.heap[br]? = some (.cells #[.int .i64 m, .slice a L.length cp, .int .i64 k, .int .i64 (idleOf (L.take k)), .string s, .bool e, .int .i64 t, .int .i64 hd, .slice an nn cn, .bool made] 77 (0, 0))
  byt : s.data.toList = bytesOf (L.take k)
  ok : OkAt L k e
  ch : ChunksIn w hi a L
  now : made = true → nn = (relOf m L k e).length ∧ hd = heldAt m L k e ∧ IntsAt w an (relOf m L k e)
  new : ∀ x, an = some x → lo ≤ x.block
  hb : hi ≤ br
  bl : br < lo
  small : (bytesOf L).length + L.length ≤ 1048576
  h0 : 0 ≤ m
  h3 : m ≤ 3

theorem RdR.kept {w w' : World} {hi lo br : Nat} {m : Int} {a : Option Addr} {cp : Nat} {L : List Chk} {k t : Nat} {e made : Bool} {s : ByteArray} {hd : Nat} {an : Option Addr} {nn cn : Nat} (h : RdR w hi lo br m a cp L k t e made s hd an nn cn) {X : Nat → Prop} (f : Fr X w w') (h1 : ∀ x, x < hi → ¬ X x) (h2 : ∀ x, lo ≤ x → ¬ X x) (h3 : ¬ X br) : RdR w' hi lo br m a cp L k t e made s hd an nn cn :=
  { h with blk := (f.block br (lt_of h.blk) h3).trans h.blk, ch := h.ch.kept f h1, now := fun q => ⟨(h.now q).1, (h.now q).2.1, (h.now q).2.2.kept f (fun x hx => h2 _ (h.new x hx))⟩ }

theorem Fr.put {w w1 : World} {b : Nat} (h : Fr (fun i => i = b) w w1) (o : Nat) (v : Value) : Fr (fun i => i = b) w (w1.setCell ⟨b, o, none⟩ v) := h.setCell _ _ (fun _ => rfl)

theorem take_bytes (L : List Chk) (k : Nat) : (bytesOf (L.take k)).length ≤ (bytesOf L).length := by
  have e : bytesOf L = bytesOf (L.take k) ++ bytesOf (L.drop k) := by rw [← bytes_append, List.take_append_drop]
  rw [e, List.length_append]
  omega

theorem gone_valid (L : List Chk) (k : Nat) (e : Bool) : ∀ c ∈ goneIn L k e, Valid c := by
  unfold goneIn
  cases e with
  | true => rw [if_pos rfl]; exact codes_valid _
  | false => rw [if_neg (by decide)]; exact sure_valid _

theorem ptsR_len (e : Bool) : ∀ (n o : Nat) (l : List UInt8), l.length ≤ n → (ptsR e o l).length ≤ l.length
  | 0, o, l, h => by
    have : l = [] := List.eq_nil_of_length_eq_zero (by omega)
    subst this
    simp [ptsR_nil]
  | n + 1, o, l, h => by
    by_cases hne : l = []
    · subst hne; simp [ptsR_nil]
    · have hw := decodeL_width l
      have hl : 0 < l.length := List.length_pos_iff.2 hne
      rw [ptsR_step e o l hne]
      split
      · simp
      · have := ptsR_len e n (o + (decodeL l).2) (l.drop (decodeL l).2) (by rw [List.length_drop]; omega)
        rw [List.length_drop] at this
        rw [List.length_cons]
        omega

theorem gone_len (L : List Chk) (k : Nat) (e : Bool) : (goneIn L k e).length ≤ (bytesOf L).length := by
  have h1 := ptsR_len e (bytesOf (L.take k)).length 0 (bytesOf (L.take k)) (Nat.le_refl _)
  have h2 := take_bytes L k
  rw [← gone_pts, List.length_map]
  omega

set_option maxRecDepth 100000 in
set_option maxHeartbeats 1600000 in
theorem rdform_calls {w : World} {hi lo br : Nat} {m : Int} {a : Option Addr} {cp : Nat} {L : List Chk} {k t : Nat} {e made : Bool} {s : ByteArray} {hd : Nat} {an : Option Addr} {nn cn : Nat} (h : RdR w hi lo br m a cp L k t e made s hd an nn cn) (hlo : lo ≤ w.heap.size) :
    Calls Tryz.prog 34 #[.pointer (some ⟨br, 0, none⟩)] w fun x w' => ∃ (an' : Option Addr) (nn' cn' : Nat), x = .returned (.slice an' nn' cn') ∧ RdR w' hi lo br m a cp L k t e true s (heldAt m L k e) an' nn' cn' ∧ Fr (fun i => i = br) w w' := by
  have HR : Hid (RdR w hi lo br m a cp L k t e made s hd an nn cn) := h
  have c4 : w.cell? ⟨br, 4, none⟩ = some (.string s) := cell_of h.blk rfl
  have c0 : w.cell? ⟨br, 0, none⟩ = some (.int .i64 m) := cell_of h.blk rfl
  have c5 : w.cell? ⟨br, 5, none⟩ = some (.bool e) := cell_of h.blk rfl
  have c8 : w.cell? ⟨br, 8, none⟩ = some (.slice an nn cn) := cell_of h.blk rfl
  have c9 : w.cell? ⟨br, 9, none⟩ = some (.bool made) := cell_of h.blk rfl
  clear h
  cases made with
  | true =>
    go_enter Tryz.func34, Tryz.ntmps34
    go_wp2
    go_ret
    refine ⟨an, nn, cn, rfl, ?_, Fr.refl _ _⟩
    have hq := HR.out
    obtain ⟨q1, q2, q3⟩ := hq.now rfl
    rw [← q2]
    exact hq
  | false =>
    have HS : Hid (s.size ≤ 1099511627776 ∧ s.data.toList = bytesOf (L.take k)) := by
      have h1 := take_bytes L k
      have h2 := HR.out.small
      have h3 := HR.out.byt
      have h4 := Lib.size_eq s
      rw [h3] at h4
      exact ⟨by omega, h3⟩
    go_enter Tryz.func34, Tryz.ntmps34
    go_wp2_with fail
    go_region_held3 (fun w' => w'.cell? ⟨br, 4, none⟩ = some (.string s) ∧ w'.cell? ⟨br, 5, none⟩ = some (.bool e)) (go_keep)
      ((go_at_call 62; refine (points_calls s e _ HS.out.1).mono ?_; rw [HS.out.2]; rintro x w1 ⟨a1, p1, a2, p2, rfl, hp⟩; obtain ⟨n1, hn1⟩ : ∃ n1, n1 = (ptsR e 0 (bytesOf (L.take k))).length := ⟨_, rfl⟩; rw [← hn1]; have HP : Hid (n1 = (goneIn L k e).length ∧ IntsAt w1 a1 (goneIn L k e) ∧ Fr (fun _ => False) w w1) := ⟨by rw [hn1, ← gone_pts, List.length_map], by rw [← gone_pts]; exact hp.r1.ints, Fr.of_drew hp.fr⟩; clear hp hn1; have d0 : w1.cell? ⟨br, 0, none⟩ = some (.int .i64 m) := HP.out.2.2.cell id (lt_of HR.out.blk) c0; have d4 : w1.cell? ⟨br, 4, none⟩ = some (.string s) := HP.out.2.2.cell id (lt_of HR.out.blk) c4; have d5 : w1.cell? ⟨br, 5, none⟩ = some (.bool e) := HP.out.2.2.cell id (lt_of HR.out.blk) c5))
    have HN1 : Hid (n1 ≤ 4194304) := Hid.mk0 (by have h1 := gone_len L k e; have h2 := HR.out.small; have h3 := HP.out.1; omega)
    go_wp2_with fail
    go_region_held3 (fun w' => w'.cell? ⟨br, 0, none⟩ = some (.int .i64 m) ∧ w'.cell? ⟨br, 5, none⟩ = some (.bool e)) (go_keep)
      ((go_at_call 63; refine (form_calls m e HR.out.h0 HR.out.h3 (HP.out.2.1.keep (Fr.refl (fun _ => False) _).drew) (gone_valid L k e) HP.out.1 HN1.out).mono ?_; rintro x w2 ⟨a3, c3, n3, d3, rfl, hf⟩; have HF : Hid (n3 = (relOf m L k e).length ∧ d3 = heldAt m L k e ∧ Row w2 w1.heap.size a3 c3 (relOf m L k e) ∧ Fr (fun _ => False) w1 w2) := ⟨hf.len, hf.held, hf.row, Fr.of_drew hf.fr⟩; clear hf; have g0 : w2.cell? ⟨br, 0, none⟩ = some (.int .i64 m) := HF.out.2.2.2.cell id (World.block_lt_of_cell? _ ⟨br, 0, none⟩ d0) d0; have g5 : w2.cell? ⟨br, 5, none⟩ = some (.bool e) := HF.out.2.2.2.cell id (World.block_lt_of_cell? _ ⟨br, 5, none⟩ d5) d5))
    have HB : Hid (w2.heap[br]? = some (.cells #[.int .i64 m, .slice a L.length cp, .int .i64 k, .int .i64 (idleOf (L.take k)), .string s, .bool e, .int .i64 t, .int .i64 hd, .slice an nn cn, .bool false] 77 (0, 0)) ∧ Fr (fun _ => False) w w2) := by
      have f := HP.out.2.2.trans HF.out.2.2.2 (fun _ _ h => h)
      exact ⟨(f.block br (lt_of HR.out.blk) id).trans HR.out.blk, f⟩
    have e7 : w2.cell? ⟨br, 7, none⟩ = some (.int .i64 hd) := cell_of HB.out.1 rfl
    have e8 : w2.cell? ⟨br, 8, none⟩ = some (.slice an nn cn) := cell_of HB.out.1 rfl
    have e9 : w2.cell? ⟨br, 9, none⟩ = some (.bool false) := cell_of HB.out.1 rfl
    have k7 : w2.frozen? ⟨br, 7, none⟩ = false := frozen_of HB.out.1 7
    have k8 : w2.frozen? ⟨br, 8, none⟩ = false := frozen_of HB.out.1 8
    have k9 : w2.frozen? ⟨br, 9, none⟩ = false := frozen_of HB.out.1 9
    clear c0 c4 c5 c8 c9 d0 d4 d5 g0 g5
    go_wp2
    go_ret
    have fS : Fr (fun i => i = br) w2 (((w2.setCell ⟨br, 7, none⟩ (.int .i64 d3)).setCell ⟨br, 8, none⟩ (.slice a3 n3 c3)).setCell ⟨br, 9, none⟩ (.bool true)) := (((Fr.refl _ _).put 7 _).put 8 _).put 9 _
    have fA : Fr (fun i => i = br) w (((w2.setCell ⟨br, 7, none⟩ (.int .i64 d3)).setCell ⟨br, 8, none⟩ (.slice a3 n3 c3)).setCell ⟨br, 9, none⟩ (.bool true)) := (HB.out.2.mono (fun _ _ h => h.elim)).trans fS (fun _ _ h => h)
    have hq := HR.out
    have hw1 := HP.out.2.2.size
    have hnew : ∀ x, a3 = some x → lo ≤ x.block := fun x hx => by
      have := (HF.out.2.2.1.lt hx).1
      omega
    have hbl := hq.bl
    refine ⟨a3, n3, c3, rfl, ⟨?_, hq.byt, hq.ok, hq.ch.kept fA (fun x hx => by have := hq.hb; omega), fun _ => ⟨HF.out.1, rfl, HF.out.2.2.1.ints.kept fS (fun x hx => by have := hnew x hx; omega)⟩, hnew, hq.hb, hq.bl, hq.small, hq.h0, hq.h3⟩, fA⟩
    rw [set_of (set_of (set_of HB.out.1 7 _) 8 _) 9 _, ← HF.out.2.1]
    rfl

end Go.Proofs.YtmhaknejeobfgabGreatDoor

/- Ref20. -/
namespace Go.Proofs.YtmhaknejeobfgabGreatDoor
open Go.RowKit Go.Proofs.YtmhaknejeobfgabGreatDoor.Stable Go.Proofs.YtmhaknejeobfgabGreatDoor.Order Go.Proofs.YtmhaknejeobfgabGreatDoor.Points
attribute [local go_sem ↓] Go.wp_at_zero Go.wp_at_succ

set_option maxRecDepth 100000 in
theorem rread_end {w : World} {hi lo br : Nat} {m : Int} {a : Option Addr} {cp : Nat} {L : List Chk} {k t : Nat} {e made : Bool} {s : ByteArray} {hd : Nat} {an : Option Addr} {nn cn : Nat} (h : RdR w hi lo br m a cp L k t e made s hd an nn cn) (hk : k = L.length) :
    Calls Tryz.prog 31 #[.pointer (some ⟨br, 0, none⟩)] w fun x w' => x = .returned (.int .i64 0) ∧ RdR w' hi lo br m a cp L k t true false s hd an nn cn ∧ Fr (fun i => i = br) w w' := by
  have HR : Hid (RdR w hi lo br m a cp L k t e made s hd an nn cn) := h
  obtain ⟨N, hN⟩ : ∃ N, N = L.length := ⟨_, rfl⟩
  have c1 : w.cell? ⟨br, 1, none⟩ = some (.slice a N cp) := by rw [hN]; exact cell_of h.blk rfl
  have c2 : w.cell? ⟨br, 2, none⟩ = some (.int .i64 k) := cell_of h.blk rfl
  have c5 : w.cell? ⟨br, 5, none⟩ = some (.bool e) := cell_of h.blk rfl
  have c9 : w.cell? ⟨br, 9, none⟩ = some (.bool made) := cell_of h.blk rfl
  have g5 : w.frozen? ⟨br, 5, none⟩ = false := frozen_of h.blk 5
  have g9 : w.frozen? ⟨br, 9, none⟩ = false := frozen_of h.blk 9
  have hkN : k = N := by omega
  have HK : Hid (k = L.length) := hk
  clear h hk hN
  subst hkN
  go_enter Tryz.func31, Tryz.ntmps31
  go_wp2
  go_quiet (fail)
  go_wp2
  go_ret
  have hq := HR.out
  have f : Fr (fun i => i = br) w (((w.setCell ⟨br, 9, none⟩ (.bool false)).drewN nq).setCell ⟨br, 5, none⟩ (.bool true)) := (((Fr.refl _ _).put 9 _).drewN _).put 5 _
  have b1 : ((w.setCell ⟨br, 9, none⟩ (.bool false)).drewN nq).heap[br]? = some (.cells #[.int .i64 m, .slice a L.length cp, .int .i64 k, .int .i64 (idleOf (L.take k)), .string s, .bool e, .int .i64 t, .int .i64 hd, .slice an nn cn, .bool false] 77 (0, 0)) := set_of hq.blk 9 _
  refine ⟨rfl, ⟨?_, hq.byt, ⟨by have := HK.out; omega, fun _ => HK.out⟩, hq.ch.kept f (fun x hx => by have := hq.hb; omega), fun q => (by cases q), hq.new, hq.hb, hq.bl, hq.small, hq.h0, hq.h3⟩, f⟩
  rw [set_of b1 5 _]
  rfl

theorem idle_small (L : List Chk) (k : Nat) : idleOf (L.take k) ≤ L.length := by
  have := idle_le (L.take k)
  rw [List.length_take] at this
  omega

/-- What a read leaves. -/
def RdOn (w w' : World) (hi lo br : Nat) (m : Int) (a : Option Addr) (cp : Nat) (L : List Chk) (k t hd : Nat) (an : Option Addr) (nn cn : Nat) : Prop := (∃ s', RdR w' hi lo br m a cp L (k + 1) t false false s' hd an nn cn) ∧ Fr (fun i => i = br) w w'

theorem RdOn.mk {w w7 : World} {hi lo br : Nat} {m : Int} {a : Option Addr} {cp : Nat} {L : List Chk} {k t : Nat} {made : Bool} {s s2 : ByteArray} {hd : Nat} {an : Option Addr} {nn cn : Nat} {i3 z : Int} (h : RdR w hi lo br m a cp L k t false made s hd an nn cn) (hk : k < L.length) (hb : w7.heap[br]? = some (.cells #[.int .i64 m, .slice a L.length cp, .int .i64 ((k : Int) + 1), .int .i64 i3, .string s2, .bool false, .int .i64 t, .int .i64 hd, .slice an nn cn, .bool false] 77 (0, 0))) (f : Fr (fun i => i = br) w w7) (hs : s2.data.toList = bytesOf (L.take (k + 1))) (hz : z = (idleOf (L.take (k + 1)) : Int)) : RdOn w (w7.setCell ⟨br, 3, none⟩ (.int .i64 z)) hi lo br m a cp L k t hd an nn cn := by
  have f2 : Fr (fun i => i = br) w (w7.setCell ⟨br, 3, none⟩ (.int .i64 z)) := f.put 3 _
  refine ⟨⟨s2, ?_, hs, ⟨by omega, fun q => (by cases q)⟩, h.ch.kept f2 (fun x hx => by have := h.hb; omega), fun q => (by cases q), h.new, h.hb, h.bl, h.small, h.h0, h.h3⟩, f2⟩
  rw [set_of hb 3 _, hz, show ((k + 1 : Nat) : Int) = (k : Int) + 1 by omega]
  rfl

theorem fault_cases {P : List Chk} {kd : Int} {tx : List UInt8} {er : Int} (h : er = faultBy P (kd, tx)) : (kd = 1 ∧ er = 2) ∨ (kd ≠ 1 ∧ kd ≠ 0 ∧ er = 3) ∨ (kd = 0 ∧ idleOf (P ++ [(kd, tx)]) = 64 ∧ er = 4) ∨ (kd = 0 ∧ idleOf (P ++ [(kd, tx)]) ≠ 64 ∧ er = 0) := by
  unfold faultBy at h
  dsimp only at h
  by_cases h0 : kd = 0
  · rw [if_pos h0] at h
    by_cases h1 : idleOf (P ++ [(kd, tx)]) = 64
    · rw [if_pos h1] at h
      exact .inr (.inr (.inl ⟨h0, h1, h⟩))
    · rw [if_neg h1] at h
      exact .inr (.inr (.inr ⟨h0, h1, h⟩))
  · rw [if_neg h0] at h
    by_cases h1 : kd = 1
    · rw [if_pos h1] at h
      exact .inl ⟨h1, h⟩
    · rw [if_neg h1] at h
      exact .inr (.inl ⟨h1, h0, h⟩)

set_option maxRecDepth 100000 in
set_option maxHeartbeats 3200000 in
theorem rread_calls {w : World} {hi lo br : Nat} {m : Int} {a : Option Addr} {cp : Nat} {L : List Chk} {k t : Nat} {made : Bool} {s : ByteArray} {hd : Nat} {an : Option Addr} {nn cn : Nat} (h : RdR w hi lo br m a cp L k t false made s hd an nn cn) (hk : k < L.length) (_ : lo ≤ w.heap.size) :
    Calls Tryz.prog 31 #[.pointer (some ⟨br, 0, none⟩)] w fun x w' => x = .returned (.int .i64 (faultAt L k)) ∧ RdOn w w' hi lo br m a cp L k t hd an nn cn := by
  obtain ⟨c, hc⟩ : ∃ c, L[k]? = some c := ⟨_, List.getElem?_eq_getElem hk⟩
  obtain ⟨kd, tx⟩ := c
  obtain ⟨b, off, rfl, hb1, hb2, hd0, hd1, hr1, hr2⟩ := h.ch k _ hc
  dsimp only at hd0 hd1 hr1 hr2
  have hfa := faultAt_some hc
  obtain ⟨er, her⟩ : ∃ er, er = faultAt L k := ⟨_, rfl⟩
  rw [← her] at hfa ⊢
  obtain ⟨N, hN⟩ : ∃ N, N = L.length := ⟨_, rfl⟩
  have HR : Hid (RdR w hi lo br m (some ⟨b, off, none⟩) cp L k t false made s hd an nn cn ∧ L[k]? = some (kd, tx) ∧ er = faultBy (L.take k) (kd, tx)) := ⟨h, hc, hfa⟩
  have HN : Hid (N = L.length) := hN
  have hNs : N ≤ 1048576 := by have := h.small; omega
  have c1 : w.cell? ⟨br, 1, none⟩ = some (.slice (some ⟨b, off, none⟩) N cp) := by rw [hN]; exact cell_of h.blk rfl
  have c2 : w.cell? ⟨br, 2, none⟩ = some (.int .i64 k) := cell_of h.blk rfl
  have c9 : w.cell? ⟨br, 9, none⟩ = some (.bool made) := cell_of h.blk rfl
  have g9 : w.frozen? ⟨br, 9, none⟩ = false := frozen_of h.blk 9
  have hkN : k < N := by omega
  have hne : ((k : Int) == (N : Int)) = false := by rw [beq_eq_false_iff_ne]; omega
  clear h hc hk hfa her hN
  go_enter Tryz.func31, Tryz.ntmps31
  go_wp2
  go_quiet (fail)
  go_wp2_with fail
  have hbW : ((w.setCell ⟨br, 9, none⟩ (.bool false)).drewN nq).heap[br]? = some (.cells #[.int .i64 m, .slice (some ⟨b, off, none⟩) L.length cp, .int .i64 k, .int .i64 (idleOf (L.take k)), .string s, .bool false, .int .i64 t, .int .i64 hd, .slice an nn cn, .bool false] 77 (0, 0)) := set_of HR.out.1.blk 9 _
  have fW : Fr (fun i => i = br) w ((w.setCell ⟨br, 9, none⟩ (.bool false)).drewN nq) := ((Fr.refl _ _).put 9 _).drewN _
  have hbr : b ≠ br := by have := HR.out.1.hb; omega
  have d0W : ((w.setCell ⟨br, 9, none⟩ (.bool false)).drewN nq).cell? ⟨b, off + k * 2, none⟩ = some (.int .i64 kd) := fW.cell hbr hb2 hd0
  have d1W : ((w.setCell ⟨br, 9, none⟩ (.bool false)).drewN nq).cell? ⟨b, off + k * 2 + 1, none⟩ = some (.string ⟨tx.toArray⟩) := fW.cell hbr hb2 hd1
  have HW : Hid (Fr (fun i => i = br) w ((w.setCell ⟨br, 9, none⟩ (.bool false)).drewN nq) ∧ ((w.setCell ⟨br, 9, none⟩ (.bool false)).drewN nq).heap[br]? = some (.cells #[.int .i64 m, .slice (some ⟨b, off, none⟩) L.length cp, .int .i64 k, .int .i64 (idleOf (L.take k)), .string s, .bool false, .int .i64 t, .int .i64 hd, .slice an nn cn, .bool false] 77 (0, 0))) := ⟨fW, hbW⟩
  have c1W : ((w.setCell ⟨br, 9, none⟩ (.bool false)).drewN nq).cell? ⟨br, 1, none⟩ = some (.slice (some ⟨b, off, none⟩) L.length cp) := cell_of hbW rfl
  have c2W : ((w.setCell ⟨br, 9, none⟩ (.bool false)).drewN nq).cell? ⟨br, 2, none⟩ = some (.int .i64 k) := cell_of hbW rfl
  rw [← HN.out] at c1W
  clear hbW fW hd0 hd1 c1 c2 c9 g9 hne
  generalize (w.setCell ⟨br, 9, none⟩ (.bool false)).drewN nq = W at *
  have n0 : W.heap.size ≠ br := World.new_ne W ⟨br, 1, none⟩ c1W
  have n1 : W.heap.size ≠ b := World.new_ne W ⟨b, off + k * 2, none⟩ d0W
  have n2 := Ne.symm n0
  have n3 := Ne.symm n1
  have i1 : (0 : Int) ≤ (k : Int) := by omega
  have i2 : (k : Int) < (N : Int) := by omega
  go_region_held3 (fun w' => w'.cell? ⟨br, 1, none⟩ = some (.slice (some ⟨b, off, none⟩) N cp) ∧ w'.cell? ⟨br, 2, none⟩ = some (.int .i64 k) ∧ w'.cell? ⟨b, off + k * 2, none⟩ = some (.int .i64 kd) ∧ w'.cell? ⟨b, off + k * 2 + 1, none⟩ = some (.string ⟨tx.toArray⟩)) (go_keep) (fail)
  clear d0W d1W n1 n3
  rename_i hheld
  clear hheld
  have f5 : Fr (fun _ => False) W (W.alloc (.cells #[.int .i64 kd, .string ⟨tx.toArray⟩] 49)).drew := ((Fr.refl _ _).alloc _).drew
  have hnew : (W.alloc (.cells #[.int .i64 kd, .string ⟨tx.toArray⟩] 49)).drew.heap[W.heap.size]? = some (.cells #[.int .i64 kd, .string ⟨tx.toArray⟩] 49 (0, 0)) := heap_alloc_new W _
  generalize (W.alloc (.cells #[.int .i64 kd, .string ⟨tx.toArray⟩] 49)).drew = w5 at *
  obtain ⟨v, hv⟩ : ∃ v, v = W.heap.size := ⟨_, rfl⟩
  rw [← hv] at hnew n0 n2 ⊢
  have H5 : Hid (w5.heap[br]? = some (.cells #[.int .i64 m, .slice (some ⟨b, off, none⟩) L.length cp, .int .i64 k, .int .i64 (idleOf (L.take k)), .string s, .bool false, .int .i64 t, .int .i64 hd, .slice an nn cn, .bool false] 77 (0, 0)) ∧ w5.heap[v]? = some (.cells #[.int .i64 kd, .string ⟨tx.toArray⟩] 49 (0, 0)) ∧ Fr (fun i => i = br) w w5) := ⟨(f5.block br (lt_of HW.out.2) id).trans HW.out.2, hnew, HW.out.1.trans f5 (fun _ _ h => h.elim)⟩
  clear f5 hnew hv c1W c2W HW
  clear W
  have k2 : w5.cell? ⟨br, 2, none⟩ = some (.int .i64 k) := cell_of H5.out.1 rfl
  have z2 : w5.frozen? ⟨br, 2, none⟩ = false := frozen_of H5.out.1 2
  go_wp2_with fail
  obtain ⟨tb, htb⟩ : ∃ tb : ByteArray, tb = ⟨tx.toArray⟩ := ⟨_, rfl⟩
  obtain ⟨s2, hs2⟩ : ∃ s2 : ByteArray, s2 = ⟨(s.data.toList ++ tx).toArray⟩ := ⟨_, rfl⟩
  have hs3 : s2.data.toList = bytesOf (L.take (k + 1)) := by
    rw [hs2, take_snoc HR.out.2.1, bytes_snoc, ← HR.out.1.byt]
  have hadd : ∀ w, (Op.stringOp .add s tb).run Tryz.prog w = .ok (.string s2) w := fun w => add_is3 (by rw [hs2, htb]) (by
    rw [hs3]
    have h1 := take_bytes L (k + 1)
    have h2 := HR.out.1.small
    omega) w
  have HS3 : Hid (s2.data.toList = bytesOf (L.take (k + 1)) ∧ tb.data.toList = tx) := ⟨hs3, by rw [htb]⟩
  have hb6 : (w5.setCell ⟨br, 2, none⟩ (.int .i64 ((k : Int) + 1))).heap[br]? = some (.cells #[.int .i64 m, .slice (some ⟨b, off, none⟩) L.length cp, .int .i64 ((k : Int) + 1), .int .i64 (idleOf (L.take k)), .string s, .bool false, .int .i64 t, .int .i64 hd, .slice an nn cn, .bool false] 77 (0, 0)) := set_of H5.out.1 2 _
  have hn6 : (w5.setCell ⟨br, 2, none⟩ (.int .i64 ((k : Int) + 1))).heap[v]? = some (.cells #[.int .i64 kd, .string tb] 49 (0, 0)) := by rw [set_other n0, htb]; exact H5.out.2.1
  have H6 : Hid ((w5.setCell ⟨br, 2, none⟩ (.int .i64 ((k : Int) + 1))).heap[br]? = some (.cells #[.int .i64 m, .slice (some ⟨b, off, none⟩) L.length cp, .int .i64 ((k : Int) + 1), .int .i64 (idleOf (L.take k)), .string s, .bool false, .int .i64 t, .int .i64 hd, .slice an nn cn, .bool false] 77 (0, 0)) ∧ (w5.setCell ⟨br, 2, none⟩ (.int .i64 ((k : Int) + 1))).heap[v]? = some (.cells #[.int .i64 kd, .string tb] 49 (0, 0)) ∧ Fr (fun i => i = br) w (w5.setCell ⟨br, 2, none⟩ (.int .i64 ((k : Int) + 1)))) := ⟨hb6, hn6, H5.out.2.2.put 2 _⟩
  clear hb6 hn6 H5 k2 z2 hs3 hs2 htb
  generalize w5.setCell ⟨br, 2, none⟩ (.int .i64 ((k : Int) + 1)) = w6 at *
  have k4 : w6.cell? ⟨br, 4, none⟩ = some (.string s) := cell_of H6.out.1 rfl
  have z4 : w6.frozen? ⟨br, 4, none⟩ = false := frozen_of H6.out.1 4
  have k1 : w6.cell? ⟨v, 1, none⟩ = some (.string tb) := cell_of H6.out.2.1 rfl
  have hfc := fault_cases HR.out.2.2
  rw [← take_snoc HR.out.2.1] at hfc
  have hid : idleOf (L.take (k + 1)) = if tx = [] then idleOf (L.take k) + 1 else 0 := by rw [take_snoc HR.out.2.1, idle_snoc]
  obtain ⟨i4, hi4⟩ : ∃ i4, i4 = idleOf (L.take (k + 1)) := ⟨_, rfl⟩
  obtain ⟨i3, hi3⟩ : ∃ i3, i3 = idleOf (L.take k) := ⟨_, rfl⟩
  rw [← hi4] at hfc hid
  rw [← hi3] at hid H6
  have HI4 : Hid (i4 = idleOf (L.take (k + 1)) ∧ k < L.length) := ⟨hi4, by rw [← HN.out]; exact hkN⟩
  have hi3s : i3 ≤ 1048576 := by have h1 := idle_small L k; have h2 := HR.out.1.small; omega
  clear hi4 hi3
  go_region_with (fail)
  all_goals
    have hb7 : (w6.setCell ⟨br, 4, none⟩ (.string s2)).drew.heap[br]? = some (.cells #[.int .i64 m, .slice (some ⟨b, off, none⟩) L.length cp, .int .i64 ((k : Int) + 1), .int .i64 i3, .string s2, .bool false, .int .i64 t, .int .i64 hd, .slice an nn cn, .bool false] 77 (0, 0)) := set_of H6.out.1 4 _
    have hn7 : (w6.setCell ⟨br, 4, none⟩ (.string s2)).drew.heap[v]? = some (.cells #[.int .i64 kd, .string tb] 49 (0, 0)) := (set_other n0 4 _).trans H6.out.2.1
    have H7 : Hid ((w6.setCell ⟨br, 4, none⟩ (.string s2)).drew.heap[br]? = some (.cells #[.int .i64 m, .slice (some ⟨b, off, none⟩) L.length cp, .int .i64 ((k : Int) + 1), .int .i64 i3, .string s2, .bool false, .int .i64 t, .int .i64 hd, .slice an nn cn, .bool false] 77 (0, 0)) ∧ (w6.setCell ⟨br, 4, none⟩ (.string s2)).drew.heap[v]? = some (.cells #[.int .i64 kd, .string tb] 49 (0, 0)) ∧ Fr (fun i => i = br) w (w6.setCell ⟨br, 4, none⟩ (.string s2)).drew) := ⟨hb7, hn7, (H6.out.2.2.put 4 _).drew⟩
    clear hb7 hn7 H6 k4 z4 k1 hadd
    generalize (w6.setCell ⟨br, 4, none⟩ (.string s2)).drew = w7 at *
    have e0 : w7.cell? ⟨v, 0, none⟩ = some (.int .i64 kd) := cell_of H7.out.2.1 rfl
    have e1 : w7.cell? ⟨v, 1, none⟩ = some (.string tb) := cell_of H7.out.2.1 rfl
    have e3 : w7.cell? ⟨br, 3, none⟩ = some (.int .i64 i3) := cell_of H7.out.1 rfl
    have z3 : w7.frozen? ⟨br, 3, none⟩ = false := frozen_of H7.out.1 3
    by_cases ht : tx = []
    · rw [if_pos ht] at hid
      have hem : tb.toList.isEmpty = true := by rw [Lib.toList_data, HS3.out.2, ht]; rfl
      have HO : Hid (RdOn w (w7.setCell ⟨br, 3, none⟩ (.int .i64 ((i3 : Int) + 1))) hi lo br m (some ⟨b, off, none⟩) cp L k t hd an nn cn) := RdOn.mk HR.out.1 HI4.out.2 H7.out.1 H7.out.2.2 HS3.out.1 (by rw [← HI4.out.1, hid]; omega)
      clear H7 ht
      rcases hfc with ⟨q1, q2⟩ | ⟨q1, q0, q2⟩ | ⟨q1, q0, q2⟩ | ⟨q1, q0, q2⟩
      · subst q1
        subst q2
        go_wp2
        go_ret
        exact ⟨rfl, HO.out⟩
      · subst q2
        have y1 : (kd == 1) = false := by rw [beq_eq_false_iff_ne]; exact q1
        have y0 : (kd != 0) = true := by rw [bne_iff_ne]; exact q0
        go_wp2
        go_ret
        exact ⟨rfl, HO.out⟩
      · subst q1
        subst q2
        have y2 : i3 = 63 := by omega
        clear q0 hid
        subst y2
        go_wp2
        go_ret
        exact ⟨rfl, HO.out⟩
      · subst q1
        subst q2
        have y2 : ((i3 : Int) + 1 == 64) = false := by rw [beq_eq_false_iff_ne]; omega
        go_wp2
        go_ret
        exact ⟨rfl, HO.out⟩
    · rw [if_neg ht] at hid
      have hem : tb.toList.isEmpty = false := by
        rw [Lib.toList_data, HS3.out.2]
        cases tx with
        | nil => exact absurd rfl ht
        | cons => rfl
      have HO : Hid (RdOn w (w7.setCell ⟨br, 3, none⟩ (.int .i64 0)) hi lo br m (some ⟨b, off, none⟩) cp L k t hd an nn cn) := RdOn.mk HR.out.1 HI4.out.2 H7.out.1 H7.out.2.2 HS3.out.1 (by rw [← HI4.out.1, hid]; rfl)
      clear H7 ht
      rcases hfc with ⟨q1, q2⟩ | ⟨q1, q0, q2⟩ | ⟨q1, q0, q2⟩ | ⟨q1, q0, q2⟩
      · subst q1
        subst q2
        go_wp2
        go_ret
        exact ⟨rfl, HO.out⟩
      · subst q2
        have y1 : (kd == 1) = false := by rw [beq_eq_false_iff_ne]; exact q1
        have y0 : (kd != 0) = true := by rw [bne_iff_ne]; exact q0
        go_wp2
        go_ret
        exact ⟨rfl, HO.out⟩
      · omega
      · subst q1
        subst q2
        go_wp2
        go_ret
        exact ⟨rfl, HO.out⟩

end Go.Proofs.YtmhaknejeobfgabGreatDoor

/- Ref21. -/
namespace Go.Proofs.YtmhaknejeobfgabGreatDoor
open Go.RowKit Go.Proofs.YtmhaknejeobfgabGreatDoor.Stable Go.Proofs.YtmhaknejeobfgabGreatDoor.Order Go.Proofs.YtmhaknejeobfgabGreatDoor.Points
attribute [local go_sem ↓] Go.wp_at_zero Go.wp_at_succ

/-- What a Fetch leaves. -/
def Ftd (w w' : World) (hi lo br : Nat) (m : Int) (a : Option Addr) (cp : Nat) (L : List Chk) (t : Nat) (F : Ft) : Prop :=
  (∃ made s hd an nn cn, RdR w' hi lo br m a cp L F.k (if F.c = -1 then t else t + 1) F.e made s hd an nn cn ∧ (F.err = 0 → hd = heldAt m L F.k F.e)) ∧ Fr (fun i => i = br) w w'

theorem rel_valid (m : Int) (L : List Chk) (k : Nat) (e : Bool) : ∀ c ∈ relOf m L k e, Valid c := inAt_valid (gone_valid L k e) _

/-- One more was fetched. -/
theorem RdR.took {w w0 : World} {hi lo br : Nat} {m : Int} {a : Option Addr} {cp : Nat} {L : List Chk} {k t : Nat} {e : Bool} {s : ByteArray} {an : Option Addr} {nn cn : Nat} {c : Int} (h : RdR w hi lo br m a cp L k t e true s (heldAt m L k e) an nn cn) (hc : (relOf m L k e)[t]? = some c) (f : Fr (fun i => i = br) w0 w) : Ftd w0 (w.setCell ⟨br, 6, none⟩ (.int .i64 ((t : Int) + 1))) hi lo br m a cp L t ⟨k, e, c, 0⟩ := by
  have f1 : Fr (fun i => i = br) w (w.setCell ⟨br, 6, none⟩ (.int .i64 ((t : Int) + 1))) := (Fr.refl _ _).put 6 _
  have hne : c ≠ -1 := by
    have := valid_range (rel_valid m L k e c (List.mem_of_getElem? hc))
    omega
  have hbl := h.bl
  refine ⟨⟨true, s, heldAt m L k e, an, nn, cn, ⟨?_, h.byt, h.ok, h.ch.kept f1 (fun x hx => by have := h.hb; omega), fun q => ⟨(h.now q).1, (h.now q).2.1, (h.now q).2.2.kept f1 (fun x hx => by have := h.new x hx; omega)⟩, h.new, h.hb, h.bl, h.small, h.h0, h.h3⟩, fun _ => rfl⟩, f.trans f1 (fun _ _ h => h)⟩
  rw [set_of h.blk 6 _, if_neg hne, show ((t + 1 : Nat) : Int) = (t : Int) + 1 by omega]
  rfl

set_option maxRecDepth 100000 in
set_option maxHeartbeats 1600000 in
theorem rfetch_calls {w : World} {hi lo br : Nat} {m : Int} {a : Option Addr} {cp : Nat} {L : List Chk} {k t : Nat} {e made : Bool} {s : ByteArray} {hd : Nat} {an : Option Addr} {nn cn : Nat} {F : Ft} (h : RdR w hi lo br m a cp L k t e made s hd an nn cn) (hlo : lo ≤ w.heap.size) (hF : F = fetchP m L t k e) (ht : t ≤ 1099511627776) :
    Calls Tryz.prog 96 #[.pointer (some ⟨br, 0, none⟩)] w fun x w' => x = .returned (.tuple #[.int .i64 F.c, .int .i64 F.err]) ∧ Ftd w w' hi lo br m a cp L t F := by
  have HR : Hid (RdR w hi lo br m a cp L k t e made s hd an nn cn ∧ F = fetchP m L t k e) := ⟨h, hF⟩
  have hsub : IntKind.i64.wrap ((t : Int) + 1 - 1) = (t : Int) := by
    rw [show (t : Int) + 1 - 1 = (t : Int) by omega]
    exact Go.IntWalk.i64_in _ ⟨by omega, by omega⟩
  obtain ⟨fc, hfc⟩ : ∃ fc, fc = F.c := ⟨_, rfl⟩
  obtain ⟨fe, hfe⟩ : ∃ fe, fe = F.err := ⟨_, rfl⟩
  rw [← hfc, ← hfe]
  have HFC : Hid (fc = F.c ∧ fe = F.err) := ⟨hfc, hfe⟩
  clear h hF hfc hfe
  go_enter Tryz.func96, Tryz.ntmps96
  go_wp2_with (go_at_call 34; refine (rdform_calls HR.out.1 hlo).mono ?_; rintro x w1 ⟨an1, nn1, cn1, rfl, hr1, hf1⟩; have H1 : Hid (RdR w1 hi lo br m a cp L k t e true s (heldAt m L k e) an1 nn1 cn1 ∧ Fr (fun i => i = br) w w1) := ⟨hr1, hf1⟩; clear hr1 hf1)
  go_loopg [4] (stepsOf L k e) (fun g v4 wr => ∃ (k' : Nat) (e' : Bool) (s' : ByteArray) (an' : Option Addr) (nn' cn' : Nat), v4 = .slice an' nn' cn' ∧ g = stepsOf L k' e' ∧ Hid (RdR wr hi lo br m a cp L k' t e' true s' (heldAt m L k' e') an' nn' cn' ∧ F = fetchP m L t k' e' ∧ Fr (fun i => i = br) w wr))
  case atStart => exact ⟨k, e, s, an1, nn1, cn1, rfl, rfl, H1.out.1, HR.out.2, H1.out.2⟩
  case round =>
    obtain ⟨k', e', s', an', nn', cn', rfl, hg, HX⟩ := hrel
    obtain ⟨q1, q2, q3⟩ := HX.out.1.now rfl
    have hlo' : lo ≤ wr.heap.size := by have := HX.out.2.2.size; omega
    have c6 : wr.cell? ⟨br, 6, none⟩ = some (.int .i64 t) := cell_of HX.out.1.blk rfl
    have c5 : wr.cell? ⟨br, 5, none⟩ = some (.bool e') := cell_of HX.out.1.blk rfl
    have g6 : wr.frozen? ⟨br, 6, none⟩ = false := frozen_of HX.out.1.blk 6
    have hnn : nn' ≤ 1099511627776 := by
      rw [q1]
      have h1 := (got_length (kindAt m) e' (goneIn L k' e') (stagesOf m)).1
      have h2 := gone_len L k' e'
      have h3 := HX.out.1.small
      have h4 := pow_small (i := stagesOf m) (n := (goneIn L k' e').length) (stages_range m).2 (by omega)
      unfold relOf
      omega
    by_cases hle : nn' ≤ t
    · have i1 : (nn' : Int) ≤ (t : Int) := by omega
      have hnone : (relOf m L k' e')[t]? = none := List.getElem?_eq_none (by omega)
      cases e' with
      | true =>
        have HD : Hid (F = ⟨k', true, -1, 0⟩) := Hid.mk0 (by rw [HX.out.2.1]; exact fetchP_done hnone)
        obtain rfl : fc = -1 := by rw [HFC.out.1, HD.out]
        obtain rfl : fe = 0 := by rw [HFC.out.2, HD.out]
        clear q1 q2 q3 hnone
        go_wp2
        go_ret2
        refine ⟨rfl, ?_⟩
        rw [HD.out]
        exact ⟨⟨true, s', heldAt m L k' true, an', nn', cn', HX.out.1, fun _ => rfl⟩, HX.out.2.2⟩
      | false =>
        clear q1 q2 q3
        by_cases hk : k' = L.length
        · have HD : Hid (F = fetchP m L t k' true) := Hid.mk0 (by rw [HX.out.2.1]; exact fetchP_end hnone hk)
          have hst : stepsOf L k' true < gk := by rw [hg]; simp [stepsOf]
          clear hnone hg
          go_wp2_with (first
            | (go_at_call 31; refine (rread_end HX.out.1 hk).mono ?_; rintro x w2 ⟨rfl, hr2, hf2⟩; have H2 : Hid (RdR w2 hi lo br m a cp L k' t true false s' (heldAt m L k' false) an' nn' cn' ∧ Fr (fun i => i = br) w w2 ∧ lo ≤ w2.heap.size) := ⟨hr2, HX.out.2.2.trans hf2 (fun _ _ h => h), by have := hf2.size; omega⟩; clear hr2 hf2)
            | (go_at_call 34; refine (rdform_calls H2.out.1 H2.out.2.2).mono ?_; rintro x w3 ⟨an3, nn3, cn3, rfl, hr3, hf3⟩; have H3 : Hid (RdR w3 hi lo br m a cp L k' t true true s' (heldAt m L k' true) an3 nn3 cn3 ∧ Fr (fun i => i = br) w w3) := ⟨hr3, H2.out.2.1.trans hf3 (fun _ _ h => h)⟩; clear hr3 hf3))
          go_roundg (stepsOf L k' true)
          case measure => exact hst
          case rel => exact ⟨k', true, s', an3, nn3, cn3, rfl, rfl, H3.out.1, HD.out, H3.out.2⟩
        · have hkl : k' < L.length := by have := HX.out.1.ok.1; omega
          obtain ⟨er, her⟩ : ∃ er, er = faultAt L k' := ⟨_, rfl⟩
          by_cases hf : faultAt L k' = 0
          · have HD : Hid (F = fetchP m L t (k' + 1) false) := Hid.mk0 (by rw [HX.out.2.1]; exact fetchP_read hnone hkl hf)
            have hst : stepsOf L (k' + 1) false < gk := by rw [hg]; simp [stepsOf]; omega
            have HF0 : Hid (faultAt L k' = 0) := hf
            clear hnone hg hf her
            go_wp2_with (first
              | (go_at_call 31; refine (rread_calls HX.out.1 hkl hlo').mono ?_; rw [HF0.out]; rintro x w2 ⟨rfl, ⟨s2, hr2⟩, hf2⟩; have H2 : Hid (RdR w2 hi lo br m a cp L (k' + 1) t false false s2 (heldAt m L k' false) an' nn' cn' ∧ Fr (fun i => i = br) w w2 ∧ lo ≤ w2.heap.size) := ⟨hr2, HX.out.2.2.trans hf2 (fun _ _ h => h), by have := hf2.size; omega⟩; clear hr2 hf2)
              | (go_at_call 34; refine (rdform_calls H2.out.1 H2.out.2.2).mono ?_; rintro x w3 ⟨an3, nn3, cn3, rfl, hr3, hf3⟩; have H3 : Hid (RdR w3 hi lo br m a cp L (k' + 1) t false true s2 (heldAt m L (k' + 1) false) an3 nn3 cn3 ∧ Fr (fun i => i = br) w w3) := ⟨hr3, H2.out.2.1.trans hf3 (fun _ _ h => h)⟩; clear hr3 hf3))
            go_roundg (stepsOf L (k' + 1) false)
            case measure => exact hst
            case rel => exact ⟨k' + 1, false, s2, an3, nn3, cn3, rfl, rfl, H3.out.1, HD.out, H3.out.2⟩
          · have HD : Hid (F = ⟨k' + 1, false, -1, er⟩) := Hid.mk0 (by rw [HX.out.2.1, her]; exact fetchP_fault hnone hkl hf)
            obtain rfl : fc = -1 := by rw [HFC.out.1, HD.out]
            obtain rfl : fe = er := by rw [HFC.out.2, HD.out]
            have hne : (fe != 0) = true := by rw [bne_iff_ne, her]; exact hf
            have HER : Hid (fe = faultAt L k') := her
            clear hnone hg hf her
            go_wp2_with (go_at_call 31; refine (rread_calls HX.out.1 hkl hlo').mono ?_; rw [← HER.out]; rintro x w2 ⟨rfl, ⟨s2, hr2⟩, hf2⟩; have H2 : Hid (RdR w2 hi lo br m a cp L (k' + 1) t false false s2 (heldAt m L k' false) an' nn' cn' ∧ Fr (fun i => i = br) w w2) := ⟨hr2, HX.out.2.2.trans hf2 (fun _ _ h => h)⟩; clear hr2 hf2)
            go_ret2
            refine ⟨rfl, ?_⟩
            rw [HD.out]
            refine ⟨⟨false, s2, _, an', nn', cn', H2.out.1, fun q => ?_⟩, H2.out.2⟩
            have q' : fe = 0 := q
            rw [q'] at hne
            cases hne
    · have i1 : ¬ (nn' : Int) ≤ (t : Int) := by omega
      obtain ⟨c, hc⟩ : ∃ c, (relOf m L k' e')[t]? = some c := ⟨_, List.getElem?_eq_getElem (by omega)⟩
      have HD : Hid (F = ⟨k', e', c, 0⟩) := Hid.mk0 (by rw [HX.out.2.1]; exact fetchP_there hc)
      obtain ⟨b, off, rfl, hcx⟩ := q3 t c hc
      have hbn : b ≠ br := by have h1 := HX.out.1.new _ rfl; have h2 := HX.out.1.bl; dsimp only at h1; omega
      have hbn2 := Ne.symm hbn
      obtain rfl : fc = c := by rw [HFC.out.1, HD.out]
      obtain rfl : fe = 0 := by rw [HFC.out.2, HD.out]
      have HT : Hid (Ftd w (wr.setCell ⟨br, 6, none⟩ (.int .i64 ((t : Int) + 1))) hi lo br m a cp L t F) := Hid.mk0 (by rw [HD.out]; exact HX.out.1.took hc HX.out.2.2)
      have i0 : (0 : Int) ≤ (t : Int) := by omega
      have i2 : (t : Int) < (nn' : Int) := by omega
      clear q1 q2 q3 hc hle
      go_wp2
      go_ret2
      exact ⟨rfl, HT.out⟩

end Go.Proofs.YtmhaknejeobfgabGreatDoor

/- Ref22. -/
namespace Go.Proofs.YtmhaknejeobfgabGreatDoor
open Go.RowKit Go.Proofs.YtmhaknejeobfgabGreatDoor.Stable Go.Proofs.YtmhaknejeobfgabGreatDoor.Order Go.Proofs.YtmhaknejeobfgabGreatDoor.Points
attribute [local go_sem ↓] Go.wp_at_zero Go.wp_at_succ

/-- An outcome, in memory. -/
def outR (s : Int) (ra rb ha hb : Nat) : Obj := .cells #[.int .i64 s, .int .i64 ra, .int .i64 rb, .int .i64 ha, .int .i64 hb] 38

theorem rs_run {tmps : Array Value} {w2 : World} {pr : Nat} {s : Int} {ra rb ha hb : Nat} {er : Int} (hp : tmps.getD 6 undef = .pointer (some ⟨pr, 0, none⟩)) (hu : tmps.getD 7 undef = .int .i64 er) (h : w2.heap[pr]? = some (outR s ra rb ha hb)) :
    (results Tryz.f72 tmps).run Tryz.prog w2 = .ok (.tuple #[.agg #[.int .i64 s, .int .i64 ra, .int .i64 rb, .int .i64 ha, .int .i64 hb], .int .i64 er]) w2 := by
  have r0 : w2.cell? ⟨pr, 0, none⟩ = some (.int .i64 s) := cell_of h rfl
  have r1 : w2.cell? ⟨pr, 1, none⟩ = some (.int .i64 ra) := cell_of h rfl
  have r2 : w2.cell? ⟨pr, 2, none⟩ = some (.int .i64 rb) := cell_of h rfl
  have r3 : w2.cell? ⟨pr, 3, none⟩ = some (.int .i64 ha) := cell_of h rfl
  have r4 : w2.cell? ⟨pr, 4, none⟩ = some (.int .i64 hb) := cell_of h rfl
  rw [results_cell_tmp Tryz.results72, hp, hu]
  simp [go_sem, r0, r1, r2, r3, r4]

theorem out_set {W : World} {pr : Nat} (h : W.heap[pr]? = some (outR 0 0 0 0 0)) (s : Int) (ra rb ha hb : Nat) : (((((W.setCell ⟨pr, 0, none⟩ (.int .i64 s)).setCell ⟨pr, 1, none⟩ (.int .i64 ra)).setCell ⟨pr, 2, none⟩ (.int .i64 rb)).setCell ⟨pr, 3, none⟩ (.int .i64 ha)).setCell ⟨pr, 4, none⟩ (.int .i64 hb)).heap[pr]? = some (outR s ra rb ha hb) := set_of (set_of (set_of (set_of (set_of h 0 _) 1 _) 2 _) 3 _) 4 _

theorem out_set0 {W : World} {pr : Nat} (h : W.heap[pr]? = some (outR 0 0 0 0 0)) (ra rb : Nat) : (((((W.setCell ⟨pr, 0, none⟩ (.int .i64 0)).setCell ⟨pr, 1, none⟩ (.int .i64 ra)).setCell ⟨pr, 2, none⟩ (.int .i64 rb)).setCell ⟨pr, 3, none⟩ (.int .i64 0)).setCell ⟨pr, 4, none⟩ (.int .i64 0)).heap[pr]? = some (outR 0 ra rb 0 0) := out_set h 0 ra rb 0 0

theorem out_fr (W : World) (pr : Nat) (v0 v1 v2 v3 v4 : Value) : Fr (fun i => i = pr) W (((((W.setCell ⟨pr, 0, none⟩ v0).setCell ⟨pr, 1, none⟩ v1).setCell ⟨pr, 2, none⟩ v2).setCell ⟨pr, 3, none⟩ v3).setCell ⟨pr, 4, none⟩ v4) :=
  (((((Fr.refl (fun i => i = pr) W).put 0 v0).put 1 v1).put 2 v2).put 3 v3).put 4 v4

theorem fetch_c {m : Int} {L : List Chk} {t k : Nat} {e : Bool} (h : OkAt L k e) : 0 ≤ (fetchP m L t k e).c ∨ (fetchP m L t k e).c = -1 := by
  have hf := fetch_is (m := m) (L := L) (t := t) _ k e rfl h
  rcases hf.give with ⟨_, _, _, _, _, h1⟩ | ⟨_, h1, _⟩
  · rcases h1 with h1 | ⟨_, _, h1⟩
    · exact .inl (valid_range (rel_valid m L _ _ _ (List.mem_of_getElem? h1))).1
    · exact .inr h1
  · exact .inr h1

/-- Two readers side by side. -/
structure Two (w wr : World) (pr px py : Nat) (m : Int) (a1 a2 : Option Addr) (c1 c2 : Nat) (A B : List Chk) (ka : Nat) (ea : Bool) (ta kb : Nat) (eb : Bool) (tb : Nat) (ga gb : Nat) : Prop where
  ps : pr = w.heap.size ∧ px = w.heap.size + 1 ∧ py = w.heap.size + 2
  x : ∃ made s an nn cn, RdR wr w.heap.size (w.heap.size + 3) px m a1 c1 A ka ta ea made s ga an nn cn
  y : ∃ made s an nn cn, RdR wr w.heap.size (w.heap.size + 3) py m a2 c2 B kb tb eb made s gb an nn cn
  res : wr.heap[pr]? = some (outR 0 0 0 0 0)
  fr : Fr (fun _ => False) w wr
  lo : w.heap.size + 3 ≤ wr.heap.size

theorem Two.nextA {w wr w' : World} {pr px py : Nat} {m : Int} {a1 a2 : Option Addr} {c1 c2 : Nat} {A B : List Chk} {ka : Nat} {ea : Bool} {t kb : Nat} {eb : Bool} {tb ga gb : Nat} {F : Ft} (h : Two w wr pr px py m a1 a2 c1 c2 A B ka ea t kb eb tb ga gb) (hf : Ftd wr w' w.heap.size (w.heap.size + 3) px m a1 c1 A t F) : ∃ ga', Two w w' pr px py m a1 a2 c1 c2 A B F.k F.e (if F.c = -1 then t else t + 1) kb eb tb ga' gb ∧ (F.err = 0 → ga' = heldAt m A F.k F.e) := by
  obtain ⟨⟨made, s, hd, an, nn, cn, h1, h2⟩, f⟩ := hf
  obtain ⟨made', s', an', nn', cn', h3⟩ := h.y
  obtain ⟨p1, p2, p3⟩ := h.ps
  refine ⟨hd, ⟨h.ps, ⟨made, s, an, nn, cn, h1⟩, ⟨made', s', an', nn', cn', h3.kept f (fun x hx => by omega) (fun x hx => by omega) (by omega)⟩, (f.block _ (lt_of h.res) (by omega)).trans h.res, h.fr.trans f (fun i hi h => by omega), by have := f.size; have := h.lo; omega⟩, h2⟩

theorem Two.nextB {w wr w' : World} {pr px py : Nat} {m : Int} {a1 a2 : Option Addr} {c1 c2 : Nat} {A B : List Chk} {ka : Nat} {ea : Bool} {ta t kb : Nat} {eb : Bool} {ga gb : Nat} {F : Ft} (h : Two w wr pr px py m a1 a2 c1 c2 A B ka ea ta kb eb t ga gb) (hf : Ftd wr w' w.heap.size (w.heap.size + 3) py m a2 c2 B t F) : ∃ gb', Two w w' pr px py m a1 a2 c1 c2 A B ka ea ta F.k F.e (if F.c = -1 then t else t + 1) ga gb' ∧ (F.err = 0 → gb' = heldAt m B F.k F.e) := by
  obtain ⟨⟨made, s, hd, an, nn, cn, h1, h2⟩, f⟩ := hf
  obtain ⟨made', s', an', nn', cn', h3⟩ := h.x
  obtain ⟨p1, p2, p3⟩ := h.ps
  refine ⟨hd, ⟨h.ps, ⟨made', s', an', nn', cn', h3.kept f (fun x hx => by omega) (fun x hx => by omega) (by omega)⟩, ⟨made, s, an, nn, cn, h1⟩, (f.block _ (lt_of h.res) (by omega)).trans h.res, h.fr.trans f (fun i hi h => by omega), by have := f.size; have := h.lo; omega⟩, h2⟩

/-- What the two hold. -/
theorem Two.cells {w wr : World} {pr px py : Nat} {m : Int} {a1 a2 : Option Addr} {c1 c2 : Nat} {A B : List Chk} {ka : Nat} {ea : Bool} {ta kb : Nat} {eb : Bool} {tb : Nat} {ga gb : Nat} (h : Two w wr pr px py m a1 a2 c1 c2 A B ka ea ta kb eb tb ga gb) : wr.cell? ⟨px, 2, none⟩ = some (.int .i64 ka) ∧ wr.cell? ⟨py, 2, none⟩ = some (.int .i64 kb) ∧ wr.cell? ⟨px, 7, none⟩ = some (.int .i64 ga) ∧ wr.cell? ⟨py, 7, none⟩ = some (.int .i64 gb) ∧ OkAt A ka ea ∧ OkAt B kb eb := by
  obtain ⟨made, s, an, nn, cn, h1⟩ := h.x
  obtain ⟨made', s', an', nn', cn', h3⟩ := h.y
  exact ⟨cell_of h1.blk rfl, cell_of h3.blk rfl, cell_of h1.blk rfl, cell_of h3.blk rfl, h1.ok, h3.ok⟩

theorem rd_new {w : World} {hi lo : Nat} {m : Int} {a : Option Addr} {cp : Nat} {L : List Chk} (h : ChunksIn w hi a L) (h0 : 0 ≤ m) (h3 : m ≤ 3) (hs : (bytesOf L).length + L.length ≤ 1048576) (hh : hi ≤ w.heap.size) (hl : w.heap.size < lo) : RdR (w.alloc (.cells #[.int .i64 m, .slice a L.length cp, .int .i64 0, .int .i64 0, .string ⟨#[]⟩, .bool false, .int .i64 0, .int .i64 0, .slice none 0 0, .bool false] 77)) hi lo w.heap.size m a cp L 0 0 false false ⟨#[]⟩ 0 none 0 0 :=
  ⟨heap_alloc_new w _, rfl, ⟨Nat.zero_le _, fun q => (by cases q)⟩, h.kept ((Fr.refl (fun _ => False) w).alloc _) (fun _ _ => id), fun q => (by cases q), fun x hx => (by cases hx), hh, hl, hs, h0, h3⟩

set_option maxRecDepth 100000 in
theorem rstream_none (m : Int) (a1 a2 : Option Addr) (n1 c1 n2 c2 : Nat) (w : World) (h : m < 0 ∨ 3 < m) :
    Calls Tryz.prog 72 #[.int .i64 m, .slice a1 n1 c1, .slice a2 n2 c2] w fun e w' => e = .returned (.tuple #[.agg #[.int .i64 0, .int .i64 0, .int .i64 0, .int .i64 0, .int .i64 0], .int .i64 1]) ∧ Fr (fun _ => False) w w' := by
  have HM : Hid (m < 0 ∨ 3 < m) := h
  clear h
  go_enter Tryz.func72, Tryz.ntmps72
  go_wp2_with (go_at_call 30; refine (isMode_no m _ HM.out).mono ?_; rintro e w' ⟨rfl, hw⟩; have hw' := hw.symm; subst hw'; clear hw)
  try simp only [Exit.inBlock, Exit.then]
  refine bodyPost_ret (v := .tuple #[.agg #[.int .i64 0, .int .i64 0, .int .i64 0, .int .i64 0, .int .i64 0], .int .i64 1]) ?_ rfl ⟨rfl, (Fr.refl _ _).alloc _⟩
  simp [results, Tryz.results72, go_sem]

/-- Where it begins. -/
theorem Two.start {w : World} {m : Int} {a1 a2 : Option Addr} {c1 c2 : Nat} {A B : List Chk} (h0 : 0 ≤ m) (h3 : m ≤ 3) (hA : ChunksIn w w.heap.size a1 A) (hB : ChunksIn w w.heap.size a2 B) (bA : (bytesOf A).length + A.length ≤ 1048576) (bB : (bytesOf B).length + B.length ≤ 1048576) : Two w (((w.alloc (outR 0 0 0 0 0)).alloc (.cells #[.int .i64 m, .slice a1 A.length c1, .int .i64 0, .int .i64 0, .string ⟨#[]⟩, .bool false, .int .i64 0, .int .i64 0, .slice none 0 0, .bool false] 77)).alloc (.cells #[.int .i64 m, .slice a2 B.length c2, .int .i64 0, .int .i64 0, .string ⟨#[]⟩, .bool false, .int .i64 0, .int .i64 0, .slice none 0 0, .bool false] 77)) w.heap.size (w.heap.size + 1) (w.heap.size + 1 + 1) m a1 a2 c1 c2 A B 0 false 0 0 false 0 0 0 := by
  obtain ⟨w1, hw1⟩ : ∃ w1, w1 = w.alloc (outR 0 0 0 0 0) := ⟨_, rfl⟩
  rw [← hw1]
  have f1 : Fr (fun _ => False) w w1 := by rw [hw1]; exact (Fr.refl _ _).alloc _
  have s1 : w1.heap.size = w.heap.size + 1 := by rw [hw1]; simp
  have r1 : w1.heap[w.heap.size]? = some (outR 0 0 0 0 0) := by rw [hw1]; exact heap_alloc_new w _
  have x1 := rd_new (w := w1) (hi := w.heap.size) (lo := w.heap.size + 3) (cp := c1) (hA.kept f1 (fun _ _ => id)) h0 h3 bA (by omega) (by omega)
  rw [s1] at x1
  obtain ⟨w2, hw2⟩ : ∃ w2, w2 = w1.alloc (.cells #[.int .i64 m, .slice a1 A.length c1, .int .i64 0, .int .i64 0, .string ⟨#[]⟩, .bool false, .int .i64 0, .int .i64 0, .slice none 0 0, .bool false] 77) := ⟨_, rfl⟩
  rw [← hw2] at x1 ⊢
  have f2 : Fr (fun _ => False) w1 w2 := by rw [hw2]; exact (Fr.refl _ _).alloc _
  have s2 : w2.heap.size = w.heap.size + 1 + 1 := by rw [hw2]; simp [s1]
  have x2 := rd_new (w := w2) (hi := w.heap.size) (lo := w.heap.size + 3) (cp := c2) ((hB.kept f1 (fun _ _ => id)).kept f2 (fun _ _ => id)) h0 h3 bB (by omega) (by omega)
  rw [s2] at x2
  obtain ⟨w3, hw3⟩ : ∃ w3, w3 = w2.alloc (.cells #[.int .i64 m, .slice a2 B.length c2, .int .i64 0, .int .i64 0, .string ⟨#[]⟩, .bool false, .int .i64 0, .int .i64 0, .slice none 0 0, .bool false] 77) := ⟨_, rfl⟩
  rw [← hw3] at x2 ⊢
  have f3 : Fr (fun _ => False) w2 w3 := by rw [hw3]; exact (Fr.refl _ _).alloc _
  have s3 : w3.heap.size = w.heap.size + 1 + 1 + 1 := by rw [hw3]; simp [s2]
  exact ⟨⟨rfl, rfl, rfl⟩, ⟨_, _, _, _, _, x1.kept f3 (fun _ _ => id) (fun _ _ => id) id⟩, ⟨_, _, _, _, _, x2⟩, (f3.block _ (by omega) id).trans ((f2.block _ (by omega) id).trans r1), (f1.trans f2 (fun _ _ h => h)).trans f3 (fun _ _ h => h), by omega⟩

set_option maxRecDepth 100000 in
set_option maxHeartbeats 6400000 in
theorem rstream_calls (m : Int) (a1 a2 : Option Addr) (c1 c2 : Nat) (A B : List Chk) (w : World) (h0 : 0 ≤ m) (h3 : m ≤ 3) (hA : ChunksIn w w.heap.size a1 A) (hB : ChunksIn w w.heap.size a2 B) (bA : (bytesOf A).length + A.length ≤ 1048576) (bB : (bytesOf B).length + B.length ≤ 1048576) :
    Calls Tryz.prog 72 #[.int .i64 m, .slice a1 A.length c1, .slice a2 B.length c2] w fun e w' => e = .returned (.tuple #[.agg #[.int .i64 (strm m A B).sign, .int .i64 (strm m A B).ra, .int .i64 (strm m A B).rb, .int .i64 (strm m A B).ha, .int .i64 (strm m A B).hb], .int .i64 (strm m A B).err]) ∧ Fr (fun _ => False) w w' := by
  have hfl : (fullOf m A).length ≤ 216 * (bytesOf A).length := by
    rw [full_form h0 h3]
    exact form_length h0 h3 _
  have HRN : Hid (Runs m A B 0 false 0 false 0 (strm m A B) ∧ (fullOf m A).length ≤ 1099511627776) := ⟨strm_runs hfl, by omega⟩
  obtain ⟨G, hG⟩ : ∃ G, G = strm m A B := ⟨_, rfl⟩
  rw [← hG] at HRN ⊢
  obtain ⟨n1, hn1⟩ : ∃ n1, n1 = A.length := ⟨_, rfl⟩
  obtain ⟨n2, hn2⟩ : ∃ n2, n2 = B.length := ⟨_, rfl⟩
  rw [← hn1, ← hn2]
  have HM : Hid (0 ≤ m ∧ m ≤ 3 ∧ n1 = A.length ∧ n2 = B.length) := ⟨h0, h3, hn1, hn2⟩
  have HA : Hid (ChunksIn w w.heap.size a1 A ∧ (bytesOf A).length + A.length ≤ 1048576) := ⟨hA, bA⟩
  have HB : Hid (ChunksIn w w.heap.size a2 B ∧ (bytesOf B).length + B.length ≤ 1048576) := ⟨hB, bB⟩
  clear hG h0 h3 hA hB bA bB hfl hn1 hn2
  go_enter Tryz.func72, Tryz.ntmps72
  go_wp2_with (go_at_call 30; refine (isMode_yes m _ HM.out.1 HM.out.2.1).mono ?_; rintro e w' ⟨rfl, hw⟩; have hw' := hw.symm; subst hw'; clear hw)
  have HT : Hid (Two w (((w.alloc (outR 0 0 0 0 0)).alloc (.cells #[.int .i64 m, .slice a1 n1 c1, .int .i64 0, .int .i64 0, .string ⟨#[]⟩, .bool false, .int .i64 0, .int .i64 0, .slice none 0 0, .bool false] 77)).alloc (.cells #[.int .i64 m, .slice a2 n2 c2, .int .i64 0, .int .i64 0, .string ⟨#[]⟩, .bool false, .int .i64 0, .int .i64 0, .slice none 0 0, .bool false] 77)) w.heap.size (w.heap.size + 1) (w.heap.size + 1 + 1) m a1 a2 c1 c2 A B 0 false 0 0 false 0 0 0) := Hid.mk0 (by rw [HM.out.2.2.1, HM.out.2.2.2]; exact Two.start HM.out.1 HM.out.2.1 HA.out.1 HB.out.1 HA.out.2 HB.out.2)
  obtain ⟨py, hpy⟩ : ∃ p, p = w.heap.size + 1 + 1 := ⟨_, rfl⟩
  rw [← hpy] at HT ⊢
  obtain ⟨px, hpx⟩ : ∃ p, p = w.heap.size + 1 := ⟨_, rfl⟩
  rw [← hpx] at HT ⊢
  obtain ⟨pr, hpr⟩ : ∃ p, p = w.heap.size := ⟨_, rfl⟩
  rw [← hpr] at HT ⊢
  have y1 : pr ≠ px := by omega
  have y2 : px ≠ pr := by omega
  have y3 : pr ≠ py := by omega
  have y4 : py ≠ pr := by omega
  have y5 : px ≠ py := by omega
  have y6 : py ≠ px := by omega
  clear hpy hpx hpr
  go_loopg [11] ((fullOf m A).length + 1) (fun g _ wr => ∃ (ka : Nat) (ea : Bool) (kb : Nat) (eb : Bool) (t ga gb : Nat), g = (fullOf m A).length + 1 - t ∧ Hid (Two w wr pr px py m a1 a2 c1 c2 A B ka ea t kb eb t ga gb ∧ Runs m A B ka ea kb eb t G ∧ t ≤ (fullOf m A).length))
  case atStart => exact ⟨0, false, 0, false, 0, 0, 0, rfl, HT.out, HRN.out.1, Nat.zero_le _⟩
  case round =>
    obtain ⟨ka, ea, kb, eb, t, ga, gb, hg, HX⟩ := hrel
    obtain ⟨FA, hFA⟩ : ∃ FA, FA = fetchP m A t ka ea := ⟨_, rfl⟩
    obtain ⟨FB, hFB⟩ : ∃ FB, FB = fetchP m B t kb eb := ⟨_, rfl⟩
    have htt : t ≤ 1099511627776 := by have h1 := HX.out.2.2; have h2 := HRN.out.2; omega
    have HF : Hid (FA = fetchP m A t ka ea ∧ FB = fetchP m B t kb eb) := ⟨hFA, hFB⟩
    obtain ⟨ca, hca⟩ : ∃ x, x = FA.c := ⟨_, rfl⟩
    obtain ⟨xa, hxa⟩ : ∃ x, x = FA.err := ⟨_, rfl⟩
    obtain ⟨cb, hcb⟩ : ∃ x, x = FB.c := ⟨_, rfl⟩
    obtain ⟨xb, hxb⟩ : ∃ x, x = FB.err := ⟨_, rfl⟩
    have HC : Hid (ca = FA.c ∧ xa = FA.err ∧ cb = FB.c ∧ xb = FB.err) := ⟨hca, hxa, hcb, hxb⟩
    clear hFA hFB hca hxa hcb hxb
    by_cases hea : xa = 0
    · subst hea
      have HPA : Hid (FA.err = 0) := Hid.mk0 HC.out.2.1.symm
      by_cases heb : xb = 0
      · subst heb
        have HPB : Hid (FB.err = 0) := Hid.mk0 HC.out.2.2.2.symm
        by_cases hcc : ca = cb ∧ 0 ≤ ca
        · obtain ⟨rfl, hc0⟩ := hcc
          have HGO : Hid (Runs m A B FA.k FA.e FB.k FB.e (t + 1) G ∧ t + 1 ≤ (fullOf m A).length ∧ FA.c ≠ -1 ∧ FB.c ≠ -1) := Hid.mk0 (by
            have e1 : FA.c ≠ -1 := by rw [← HC.out.1]; omega
            have e2 : FB.c ≠ -1 := by rw [← HC.out.2.2.1]; omega
            have hgo : goesOn m A B ka ea kb eb t := ⟨by rw [← HF.out.1]; exact HPA.out, by rw [← HF.out.2]; exact HPB.out, by rw [← HF.out.1, ← HF.out.2, ← HC.out.1, ← HC.out.2.2.1], by rw [← HF.out.1]; exact e1⟩
            obtain ⟨-, -, -, -, o1, -⟩ := HX.out.1.cells
            have hlt := fetch_lt (t := t) o1 (by rw [← HF.out.1]; exact HPA.out) (by rw [← HF.out.1]; exact e1)
            rcases HX.out.2.1.inv with ⟨_, h2⟩ | ⟨h1, _⟩
            · rw [← HF.out.1, ← HF.out.2] at h2
              exact ⟨h2, hlt, e1, e2⟩
            · exact absurd hgo h1)
          have hmeas : (fullOf m A).length + 1 - (t + 1) < gk := by have := HGO.out.2.1; omega
          clear hg
          go_wp2_with (first
            | (go_at_call_of 96 (Value.pointer (some ⟨px, 0, none⟩)); obtain ⟨made1, s1, an1, nn1, cn1, hx1⟩ := HX.out.1.x; refine (rfetch_calls (F := FA) hx1 HX.out.1.lo HF.out.1 htt).mono ?_; rw [← HC.out.1, ← HC.out.2.1]; rintro x w1 ⟨rfl, hf1⟩; have H1 : Hid (∃ ga', Two w w1 pr px py m a1 a2 c1 c2 A B FA.k FA.e (if FA.c = -1 then t else t + 1) kb eb t ga' gb ∧ (FA.err = 0 → ga' = heldAt m A FA.k FA.e)) := HX.out.1.nextA hf1; clear hf1 hx1; obtain ⟨ga', hT1, hga1⟩ := H1.out; have HT1 : Hid (Two w w1 pr px py m a1 a2 c1 c2 A B FA.k FA.e (if FA.c = -1 then t else t + 1) kb eb t ga' gb ∧ (FA.err = 0 → ga' = heldAt m A FA.k FA.e)) := ⟨hT1, hga1⟩; clear hT1 hga1 H1)
            | (go_at_call_of 96 (Value.pointer (some ⟨py, 0, none⟩)); obtain ⟨made2, s2, an2, nn2, cn2, hx2⟩ := HT1.out.1.y; refine (rfetch_calls (F := FB) hx2 HT1.out.1.lo HF.out.2 htt).mono ?_; rw [← HC.out.2.2.1, ← HC.out.2.2.2]; rintro x w2 ⟨rfl, hf2⟩; have H2 : Hid (∃ gb', Two w w2 pr px py m a1 a2 c1 c2 A B FA.k FA.e (if FA.c = -1 then t else t + 1) FB.k FB.e (if FB.c = -1 then t else t + 1) ga' gb' ∧ (FB.err = 0 → gb' = heldAt m B FB.k FB.e)) := HT1.out.1.nextB hf2; clear hf2 hx2))
          go_roundg ((fullOf m A).length + 1 - (t + 1))
          case measure => exact hmeas
          case rel =>
            obtain ⟨gb', hT2, -⟩ := H2.out
            rw [if_neg HGO.out.2.2.1, if_neg HGO.out.2.2.2] at hT2
            exact ⟨FA.k, FA.e, FB.k, FB.e, t + 1, ga', gb', rfl, hT2, HGO.out.1, HGO.out.2.1⟩
        · have HG : Hid (G = ⟨signOf ca cb, FA.k, FB.k, heldAt m A FA.k FA.e, heldAt m B FB.k FB.e, 0⟩) := Hid.mk0 (by
            have hno : ¬ goesOn m A B ka ea kb eb t := fun q => by
              obtain ⟨_, _, q3, q4⟩ := q
              rw [← HF.out.1, ← HF.out.2, ← HC.out.1, ← HC.out.2.2.1] at q3
              rw [← HF.out.1, ← HC.out.1] at q4
              refine hcc ⟨q3, ?_⟩
              obtain ⟨-, -, -, -, o1, -⟩ := HX.out.1.cells
              rcases fetch_c (m := m) (t := t) o1 with h | h
              · rw [← HF.out.1, ← HC.out.1] at h
                exact h
              · rw [← HF.out.1, ← HC.out.1] at h
                exact absurd h q4
            rcases HX.out.2.1.inv with ⟨h1, _⟩ | ⟨_, h2⟩
            · exact absurd h1 hno
            · rw [h2, last_calm (by rw [← HF.out.1]; exact HPA.out) (by rw [← HF.out.2]; exact HPB.out), ← HF.out.1, ← HF.out.2, ← HC.out.1, ← HC.out.2.2.1])
          by_cases h1 : ca = cb
          · have h2 : ¬ 0 ≤ ca := fun h => hcc ⟨h1, h⟩
            have h3 : ¬ ca < ca := by omega
            subst h1
            clear hcc
            go_wp2_with (first
              | (go_at_call_of 96 (Value.pointer (some ⟨px, 0, none⟩)); obtain ⟨made1, s1, an1, nn1, cn1, hx1⟩ := HX.out.1.x; refine (rfetch_calls (F := FA) hx1 HX.out.1.lo HF.out.1 htt).mono ?_; rw [← HC.out.1, ← HC.out.2.1]; rintro x w1 ⟨rfl, hf1⟩; have H1 : Hid (∃ ga', Two w w1 pr px py m a1 a2 c1 c2 A B FA.k FA.e (if FA.c = -1 then t else t + 1) kb eb t ga' gb ∧ (FA.err = 0 → ga' = heldAt m A FA.k FA.e)) := HX.out.1.nextA hf1; clear hf1 hx1; obtain ⟨ga', hT1, hga1⟩ := H1.out; have HT1 : Hid (Two w w1 pr px py m a1 a2 c1 c2 A B FA.k FA.e (if FA.c = -1 then t else t + 1) kb eb t ga' gb ∧ (FA.err = 0 → ga' = heldAt m A FA.k FA.e)) := ⟨hT1, hga1⟩; clear hT1 hga1 H1)
              | (go_at_call_of 96 (Value.pointer (some ⟨py, 0, none⟩)); obtain ⟨made2, s2, an2, nn2, cn2, hx2⟩ := HT1.out.1.y; refine (rfetch_calls (F := FB) hx2 HT1.out.1.lo HF.out.2 htt).mono ?_; rw [← HC.out.2.2.1, ← HC.out.2.2.2]; rintro x w2 ⟨rfl, hf2⟩; have H2 : Hid (∃ gb', Two w w2 pr px py m a1 a2 c1 c2 A B FA.k FA.e (if FA.c = -1 then t else t + 1) FB.k FB.e (if FB.c = -1 then t else t + 1) ga' gb' ∧ (FB.err = 0 → gb' = heldAt m B FB.k FB.e)) := HT1.out.1.nextB hf2; clear hf2 hx2))
            obtain ⟨gb', hT2, hgb1⟩ := H2.out
            obtain ⟨k1, k2, k3, k4, -⟩ := hT2.cells
            have HT2 : Hid (Fr (fun _ => False) w w2 ∧ w2.heap[pr]? = some (outR 0 0 0 0 0) ∧ (FA.err = 0 → ga' = heldAt m A FA.k FA.e) ∧ (FB.err = 0 → gb' = heldAt m B FB.k FB.e)) := ⟨hT2.fr, hT2.res, HT1.out.2, hgb1⟩
            obtain ⟨kA, hkA⟩ : ∃ k, k = FA.k := ⟨_, rfl⟩
            obtain ⟨kB, hkB⟩ : ∃ k, k = FB.k := ⟨_, rfl⟩
            rw [← hkA] at k1
            rw [← hkB] at k2
            have HKA : Hid (kA = FA.k ∧ kB = FB.k) := ⟨hkA, hkB⟩
            clear hT2 hgb1 H2 hkA hkB
            have n1 : w2.heap.size ≠ px := World.new_ne w2 ⟨px, 2, none⟩ k1
            have n2 : w2.heap.size ≠ py := World.new_ne w2 ⟨py, 2, none⟩ k2
            have n3 := Ne.symm n1
            have n4 := Ne.symm n2
            go_region_held3 (fun w' => w'.cell? ⟨px, 2, none⟩ = some (.int .i64 kA) ∧ w'.cell? ⟨py, 2, none⟩ = some (.int .i64 kB) ∧ w'.cell? ⟨px, 7, none⟩ = some (.int .i64 ga') ∧ w'.cell? ⟨py, 7, none⟩ = some (.int .i64 gb')) (go_keep) (fail)
            rename_i hheld
            clear hheld n1 n2 n3 n4 k1 k2 k3 k4
            have f3 : Fr (fun _ => False) w2 (w2.alloc (.cells #[.int .i64 0, .int .i64 kA, .int .i64 kB, .int .i64 ga', .int .i64 gb'] 38)).drew := ((Fr.refl _ _).alloc _).drew
            have hbo : (w2.alloc (.cells #[.int .i64 0, .int .i64 kA, .int .i64 kB, .int .i64 ga', .int .i64 gb'] 38)).drew.heap[w2.heap.size]? = some (outR 0 kA kB ga' gb') := heap_alloc_new w2 _
            have hlt2 : pr < w2.heap.size := lt_of HT2.out.2.1
            generalize (w2.alloc (.cells #[.int .i64 0, .int .i64 kA, .int .i64 kB, .int .i64 ga', .int .i64 gb'] 38)).drew = w3 at *
            obtain ⟨v, hv⟩ : ∃ v, v = w2.heap.size := ⟨_, rfl⟩
            rw [← hv] at hbo ⊢
            have u1 : pr ≠ v := by omega
            have u2 : v ≠ pr := by omega
            have H3 : Hid (w3.heap[v]? = some (outR 0 kA kB ga' gb') ∧ w3.heap[pr]? = some (outR 0 0 0 0 0) ∧ Fr (fun _ => False) w w3 ∧ w.heap.size ≤ v) := ⟨hbo, (f3.block pr hlt2 id).trans HT2.out.2.1, HT2.out.1.trans f3 (fun _ _ h => h), by rw [hv]; exact HT2.out.1.size⟩
            clear hbo hlt2 f3 hv
            have o0 : w3.cell? ⟨v, 0, none⟩ = some (.int .i64 0) := cell_of H3.out.1 rfl
            have y0 : w3.frozen? ⟨v, 0, none⟩ = false := frozen_of H3.out.1 0
            have HGS : Hid (G.sign = 0 ∧ G.ra = kA ∧ G.rb = kB ∧ G.ha = ga' ∧ G.hb = gb' ∧ G.err = 0) := Hid.mk0 (by rw [HG.out]; exact ⟨by unfold signOf; rw [if_neg (Int.lt_irrefl _), if_neg (Int.lt_irrefl _)], HKA.out.1.symm, HKA.out.2.symm, (HT2.out.2.2.1 HPA.out).symm, (HT2.out.2.2.2 HPB.out).symm, rfl⟩)
            go_upto_region 18 with fail
            obtain ⟨w4, hw4⟩ : ∃ w4, w4 = w3 := ⟨_, rfl⟩
            subst hw4
            have H4 : Hid (w4.heap[v]? = some (outR 0 kA kB ga' gb') ∧ w4.heap[pr]? = some (outR 0 0 0 0 0) ∧ Fr (fun _ => False) w w4) := ⟨H3.out.1, H3.out.2.1, H3.out.2.2.1⟩
            clear o0 y0
            have o0 : w4.cell? ⟨v, 0, none⟩ = some (.int .i64 (0)) := cell_of H4.out.1 rfl
            have o1 : w4.cell? ⟨v, 1, none⟩ = some (.int .i64 (kA)) := cell_of H4.out.1 rfl
            have o2 : w4.cell? ⟨v, 2, none⟩ = some (.int .i64 (kB)) := cell_of H4.out.1 rfl
            have o3 : w4.cell? ⟨v, 3, none⟩ = some (.int .i64 (ga')) := cell_of H4.out.1 rfl
            have o4 : w4.cell? ⟨v, 4, none⟩ = some (.int .i64 (gb')) := cell_of H4.out.1 rfl
            have r0 : w4.cell? ⟨pr, 0, none⟩ = some (.int .i64 0) := cell_of H4.out.2.1 rfl
            have z0 : w4.frozen? ⟨pr, 0, none⟩ = false := frozen_of H4.out.2.1 0
            have r1 : w4.cell? ⟨pr, 1, none⟩ = some (.int .i64 0) := cell_of H4.out.2.1 rfl
            have z1 : w4.frozen? ⟨pr, 1, none⟩ = false := frozen_of H4.out.2.1 1
            have r2 : w4.cell? ⟨pr, 2, none⟩ = some (.int .i64 0) := cell_of H4.out.2.1 rfl
            have z2 : w4.frozen? ⟨pr, 2, none⟩ = false := frozen_of H4.out.2.1 2
            have r3 : w4.cell? ⟨pr, 3, none⟩ = some (.int .i64 0) := cell_of H4.out.2.1 rfl
            have z3 : w4.frozen? ⟨pr, 3, none⟩ = false := frozen_of H4.out.2.1 3
            have r4 : w4.cell? ⟨pr, 4, none⟩ = some (.int .i64 0) := cell_of H4.out.2.1 rfl
            have z4 : w4.frozen? ⟨pr, 4, none⟩ = false := frozen_of H4.out.2.1 4
            have hlp : pr < w4.heap.size := lt_of H4.out.2.1
            have HBF : Hid ((((((w4.setCell ⟨pr, 0, none⟩ (.int .i64 (0))).setCell ⟨pr, 1, none⟩ (.int .i64 (kA))).setCell ⟨pr, 2, none⟩ (.int .i64 (kB))).setCell ⟨pr, 3, none⟩ (.int .i64 (ga'))).setCell ⟨pr, 4, none⟩ (.int .i64 (gb'))).heap[pr]? = some (outR (0) kA kB ga' gb') ∧ Fr (fun _ => False) w (((((w4.setCell ⟨pr, 0, none⟩ (.int .i64 (0))).setCell ⟨pr, 1, none⟩ (.int .i64 (kA))).setCell ⟨pr, 2, none⟩ (.int .i64 (kB))).setCell ⟨pr, 3, none⟩ (.int .i64 (ga'))).setCell ⟨pr, 4, none⟩ (.int .i64 (gb')))) := ⟨out_set H4.out.2.1 _ _ _ _ _, H4.out.2.2.trans (out_fr _ _ _ _ _ _ _) (fun i hi e => by have := HX.out.1.ps; omega)⟩
            go_wp2
            try simp only [Exit.inBlock, Exit.then]
            refine bodyPost_ret (rs_run rfl rfl HBF.out.1) rfl ⟨?_, HBF.out.2⟩
            rw [HGS.out.1, HGS.out.2.1, HGS.out.2.2.1, HGS.out.2.2.2.1, HGS.out.2.2.2.2.1, HGS.out.2.2.2.2.2]
          · have h2 : (ca == cb) = false := by rw [beq_eq_false_iff_ne]; exact h1
            clear hcc
            go_wp2_with (first
              | (go_at_call_of 96 (Value.pointer (some ⟨px, 0, none⟩)); obtain ⟨made1, s1, an1, nn1, cn1, hx1⟩ := HX.out.1.x; refine (rfetch_calls (F := FA) hx1 HX.out.1.lo HF.out.1 htt).mono ?_; rw [← HC.out.1, ← HC.out.2.1]; rintro x w1 ⟨rfl, hf1⟩; have H1 : Hid (∃ ga', Two w w1 pr px py m a1 a2 c1 c2 A B FA.k FA.e (if FA.c = -1 then t else t + 1) kb eb t ga' gb ∧ (FA.err = 0 → ga' = heldAt m A FA.k FA.e)) := HX.out.1.nextA hf1; clear hf1 hx1; obtain ⟨ga', hT1, hga1⟩ := H1.out; have HT1 : Hid (Two w w1 pr px py m a1 a2 c1 c2 A B FA.k FA.e (if FA.c = -1 then t else t + 1) kb eb t ga' gb ∧ (FA.err = 0 → ga' = heldAt m A FA.k FA.e)) := ⟨hT1, hga1⟩; clear hT1 hga1 H1)
              | (go_at_call_of 96 (Value.pointer (some ⟨py, 0, none⟩)); obtain ⟨made2, s2, an2, nn2, cn2, hx2⟩ := HT1.out.1.y; refine (rfetch_calls (F := FB) hx2 HT1.out.1.lo HF.out.2 htt).mono ?_; rw [← HC.out.2.2.1, ← HC.out.2.2.2]; rintro x w2 ⟨rfl, hf2⟩; have H2 : Hid (∃ gb', Two w w2 pr px py m a1 a2 c1 c2 A B FA.k FA.e (if FA.c = -1 then t else t + 1) FB.k FB.e (if FB.c = -1 then t else t + 1) ga' gb' ∧ (FB.err = 0 → gb' = heldAt m B FB.k FB.e)) := HT1.out.1.nextB hf2; clear hf2 hx2))
            obtain ⟨gb', hT2, hgb1⟩ := H2.out
            obtain ⟨k1, k2, k3, k4, -⟩ := hT2.cells
            have HT2 : Hid (Fr (fun _ => False) w w2 ∧ w2.heap[pr]? = some (outR 0 0 0 0 0) ∧ (FA.err = 0 → ga' = heldAt m A FA.k FA.e) ∧ (FB.err = 0 → gb' = heldAt m B FB.k FB.e)) := ⟨hT2.fr, hT2.res, HT1.out.2, hgb1⟩
            obtain ⟨kA, hkA⟩ : ∃ k, k = FA.k := ⟨_, rfl⟩
            obtain ⟨kB, hkB⟩ : ∃ k, k = FB.k := ⟨_, rfl⟩
            rw [← hkA] at k1
            rw [← hkB] at k2
            have HKA : Hid (kA = FA.k ∧ kB = FB.k) := ⟨hkA, hkB⟩
            clear hT2 hgb1 H2 hkA hkB
            have n1 : w2.heap.size ≠ px := World.new_ne w2 ⟨px, 2, none⟩ k1
            have n2 : w2.heap.size ≠ py := World.new_ne w2 ⟨py, 2, none⟩ k2
            have n3 := Ne.symm n1
            have n4 := Ne.symm n2
            go_region_held3 (fun w' => w'.cell? ⟨px, 2, none⟩ = some (.int .i64 kA) ∧ w'.cell? ⟨py, 2, none⟩ = some (.int .i64 kB) ∧ w'.cell? ⟨px, 7, none⟩ = some (.int .i64 ga') ∧ w'.cell? ⟨py, 7, none⟩ = some (.int .i64 gb')) (go_keep) (fail)
            rename_i hheld
            clear hheld n1 n2 n3 n4 k1 k2 k3 k4
            have f3 : Fr (fun _ => False) w2 (w2.alloc (.cells #[.int .i64 0, .int .i64 kA, .int .i64 kB, .int .i64 ga', .int .i64 gb'] 38)).drew := ((Fr.refl _ _).alloc _).drew
            have hbo : (w2.alloc (.cells #[.int .i64 0, .int .i64 kA, .int .i64 kB, .int .i64 ga', .int .i64 gb'] 38)).drew.heap[w2.heap.size]? = some (outR 0 kA kB ga' gb') := heap_alloc_new w2 _
            have hlt2 : pr < w2.heap.size := lt_of HT2.out.2.1
            generalize (w2.alloc (.cells #[.int .i64 0, .int .i64 kA, .int .i64 kB, .int .i64 ga', .int .i64 gb'] 38)).drew = w3 at *
            obtain ⟨v, hv⟩ : ∃ v, v = w2.heap.size := ⟨_, rfl⟩
            rw [← hv] at hbo ⊢
            have u1 : pr ≠ v := by omega
            have u2 : v ≠ pr := by omega
            have H3 : Hid (w3.heap[v]? = some (outR 0 kA kB ga' gb') ∧ w3.heap[pr]? = some (outR 0 0 0 0 0) ∧ Fr (fun _ => False) w w3 ∧ w.heap.size ≤ v) := ⟨hbo, (f3.block pr hlt2 id).trans HT2.out.2.1, HT2.out.1.trans f3 (fun _ _ h => h), by rw [hv]; exact HT2.out.1.size⟩
            clear hbo hlt2 f3 hv
            have o0 : w3.cell? ⟨v, 0, none⟩ = some (.int .i64 0) := cell_of H3.out.1 rfl
            have y0 : w3.frozen? ⟨v, 0, none⟩ = false := frozen_of H3.out.1 0
            by_cases h3 : ca < cb
            · have HGS : Hid (G.sign = -1 ∧ G.ra = kA ∧ G.rb = kB ∧ G.ha = ga' ∧ G.hb = gb' ∧ G.err = 0) := Hid.mk0 (by rw [HG.out]; exact ⟨by unfold signOf; rw [if_pos h3], HKA.out.1.symm, HKA.out.2.symm, (HT2.out.2.2.1 HPA.out).symm, (HT2.out.2.2.2 HPB.out).symm, rfl⟩)
              go_upto_region 18 with fail
              have H4 : Hid ((w3.setCell ⟨v, 0, none⟩ (.int .i64 (-1))).heap[v]? = some (outR (-1) kA kB ga' gb') ∧ (w3.setCell ⟨v, 0, none⟩ (.int .i64 (-1))).heap[pr]? = some (outR 0 0 0 0 0) ∧ Fr (fun _ => False) w (w3.setCell ⟨v, 0, none⟩ (.int .i64 (-1)))) := ⟨set_of H3.out.1 0 _, (set_other u1 0 _).trans H3.out.2.1, H3.out.2.2.1.setCell _ _ (fun h => by have := H3.out.2.2.2; have h' : v < w.heap.size := h; omega)⟩
              clear o0 y0
              generalize w3.setCell ⟨v, 0, none⟩ (.int .i64 (-1)) = w4 at *
              have o0 : w4.cell? ⟨v, 0, none⟩ = some (.int .i64 (-1)) := cell_of H4.out.1 rfl
              have o1 : w4.cell? ⟨v, 1, none⟩ = some (.int .i64 (kA)) := cell_of H4.out.1 rfl
              have o2 : w4.cell? ⟨v, 2, none⟩ = some (.int .i64 (kB)) := cell_of H4.out.1 rfl
              have o3 : w4.cell? ⟨v, 3, none⟩ = some (.int .i64 (ga')) := cell_of H4.out.1 rfl
              have o4 : w4.cell? ⟨v, 4, none⟩ = some (.int .i64 (gb')) := cell_of H4.out.1 rfl
              have r0 : w4.cell? ⟨pr, 0, none⟩ = some (.int .i64 0) := cell_of H4.out.2.1 rfl
              have z0 : w4.frozen? ⟨pr, 0, none⟩ = false := frozen_of H4.out.2.1 0
              have r1 : w4.cell? ⟨pr, 1, none⟩ = some (.int .i64 0) := cell_of H4.out.2.1 rfl
              have z1 : w4.frozen? ⟨pr, 1, none⟩ = false := frozen_of H4.out.2.1 1
              have r2 : w4.cell? ⟨pr, 2, none⟩ = some (.int .i64 0) := cell_of H4.out.2.1 rfl
              have z2 : w4.frozen? ⟨pr, 2, none⟩ = false := frozen_of H4.out.2.1 2
              have r3 : w4.cell? ⟨pr, 3, none⟩ = some (.int .i64 0) := cell_of H4.out.2.1 rfl
              have z3 : w4.frozen? ⟨pr, 3, none⟩ = false := frozen_of H4.out.2.1 3
              have r4 : w4.cell? ⟨pr, 4, none⟩ = some (.int .i64 0) := cell_of H4.out.2.1 rfl
              have z4 : w4.frozen? ⟨pr, 4, none⟩ = false := frozen_of H4.out.2.1 4
              have hlp : pr < w4.heap.size := lt_of H4.out.2.1
              have HBF : Hid ((((((w4.setCell ⟨pr, 0, none⟩ (.int .i64 (-1))).setCell ⟨pr, 1, none⟩ (.int .i64 (kA))).setCell ⟨pr, 2, none⟩ (.int .i64 (kB))).setCell ⟨pr, 3, none⟩ (.int .i64 (ga'))).setCell ⟨pr, 4, none⟩ (.int .i64 (gb'))).heap[pr]? = some (outR (-1) kA kB ga' gb') ∧ Fr (fun _ => False) w (((((w4.setCell ⟨pr, 0, none⟩ (.int .i64 (-1))).setCell ⟨pr, 1, none⟩ (.int .i64 (kA))).setCell ⟨pr, 2, none⟩ (.int .i64 (kB))).setCell ⟨pr, 3, none⟩ (.int .i64 (ga'))).setCell ⟨pr, 4, none⟩ (.int .i64 (gb')))) := ⟨out_set H4.out.2.1 _ _ _ _ _, H4.out.2.2.trans (out_fr _ _ _ _ _ _ _) (fun i hi e => by have := HX.out.1.ps; omega)⟩
              go_wp2
              try simp only [Exit.inBlock, Exit.then]
              refine bodyPost_ret (rs_run rfl rfl HBF.out.1) rfl ⟨?_, HBF.out.2⟩
              rw [HGS.out.1, HGS.out.2.1, HGS.out.2.2.1, HGS.out.2.2.2.1, HGS.out.2.2.2.2.1, HGS.out.2.2.2.2.2]
            · have h4 : cb < ca := by omega
              have HGS : Hid (G.sign = 1 ∧ G.ra = kA ∧ G.rb = kB ∧ G.ha = ga' ∧ G.hb = gb' ∧ G.err = 0) := Hid.mk0 (by rw [HG.out]; exact ⟨by unfold signOf; rw [if_neg h3, if_pos h4], HKA.out.1.symm, HKA.out.2.symm, (HT2.out.2.2.1 HPA.out).symm, (HT2.out.2.2.2 HPB.out).symm, rfl⟩)
              go_upto_region 18 with fail
              have H4 : Hid ((w3.setCell ⟨v, 0, none⟩ (.int .i64 (1))).heap[v]? = some (outR (1) kA kB ga' gb') ∧ (w3.setCell ⟨v, 0, none⟩ (.int .i64 (1))).heap[pr]? = some (outR 0 0 0 0 0) ∧ Fr (fun _ => False) w (w3.setCell ⟨v, 0, none⟩ (.int .i64 (1)))) := ⟨set_of H3.out.1 0 _, (set_other u1 0 _).trans H3.out.2.1, H3.out.2.2.1.setCell _ _ (fun h => by have := H3.out.2.2.2; have h' : v < w.heap.size := h; omega)⟩
              clear o0 y0
              generalize w3.setCell ⟨v, 0, none⟩ (.int .i64 (1)) = w4 at *
              have o0 : w4.cell? ⟨v, 0, none⟩ = some (.int .i64 (1)) := cell_of H4.out.1 rfl
              have o1 : w4.cell? ⟨v, 1, none⟩ = some (.int .i64 (kA)) := cell_of H4.out.1 rfl
              have o2 : w4.cell? ⟨v, 2, none⟩ = some (.int .i64 (kB)) := cell_of H4.out.1 rfl
              have o3 : w4.cell? ⟨v, 3, none⟩ = some (.int .i64 (ga')) := cell_of H4.out.1 rfl
              have o4 : w4.cell? ⟨v, 4, none⟩ = some (.int .i64 (gb')) := cell_of H4.out.1 rfl
              have r0 : w4.cell? ⟨pr, 0, none⟩ = some (.int .i64 0) := cell_of H4.out.2.1 rfl
              have z0 : w4.frozen? ⟨pr, 0, none⟩ = false := frozen_of H4.out.2.1 0
              have r1 : w4.cell? ⟨pr, 1, none⟩ = some (.int .i64 0) := cell_of H4.out.2.1 rfl
              have z1 : w4.frozen? ⟨pr, 1, none⟩ = false := frozen_of H4.out.2.1 1
              have r2 : w4.cell? ⟨pr, 2, none⟩ = some (.int .i64 0) := cell_of H4.out.2.1 rfl
              have z2 : w4.frozen? ⟨pr, 2, none⟩ = false := frozen_of H4.out.2.1 2
              have r3 : w4.cell? ⟨pr, 3, none⟩ = some (.int .i64 0) := cell_of H4.out.2.1 rfl
              have z3 : w4.frozen? ⟨pr, 3, none⟩ = false := frozen_of H4.out.2.1 3
              have r4 : w4.cell? ⟨pr, 4, none⟩ = some (.int .i64 0) := cell_of H4.out.2.1 rfl
              have z4 : w4.frozen? ⟨pr, 4, none⟩ = false := frozen_of H4.out.2.1 4
              have hlp : pr < w4.heap.size := lt_of H4.out.2.1
              have HBF : Hid ((((((w4.setCell ⟨pr, 0, none⟩ (.int .i64 (1))).setCell ⟨pr, 1, none⟩ (.int .i64 (kA))).setCell ⟨pr, 2, none⟩ (.int .i64 (kB))).setCell ⟨pr, 3, none⟩ (.int .i64 (ga'))).setCell ⟨pr, 4, none⟩ (.int .i64 (gb'))).heap[pr]? = some (outR (1) kA kB ga' gb') ∧ Fr (fun _ => False) w (((((w4.setCell ⟨pr, 0, none⟩ (.int .i64 (1))).setCell ⟨pr, 1, none⟩ (.int .i64 (kA))).setCell ⟨pr, 2, none⟩ (.int .i64 (kB))).setCell ⟨pr, 3, none⟩ (.int .i64 (ga'))).setCell ⟨pr, 4, none⟩ (.int .i64 (gb')))) := ⟨out_set H4.out.2.1 _ _ _ _ _, H4.out.2.2.trans (out_fr _ _ _ _ _ _ _) (fun i hi e => by have := HX.out.1.ps; omega)⟩
              go_wp2
              try simp only [Exit.inBlock, Exit.then]
              refine bodyPost_ret (rs_run rfl rfl HBF.out.1) rfl ⟨?_, HBF.out.2⟩
              rw [HGS.out.1, HGS.out.2.1, HGS.out.2.2.1, HGS.out.2.2.2.1, HGS.out.2.2.2.2.1, HGS.out.2.2.2.2.2]
      · have e1 : (xb != 0) = true := by rw [bne_iff_ne]; exact heb
        have HG : Hid (G = ⟨0, FA.k, FB.k, 0, 0, xb⟩) := Hid.mk0 (by
          rcases HX.out.2.1.inv with ⟨h1, _⟩ | ⟨_, h2⟩
          · exact absurd (h1.2.1) (by rw [← HF.out.2, ← HC.out.2.2.2]; exact heb)
          · rw [h2, last_b (by rw [← HF.out.1]; exact HPA.out) (by rw [← HF.out.2, ← HC.out.2.2.2]; exact heb), ← HF.out.1, ← HF.out.2, ← HC.out.2.2.2])
        go_wp2_with (first
          | (go_at_call_of 96 (Value.pointer (some ⟨px, 0, none⟩)); obtain ⟨made1, s1, an1, nn1, cn1, hx1⟩ := HX.out.1.x; refine (rfetch_calls (F := FA) hx1 HX.out.1.lo HF.out.1 htt).mono ?_; rw [← HC.out.1, ← HC.out.2.1]; rintro x w1 ⟨rfl, hf1⟩; have H1 : Hid (∃ ga', Two w w1 pr px py m a1 a2 c1 c2 A B FA.k FA.e (if FA.c = -1 then t else t + 1) kb eb t ga' gb ∧ (FA.err = 0 → ga' = heldAt m A FA.k FA.e)) := HX.out.1.nextA hf1; clear hf1 hx1; obtain ⟨ga', hT1, hga1⟩ := H1.out; have HT1 : Hid (Two w w1 pr px py m a1 a2 c1 c2 A B FA.k FA.e (if FA.c = -1 then t else t + 1) kb eb t ga' gb ∧ (FA.err = 0 → ga' = heldAt m A FA.k FA.e)) := ⟨hT1, hga1⟩; clear hT1 hga1 H1)
          | (go_at_call_of 96 (Value.pointer (some ⟨py, 0, none⟩)); obtain ⟨made2, s2, an2, nn2, cn2, hx2⟩ := HT1.out.1.y; refine (rfetch_calls (F := FB) hx2 HT1.out.1.lo HF.out.2 htt).mono ?_; rw [← HC.out.2.2.1, ← HC.out.2.2.2]; rintro x w2 ⟨rfl, hf2⟩; have H2 : Hid (∃ gb', Two w w2 pr px py m a1 a2 c1 c2 A B FA.k FA.e (if FA.c = -1 then t else t + 1) FB.k FB.e (if FB.c = -1 then t else t + 1) ga' gb' ∧ (FB.err = 0 → gb' = heldAt m B FB.k FB.e)) := HT1.out.1.nextB hf2; clear hf2 hx2))
        obtain ⟨gb', hT2, hgb1⟩ := H2.out
        obtain ⟨k1, k2, k3, k4, -⟩ := hT2.cells
        have HT2 : Hid (Fr (fun _ => False) w w2 ∧ w2.heap[pr]? = some (outR 0 0 0 0 0) ∧ (FA.err = 0 → ga' = heldAt m A FA.k FA.e) ∧ (FB.err = 0 → gb' = heldAt m B FB.k FB.e)) := ⟨hT2.fr, hT2.res, HT1.out.2, hgb1⟩
        obtain ⟨kA, hkA⟩ : ∃ k, k = FA.k := ⟨_, rfl⟩
        obtain ⟨kB, hkB⟩ : ∃ k, k = FB.k := ⟨_, rfl⟩
        rw [← hkA] at k1
        rw [← hkB] at k2
        have HKA : Hid (kA = FA.k ∧ kB = FB.k) := ⟨hkA, hkB⟩
        clear hT2 hgb1 H2 hkA hkB
        have HR2 : Hid (w2.heap[pr]? = some (outR 0 0 0 0 0)) := HT2.out.2.1
        have r0 : w2.cell? ⟨pr, 0, none⟩ = some (.int .i64 0) := cell_of HR2.out rfl
        have z0 : w2.frozen? ⟨pr, 0, none⟩ = false := frozen_of HR2.out 0
        have r1 : w2.cell? ⟨pr, 1, none⟩ = some (.int .i64 0) := cell_of HR2.out rfl
        have z1 : w2.frozen? ⟨pr, 1, none⟩ = false := frozen_of HR2.out 1
        have r2 : w2.cell? ⟨pr, 2, none⟩ = some (.int .i64 0) := cell_of HR2.out rfl
        have z2 : w2.frozen? ⟨pr, 2, none⟩ = false := frozen_of HR2.out 2
        have r3 : w2.cell? ⟨pr, 3, none⟩ = some (.int .i64 0) := cell_of HR2.out rfl
        have z3 : w2.frozen? ⟨pr, 3, none⟩ = false := frozen_of HR2.out 3
        have r4 : w2.cell? ⟨pr, 4, none⟩ = some (.int .i64 0) := cell_of HR2.out rfl
        have z4 : w2.frozen? ⟨pr, 4, none⟩ = false := frozen_of HR2.out 4
        have hlp : pr < w2.heap.size := lt_of HR2.out
        clear k3 k4
        go_region_with (fail)
        all_goals
          have hbF : (((((w2.setCell ⟨pr, 0, none⟩ (.int .i64 0)).setCell ⟨pr, 1, none⟩ (.int .i64 kA)).setCell ⟨pr, 2, none⟩ (.int .i64 kB)).setCell ⟨pr, 3, none⟩ (.int .i64 0)).setCell ⟨pr, 4, none⟩ (.int .i64 0)).drew.heap[pr]? = some (outR 0 kA kB 0 0) := out_set0 HR2.out kA kB
          have HFF : Hid (Fr (fun _ => False) w (((((w2.setCell ⟨pr, 0, none⟩ (.int .i64 0)).setCell ⟨pr, 1, none⟩ (.int .i64 kA)).setCell ⟨pr, 2, none⟩ (.int .i64 kB)).setCell ⟨pr, 3, none⟩ (.int .i64 0)).setCell ⟨pr, 4, none⟩ (.int .i64 0)).drew) := HT2.out.1.trans (out_fr _ _ _ _ _ _ _).drew (fun i hi e => by have := HX.out.1.ps; omega)
          clear r0 r1 r2 r3 r4 z0 z1 z2 z3 z4 k1 k2 hlp
          generalize (((((w2.setCell ⟨pr, 0, none⟩ (.int .i64 0)).setCell ⟨pr, 1, none⟩ (.int .i64 kA)).setCell ⟨pr, 2, none⟩ (.int .i64 kB)).setCell ⟨pr, 3, none⟩ (.int .i64 0)).setCell ⟨pr, 4, none⟩ (.int .i64 0)).drew = w3 at *
          have HBF : Hid (w3.heap[pr]? = some (outR 0 kA kB 0 0)) := hbF
          clear hbF
          go_wp2
          try simp only [Exit.inBlock, Exit.then]
          refine bodyPost_ret (rs_run rfl rfl HBF.out) rfl ⟨?_, HFF.out⟩
          rw [HG.out, HKA.out.1, HKA.out.2]
    · have n1 : (xa != 0) = true := by rw [bne_iff_ne]; exact hea
      have HG : Hid (G = ⟨0, FA.k, kb, 0, 0, xa⟩) := Hid.mk0 (by
        rcases HX.out.2.1.inv with ⟨h1, _⟩ | ⟨_, h2⟩
        · exact absurd (h1.1) (by rw [← HF.out.1, ← HC.out.2.1]; exact hea)
        · rw [h2, last_a (by rw [← HF.out.1, ← HC.out.2.1]; exact hea), ← HF.out.1, ← HC.out.2.1])
      go_wp2_with (go_at_call_of 96 (Value.pointer (some ⟨px, 0, none⟩)); obtain ⟨made1, s1, an1, nn1, cn1, hx1⟩ := HX.out.1.x; refine (rfetch_calls (F := FA) hx1 HX.out.1.lo HF.out.1 htt).mono ?_; rw [← HC.out.1, ← HC.out.2.1]; rintro x w1 ⟨rfl, hf1⟩; have H1 : Hid (∃ ga', Two w w1 pr px py m a1 a2 c1 c2 A B FA.k FA.e (if FA.c = -1 then t else t + 1) kb eb t ga' gb ∧ (FA.err = 0 → ga' = heldAt m A FA.k FA.e)) := HX.out.1.nextA hf1; clear hf1 hx1)
      obtain ⟨ga', hT, -⟩ := H1.out
      obtain ⟨k1, k2, -⟩ := hT.cells
      have hres := hT.res
      have HT1 : Hid (Fr (fun _ => False) w w1 ∧ w1.heap[pr]? = some (outR 0 0 0 0 0)) := ⟨hT.fr, hres⟩
      obtain ⟨kA, hkA⟩ : ∃ k, k = FA.k := ⟨_, rfl⟩
      rw [← hkA] at k1
      have r0 : w1.cell? ⟨pr, 0, none⟩ = some (.int .i64 0) := cell_of hres rfl
      have r1 : w1.cell? ⟨pr, 1, none⟩ = some (.int .i64 0) := cell_of hres rfl
      have r2 : w1.cell? ⟨pr, 2, none⟩ = some (.int .i64 0) := cell_of hres rfl
      have r3 : w1.cell? ⟨pr, 3, none⟩ = some (.int .i64 0) := cell_of hres rfl
      have r4 : w1.cell? ⟨pr, 4, none⟩ = some (.int .i64 0) := cell_of hres rfl
      have z0 : w1.frozen? ⟨pr, 0, none⟩ = false := frozen_of hres 0
      have z1 : w1.frozen? ⟨pr, 1, none⟩ = false := frozen_of hres 1
      have z2 : w1.frozen? ⟨pr, 2, none⟩ = false := frozen_of hres 2
      have z3 : w1.frozen? ⟨pr, 3, none⟩ = false := frozen_of hres 3
      have z4 : w1.frozen? ⟨pr, 4, none⟩ = false := frozen_of hres 4
      have hlp : pr < w1.heap.size := lt_of hres
      have HKA : Hid (kA = FA.k) := hkA
      clear hT hres hkA H1
      go_region_with (fail)
      all_goals
        have hbF : (((((w1.setCell ⟨pr, 0, none⟩ (.int .i64 0)).setCell ⟨pr, 1, none⟩ (.int .i64 kA)).setCell ⟨pr, 2, none⟩ (.int .i64 kb)).setCell ⟨pr, 3, none⟩ (.int .i64 0)).setCell ⟨pr, 4, none⟩ (.int .i64 0)).drew.heap[pr]? = some (outR 0 kA kb 0 0) := out_set0 HT1.out.2 kA kb
        have HFF : Hid (Fr (fun _ => False) w (((((w1.setCell ⟨pr, 0, none⟩ (.int .i64 0)).setCell ⟨pr, 1, none⟩ (.int .i64 kA)).setCell ⟨pr, 2, none⟩ (.int .i64 kb)).setCell ⟨pr, 3, none⟩ (.int .i64 0)).setCell ⟨pr, 4, none⟩ (.int .i64 0)).drew) := HT1.out.1.trans (out_fr _ _ _ _ _ _ _).drew (fun i hi e => by have := HX.out.1.ps; omega)
        clear r0 r1 r2 r3 r4 z0 z1 z2 z3 z4 k1 k2 hlp
        generalize (((((w1.setCell ⟨pr, 0, none⟩ (.int .i64 0)).setCell ⟨pr, 1, none⟩ (.int .i64 kA)).setCell ⟨pr, 2, none⟩ (.int .i64 kb)).setCell ⟨pr, 3, none⟩ (.int .i64 0)).setCell ⟨pr, 4, none⟩ (.int .i64 0)).drew = w2 at *
        have HBF : Hid (w2.heap[pr]? = some (outR 0 kA kb 0 0)) := hbF
        clear hbF
        go_wp2
        try simp only [Exit.inBlock, Exit.then]
        refine bodyPost_ret (rs_run rfl rfl HBF.out) rfl ⟨?_, HFF.out⟩
        rw [HG.out, HKA.out]

end Go.Proofs.YtmhaknejeobfgabGreatDoor
