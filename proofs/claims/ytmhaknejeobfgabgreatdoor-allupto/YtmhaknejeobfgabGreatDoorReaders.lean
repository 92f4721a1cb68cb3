/- A whole text: Ended and Next. A reader of a whole text, in memory. A reader's readOn: one more code point, or the end. A reader's Fetch: the next code point of the form, or the end. The stages of a mode: kindsOf and Of. A copy of a mode's stages; a line of them. A new line; a new source; Begin: a reader of a whole text. -/
import Derived.Test.YtmhaknejeobfgabGreatDoorTables
import Derived.Test.YtmhaknejeobfgabGreatDoorBase
import Derived.Test.YtmhaknejeobfgabGreatDoorShelf
import Derived.Deep.DrawnRows
import Derived.Laws.Slices
import Derived.Test.YtmhaknejeobfgabGreatDoorLining
import Derived.Deep.LoopGhost
import Derived.Maps.AppendAt
import Derived.Laws.EntriesVeiled

/- Source1. -/
namespace Go.Proofs.YtmhaknejeobfgabGreatDoor
open Go.RowKit Go.Proofs.YtmhaknejeobfgabGreatDoor.Points
attribute [local go_sem ↓] Go.wp_at_zero Go.wp_at_succ

theorem decodeGo_L (s : ByteArray) (h : s.size ≠ 0) : Lib.decodeGo s = Lib.decodeL s.data.toList := by
  unfold Lib.decodeGo Lib.decodeL
  rw [if_neg h]

theorem ne_of_size {s : ByteArray} (h : s.size ≠ 0) : s.data.toList ≠ [] := by
  intro e
  have := Lib.size_eq s
  rw [e] at this
  exact h this

set_option maxRecDepth 100000 in
theorem ended_calls {w : World} {bw : Nat} {s : ByteArray} {tw : TypeId} (hb : w.heap[bw]? = some (.cells #[.string s] tw (0, 0))) :
    Calls Tryz.prog 198 #[.pointer (some ⟨bw, 0, none⟩)] w fun e w' => e = .returned (.bool s.data.toList.isEmpty) ∧ w' = w := by
  have c0 : w.cell? ⟨bw, 0, none⟩ = some (.string s) := cell_of hb rfl
  clear hb
  go_enter Tryz.func198, Tryz.ntmps198
  go_wp2
  go_ret
  refine ⟨?_, rfl⟩
  show Ending.returned (.bool s.toList.isEmpty) = _
  rw [Lib.toList_data]

set_option maxRecDepth 100000 in
theorem next_calls {w : World} {bw : Nat} {s : ByteArray} {tw : TypeId} (hE : Env w) (hb : w.heap[bw]? = some (.cells #[.string s] tw (0, 0))) (hs : s.size ≠ 0) :
    Calls Tryz.prog 56 #[.pointer (some ⟨bw, 0, none⟩)] w fun e w' => e = .returned (.int .i32 (Lib.decodeL s.data.toList).1) ∧ ∃ s' : ByteArray, s'.data.toList = s.data.toList.drop (Lib.decodeL s.data.toList).2 ∧ w'.heap[bw]? = some (.cells #[.string s'] tw (0, 0)) ∧ Fr (fun x => x = bw) w w' := by
  have c0 : w.cell? ⟨bw, 0, none⟩ = some (.string s) := cell_of hb rfl
  have hne := ne_of_size hs
  have hle := Lib.decodeL_le s.data.toList hne
  have hsz := Lib.size_eq s
  obtain ⟨R, hR⟩ : ∃ R, (Lib.decodeL s.data.toList).1 = R := ⟨_, rfl⟩
  obtain ⟨K, hK⟩ : ∃ K, (Lib.decodeL s.data.toList).2 = K := ⟨_, rfl⟩
  have hd := Tryz.utf8_DecodeRuneInString s w hE.utf8
  rw [decodeGo_L s hs, hR, hK] at hd
  rw [hR, hK]
  rw [hK] at hle
  have k1 : (K : Int) ≤ (s.size : Int) := by omega
  have k0 : (0 : Int) ≤ (K : Int) := by omega
  have HB : Hid (w.heap[bw]? = some (.cells #[.string s] tw (0, 0))) := hb
  have HD : Hid (Calls Tryz.prog 80 #[.string s] w fun e w' => e = .returned (.tuple #[.int .i32 R, .int .i64 K]) ∧ Below w.heap.size w w') := hd
  have HSZ : Hid (s.size = s.data.toList.length ∧ K ≤ s.data.toList.length) := ⟨hsz, hle⟩
  clear hb hd hE hR hK hsz hle hne hs
  go_enter Tryz.func56, Tryz.ntmps56
  go_wp2_with (go_at_call 80; refine HD.out.mono ?_; rintro e w1 ⟨rfl, hbel⟩; have hf1 : Fr (fun _ => False) w w1 := Fr.of_below hbel _; have hb1 : w1.heap[bw]? = some (.cells #[.string s] tw (0, 0)) := (hf1.block bw (lt_of HB.out) id).trans HB.out; have c1 : w1.cell? ⟨bw, 0, none⟩ = some (.string s) := cell_of hb1 rfl; have f1 := frozen_of hb1 0; have HB1 : Hid (w1.heap[bw]? = some (.cells #[.string s] tw (0, 0))) := hb1; clear hb1 hbel)
  go_ret
  refine ⟨rfl, s.extract K s.size, ?_, ?_, ?_⟩
  · rw [Lib.extract_data, List.take_of_length_le (by rw [List.length_drop]; have := HSZ.out; omega)]
  · have h := set_of HB1.out 0 (.string (s.extract K s.size))
    simpa using h
  · exact (hf1.mono (fun _ _ h => h.elim)).setCell ⟨bw, 0, none⟩ _ (fun _ => rfl)

end Go.Proofs.YtmhaknejeobfgabGreatDoor

/- Reader1. -/
namespace Go.Proofs.YtmhaknejeobfgabGreatDoor
open Go.RowKit Go.Proofs.YtmhaknejeobfgabGreatDoor.Stable Go.Proofs.YtmhaknejeobfgabGreatDoor.Order Go.Proofs.YtmhaknejeobfgabGreatDoor.Points
attribute [local go_sem ↓] Go.wp_at_zero Go.wp_at_succ

/-- A reader (block br) of a whole text (bw) with its line (bl) and stages (bs): h has gone in, rest has not; e: it has ended; R is released and was not taken. -/
structure Rd (w : World) (hi br bw bl bvr bvs bs cp B n : Nat) (ks : Nat → Bool × Bool) (h : List Int) (rest : ByteArray) (e : Bool) (R : List Int) (S : Nat → Prop) : Prop where
  rd : w.heap[br]? = some (.cells #[.iface 83 (.pointer (some ⟨bw, 0, none⟩)), .pointer (some ⟨bl, 0, none⟩), .func (.func 54) #[] #[.pointer (some ⟨bvr, 0, none⟩), .pointer (some ⟨bvs, 0, none⟩)], .bool e] 114 (0, 0))
  wh : w.heap[bw]? = some (.cells #[.string rest] 126 (0, 0))
  vr : w.heap[bvr]? = some (.cells #[.pointer (some ⟨br, 0, none⟩)] 69 (0, 0))
  vs : w.heap[bvs]? = some (.cells #[.pointer (some ⟨bw, 0, none⟩)] 83 (0, 0))
  ln : LineBlk w bl bs n cp 145
  st : StsIn w hi bs 108 B n ks (gotE ks (fun _ => e) h) (fun _ => e) (restR n R) S
  nS : ¬ S br ∧ ¬ S bw ∧ ¬ S bl ∧ ¬ S bvr ∧ ¬ S bvs
  ne : br ≠ bw ∧ br ≠ bl ∧ br ≠ bvr ∧ br ≠ bvs ∧ bw ≠ bl ∧ bw ≠ bvr ∧ bw ≠ bvs
  hib : hi ≤ br ∧ hi ≤ bw ∧ 11 ≤ hi ∧ ∀ x, S x → hi ≤ x
  env : Env w
  n0 : 0 < n
  n3 : n ≤ 3
  hv : ∀ c ∈ h, Valid c
  hR : ∀ c ∈ R, Valid c
  bd : 432 * (h.length + rest.data.toList.length) ≤ 1099511627776
  sl : Slim ks

/-- Behind something that touched the stages alone. -/
theorem Rd.stages {w w' : World} {hi br bw bl bvr bvs bs cp B n : Nat} {ks : Nat → Bool × Bool} {h h' : List Int} {rest : ByteArray} {e e' : Bool} {R R' : List Int} {S : Nat → Prop} (H : Rd w hi br bw bl bvr bvs bs cp B n ks h rest e R S) (hl : StsLeft w w' hi bs 108 B n ks (gotE ks (fun _ => e') h') (fun _ => e') (restR n R') S) (he : e' = e) (hv : ∀ c ∈ h', Valid c) (hR : ∀ c ∈ R', Valid c) (bd : 432 * (h'.length + rest.data.toList.length) ≤ 1099511627776) : Rd w' hi br bw bl bvr bvs bs cp B n ks h' rest e' R' (fun x => S x ∨ w.heap.size ≤ x) := by
  subst he
  have f := hl.2
  have l1 := lt_of H.rd
  have l2 := lt_of H.wh
  have l3 := lt_of H.vr
  have l4 := lt_of H.vs
  have l5 := lt_of H.ln
  obtain ⟨s1, s2, s3, s4, s5⟩ := H.nS
  have hi2 := H.hib
  have hsz : hi ≤ w.heap.size := by omega
  refine ⟨(f.block br l1 s1).trans H.rd, (f.block bw l2 s2).trans H.wh, (f.block bvr l3 s4).trans H.vr, (f.block bvs l4 s5).trans H.vs, H.ln.kept f s3, hl.1, ⟨?_, ?_, ?_, ?_, ?_⟩, H.ne, ⟨hi2.1, hi2.2.1, hi2.2.2.1, fun x hx => hx.elim (hi2.2.2.2 x) (fun h => by omega)⟩, H.env.kept f (fun k hk hS => ?_), H.n0, H.n3, hv, hR, bd, H.sl⟩
  · rintro (h | h)
    · exact s1 h
    · omega
  · rintro (h | h)
    · exact s2 h
    · omega
  · rintro (h | h)
    · exact s3 h
    · omega
  · rintro (h | h)
    · exact s4 h
    · omega
  · rintro (h | h)
    · exact s5 h
    · omega
  · have := hi2.2.2.2 k hS
    omega

/-- The next code point has been read from the text. -/
theorem Rd.read {w w' : World} {hi br bw bl bvr bvs bs cp B n : Nat} {ks : Nat → Bool × Bool} {h : List Int} {rest rest' : ByteArray} {R : List Int} {S : Nat → Prop} (H : Rd w hi br bw bl bvr bvs bs cp B n ks h rest false R S) (h1 : w'.heap[bw]? = some (.cells #[.string rest'] 126 (0, 0))) (f : Fr (fun x => x = bw) w w') (hl : rest'.data.toList.length ≤ rest.data.toList.length) : Rd w' hi br bw bl bvr bvs bs cp B n ks h rest' false R S := by
  obtain ⟨e1, e2, e3, e4, e5, e6, e7⟩ := H.ne
  have hi2 := H.hib
  refine ⟨(f.block br (lt_of H.rd) e1).trans H.rd, h1, (f.block bvr (lt_of H.vr) (Ne.symm e6)).trans H.vr, (f.block bvs (lt_of H.vs) (Ne.symm e7)).trans H.vs, H.ln.kept f (Ne.symm e5), ?_, H.nS, H.ne, H.hib, H.env.kept f (fun k hk e => by omega), H.n0, H.n3, H.hv, H.hR, by have := H.bd; omega, H.sl⟩
  obtain ⟨cs, gm, gr, k1, k2⟩ := H.st
  refine ⟨cs, gm, gr, k1.kept f (fun x hx e => by omega) (fun x hx e => H.nS.2.1 (e ▸ k2 x hx)), k2⟩

theorem Rd.weaken {w : World} {hi br bw bl bvr bvs bs cp B n : Nat} {ks : Nat → Bool × Bool} {h : List Int} {rest : ByteArray} {e : Bool} {R : List Int} {S S' : Nat → Prop} (H : Rd w hi br bw bl bvr bvs bs cp B n ks h rest e R S) (hs : ∀ x, S x → S' x) (hn : ¬ S' br ∧ ¬ S' bw ∧ ¬ S' bl ∧ ¬ S' bvr ∧ ¬ S' bvs) (hi' : ∀ x, S' x → hi ≤ x) : Rd w hi br bw bl bvr bvs bs cp B n ks h rest e R S' := by
  obtain ⟨cs, gm, gr, k1, k2⟩ := H.st
  exact ⟨H.rd, H.wh, H.vr, H.vs, H.ln, ⟨cs, gm, gr, k1, fun x hx => hs x (k2 x hx)⟩, hn, H.ne, ⟨H.hib.1, H.hib.2.1, H.hib.2.2.1, hi'⟩, H.env, H.n0, H.n3, H.hv, H.hR, H.bd, H.sl⟩

/-- What reading on leaves. -/
def ReadOn (w w' : World) (hi br bw bl bvr bvs bs cp B n : Nat) (ks : Nat → Bool × Bool) (h : List Int) (rest : ByteArray) (R : List Int) (S : Nat → Prop) : Prop :=
  ∃ d rest', rest'.data.toList = rest.data.toList.drop (Lib.decodeL rest.data.toList).2 ∧ inAt ks false (h ++ [((Lib.decodeL rest.data.toList).1 : Int)]) n = inAt ks false h n ++ d ∧ Rd w' hi br bw bl bvr bvs bs cp B n ks (h ++ [((Lib.decodeL rest.data.toList).1 : Int)]) rest' false (R ++ d) (fun x => S x ∨ w.heap.size ≤ x) ∧ Fr (fun x => x = bw ∨ S x) w w'

theorem read_done {w w1 w2 : World} {hi br bw bl bvr bvs bs cp B n : Nat} {ks : Nat → Bool × Bool} {h : List Int} {rest rest' : ByteArray} {R : List Int} {S : Nat → Prop} (H : Rd w hi br bw bl bvr bvs bs cp B n ks h rest false R S) (hne : rest.size ≠ 0) (hr : rest'.data.toList = rest.data.toList.drop (Lib.decodeL rest.data.toList).2) (H1 : Rd w1 hi br bw bl bvr bvs bs cp B n ks h rest' false R S) (f1 : Fr (fun x => x = bw) w w1) {d : List Int} (hd : inAt ks false (h ++ [((Lib.decodeL rest.data.toList).1 : Int)]) n = inAt ks false h n ++ d) (hl : StsLeft w1 w2 hi bs 108 B n ks (gotE ks (fun _ => false) (h ++ [((Lib.decodeL rest.data.toList).1 : Int)])) (fun _ => false) (restR n (R ++ d)) S) : ReadOn w w2 hi br bw bl bvr bvs bs cp B n ks h rest R S := by
  have hv' : ∀ c ∈ h ++ [((Lib.decodeL rest.data.toList).1 : Int)], Valid c := fun c hc => by
    rcases List.mem_append.1 hc with hc | hc
    · exact H.hv c hc
    · rw [List.mem_singleton.1 hc]
      exact dec_valid _
  have hR' : ∀ c ∈ R ++ d, Valid c := fun c hc => by
    rcases List.mem_append.1 hc with hc | hc
    · exact H.hR c hc
    · exact inAt_valid hv' n c (by rw [hd]; exact List.mem_append_right _ hc)
  have hw := Lib.decodeL_width rest.data.toList
  have hle := Lib.decodeL_le rest.data.toList (ne_of_size hne)
  have hb := H.bd
  have h2 := H1.stages hl rfl hv' hR' (by rw [hr, List.length_drop, List.length_append, List.length_singleton]; omega)
  have hs := f1.size
  refine ⟨d, rest', hr, hd, ?_, ?_⟩
  · have l1 := lt_of H.rd
    have l2 := lt_of H.wh
    have l3 := lt_of H.vr
    have l4 := lt_of H.vs
    have l5 := lt_of H.ln
    obtain ⟨s1, s2, s3, s4, s5⟩ := H.nS
    have hi2 := H.hib
    exact h2.weaken (fun x hx => hx.elim (fun h => .inl h) (fun h => .inr (by omega))) ⟨fun h => h.elim s1 (fun h => by omega), fun h => h.elim s2 (fun h => by omega), fun h => h.elim s3 (fun h => by omega), fun h => h.elim s4 (fun h => by omega), fun h => h.elim s5 (fun h => by omega)⟩ (fun x hx => hx.elim (hi2.2.2.2 x) (fun h => by omega))
  · exact (f1.mono (S' := fun x => x = bw ∨ S x) (fun _ _ h => .inl h)).trans hl.2 (fun _ _ h => .inr h)

set_option maxRecDepth 100000 in
set_option maxHeartbeats 800000 in
/-- The closure that reads on. -/
theorem read_calls {w : World} {hi br bw bl bvr bvs bs cp B n : Nat} {ks : Nat → Bool × Bool} {h : List Int} {rest : ByteArray} {R : List Int} {S : Nat → Prop} (H : Rd w hi br bw bl bvr bvs bs cp B n ks h rest false R S) (hne : rest.size ≠ 0) :
    Calls Tryz.prog 54 #[.pointer (some ⟨bvr, 0, none⟩), .pointer (some ⟨bvs, 0, none⟩)] w fun e w' => e = .returned (.tuple #[]) ∧ ReadOn w w' hi br bw bl bvr bvs bs cp B n ks h rest R S := by
  have c1 : w.cell? ⟨bvr, 0, none⟩ = some (.pointer (some ⟨br, 0, none⟩)) := cell_of H.vr rfl
  have c2 : w.cell? ⟨bvs, 0, none⟩ = some (.pointer (some ⟨bw, 0, none⟩)) := cell_of H.vs rfl
  have c3 : w.cell? ⟨br, 1, none⟩ = some (.pointer (some ⟨bl, 0, none⟩)) := cell_of H.rd rfl
  have HH : Hid (Rd w hi br bw bl bvr bvs bs cp B n ks h rest false R S) := H
  have HN : Hid (rest.size ≠ 0) := hne
  have hlen : 432 * (h.length + 1) ≤ 1099511627776 := by
    have h1 := H.bd
    have h2 : 0 < rest.data.toList.length := List.length_pos_iff.2 (ne_of_size hne)
    omega
  have HLE : Hid (432 * (h.length + 1) ≤ 1099511627776) := hlen
  clear H hne hlen
  go_enter Tryz.func54, Tryz.ntmps54
  go_wp2_with fail
  go_region_held3 (fun w' => w'.cell? ⟨bvr, 0, none⟩ = some (.pointer (some ⟨br, 0, none⟩)) ∧ w'.cell? ⟨bvs, 0, none⟩ = some (.pointer (some ⟨bw, 0, none⟩)) ∧ w'.cell? ⟨br, 1, none⟩ = some (.pointer (some ⟨bl, 0, none⟩))) (go_keep)
    (first
      | (go_at_call 56; refine (next_calls (HH.out.env.kept (Fr.refl (fun _ => False) _).drew (fun _ _ => id)) (bw := bw) (s := rest) HH.out.wh HN.out).mono ?_; rintro e w1 ⟨rfl, rest', hr', hb1, hf1d⟩; have hf1 := Fr.of_drew hf1d; clear hf1d; have H1 : Hid (Rd w1 hi br bw bl bvr bvs bs cp B n ks h rest' false R S) := HH.out.read hb1 hf1 (by rw [hr', List.length_drop]; omega); have HR1 : Hid (rest'.data.toList = rest.data.toList.drop (Lib.decodeL rest.data.toList).2) := hr'; clear hr' hb1; have d1 : w1.cell? ⟨bvr, 0, none⟩ = some (.pointer (some ⟨br, 0, none⟩)) := cell_of H1.out.vr rfl; have d2 : w1.cell? ⟨bvs, 0, none⟩ = some (.pointer (some ⟨bw, 0, none⟩)) := cell_of H1.out.vs rfl; have d3 : w1.cell? ⟨br, 1, none⟩ = some (.pointer (some ⟨bl, 0, none⟩)) := cell_of H1.out.rd rfl)
      | (go_at_call 55; refine (enter_calls H1.out.st H1.out.ln.cell H1.out.nS.2.2.1 H1.out.sl H1.out.n0 H1.out.n3 H1.out.hv H1.out.hR _ (dec_valid _) HLE.out).mono ?_; rintro e w2 ⟨rfl, d, hd, hl⟩; have HRO : Hid (ReadOn w w2 hi br bw bl bvr bvs bs cp B n ks h rest R S) := read_done HH.out HN.out HR1.out H1.out hf1 hd hl; obtain ⟨d', rest2, _, _, H2, _⟩ := HRO.out; have g1 : w2.cell? ⟨bvr, 0, none⟩ = some (.pointer (some ⟨br, 0, none⟩)) := cell_of H2.vr rfl; have g2 : w2.cell? ⟨bvs, 0, none⟩ = some (.pointer (some ⟨bw, 0, none⟩)) := cell_of H2.vs rfl; have g3 : w2.cell? ⟨br, 1, none⟩ = some (.pointer (some ⟨bl, 0, none⟩)) := cell_of H2.rd rfl; clear hd hl H2))
  go_wp2
  go_end0
  exact ⟨rfl, HRO.out⟩

end Go.Proofs.YtmhaknejeobfgabGreatDoor

/- Reader2. -/
namespace Go.Proofs.YtmhaknejeobfgabGreatDoor
open Go.RowKit Go.Proofs.YtmhaknejeobfgabGreatDoor.Stable Go.Proofs.YtmhaknejeobfgabGreatDoor.Order Go.Proofs.YtmhaknejeobfgabGreatDoor.Points
attribute [local go_sem ↓] Go.wp_at_zero Go.wp_at_succ

/-- What the end leaves. -/
def EndOn (w w' : World) (hi br bw bl bvr bvs bs cp B n : Nat) (ks : Nat → Bool × Bool) (h : List Int) (rest : ByteArray) (R : List Int) (S : Nat → Prop) : Prop :=
  ∃ d, inAt ks true h n = inAt ks false h n ++ d ∧ Rd w' hi br bw bl bvr bvs bs cp B n ks h rest true (R ++ d) (fun x => S x ∨ w.heap.size ≤ x) ∧ Fr (fun x => x = br ∨ S x) w w'

theorem end_done {w w1 : World} {hi br bw bl bvr bvs bs cp B n : Nat} {ks : Nat → Bool × Bool} {h : List Int} {rest : ByteArray} {R : List Int} {S : Nat → Prop} (H : Rd w hi br bw bl bvr bvs bs cp B n ks h rest false R S) {d : List Int} (hd : inAt ks true h n = inAt ks false h n ++ d) (hl : StsLeft w w1 hi bs 108 B n ks (gotE ks (fun _ => true) h) (fun _ => true) (restR n (R ++ d)) S) : EndOn w (w1.setCell ⟨br, 3, none⟩ (.bool true)) hi br bw bl bvr bvs bs cp B n ks h rest R S := by
  have f := hl.2
  have l1 := lt_of H.rd
  have l2 := lt_of H.wh
  have l3 := lt_of H.vr
  have l4 := lt_of H.vs
  have l5 := lt_of H.ln
  obtain ⟨s1, s2, s3, s4, s5⟩ := H.nS
  obtain ⟨e1, e2, e3, e4, e5, e6, e7⟩ := H.ne
  have hi2 := H.hib
  have hsz := f.size
  have r1 := (f.block br l1 s1).trans H.rd
  have hR' : ∀ c ∈ R ++ d, Valid c := fun c hc => by
    rcases List.mem_append.1 hc with hc | hc
    · exact H.hR c hc
    · exact inAt_valid H.hv n c (by rw [hd]; exact List.mem_append_right _ hc)
  have fs : Fr (fun x => x = br) w1 (w1.setCell ⟨br, 3, none⟩ (.bool true)) := (Fr.refl _ _).setCell ⟨br, 3, none⟩ _ (fun _ => rfl)
  refine ⟨d, hd, ⟨?_, ?_, ?_, ?_, ?_, ?_, ⟨fun h => h.elim s1 (fun h => by omega), fun h => h.elim s2 (fun h => by omega), fun h => h.elim s3 (fun h => by omega), fun h => h.elim s4 (fun h => by omega), fun h => h.elim s5 (fun h => by omega)⟩, H.ne, ⟨hi2.1, hi2.2.1, hi2.2.2.1, fun x hx => hx.elim (hi2.2.2.2 x) (fun h => by omega)⟩, ?_, H.n0, H.n3, H.hv, hR', H.bd, H.sl⟩, ?_⟩
  · have := set_of r1 3 (.bool true)
    simpa using this
  · rw [set_other (Ne.symm e1)]
    exact (f.block bw l2 s2).trans H.wh
  · rw [set_other (Ne.symm e3)]
    exact (f.block bvr l3 s4).trans H.vr
  · rw [set_other (Ne.symm e4)]
    exact (f.block bvs l4 s5).trans H.vs
  · exact (H.ln.kept f s3).kept fs (Ne.symm e2)
  · obtain ⟨cs, gm, gr, k1, k2⟩ := hl.1
    refine ⟨cs, gm, gr, k1.kept fs (fun x hx e => by omega) (fun x hx e => ?_), k2⟩
    rcases k2 x hx with h | h
    · exact s1 (e ▸ h)
    · omega
  · refine (H.env.kept f (fun k hk hS => ?_)).kept fs (fun k hk e => by omega)
    have := hi2.2.2.2 k hS
    omega
  · exact (f.mono (S' := fun x => x = br ∨ S x) (fun _ _ h => .inr h)).trans fs (fun _ _ h => .inl h)

set_option maxRecDepth 100000 in
set_option maxHeartbeats 800000 in
theorem readOn_more {w : World} {hi br bw bl bvr bvs bs cp B n : Nat} {ks : Nat → Bool × Bool} {h : List Int} {rest : ByteArray} {R : List Int} {S : Nat → Prop} (H : Rd w hi br bw bl bvr bvs bs cp B n ks h rest false R S) (hne : rest.size ≠ 0) :
    Calls Tryz.prog 74 #[.pointer (some ⟨br, 0, none⟩)] w fun e w' => e = .returned (.tuple #[]) ∧ ReadOn w w' hi br bw bl bvr bvs bs cp B n ks h rest R S := by
  have c0 : w.cell? ⟨br, 0, none⟩ = some (.iface 83 (.pointer (some ⟨bw, 0, none⟩))) := cell_of H.rd rfl
  have c4 : w.cell? ⟨br, 2, none⟩ = some (.func (.func 54) #[] #[.pointer (some ⟨bvr, 0, none⟩), .pointer (some ⟨bvs, 0, none⟩)]) := cell_of H.rd rfl
  have hme : ∀ (p : Option Addr) (w : World), (method 371 83 (.pointer p) "Ended").run Tryz.prog w = .ok (198, .pointer p) w := fun p w => by kernel_rfl
  have hemp : rest.data.toList.isEmpty = false := by
    have := ne_of_size hne
    cases hr : rest.data.toList with
    | nil => exact absurd hr this
    | cons => rfl
  have HH : Hid (Rd w hi br bw bl bvr bvs bs cp B n ks h rest false R S) := H
  have HN : Hid (rest.size ≠ 0) := hne
  clear H hne
  go_enter Tryz.func74, Tryz.ntmps74
  go_wp2_with (first
    | (go_at_call 198; refine (ended_calls HH.out.wh).mono ?_; rintro e w' ⟨rfl, hw⟩; have hw' := hw.symm; subst hw'; clear hw)
    | (go_at_call 54; refine (read_calls HH.out HN.out).mono ?_; rintro e w' ⟨rfl, hro⟩))
  go_end0
  exact ⟨rfl, hro⟩

set_option maxRecDepth 100000 in
set_option maxHeartbeats 800000 in
theorem readOn_end {w : World} {hi br bw bl bvr bvs bs cp B n : Nat} {ks : Nat → Bool × Bool} {h : List Int} {rest : ByteArray} {R : List Int} {S : Nat → Prop} (H : Rd w hi br bw bl bvr bvs bs cp B n ks h rest false R S) (hne : rest.size = 0) :
    Calls Tryz.prog 74 #[.pointer (some ⟨br, 0, none⟩)] w fun e w' => e = .returned (.tuple #[]) ∧ EndOn w w' hi br bw bl bvr bvs bs cp B n ks h rest R S := by
  have c0 : w.cell? ⟨br, 0, none⟩ = some (.iface 83 (.pointer (some ⟨bw, 0, none⟩))) := cell_of H.rd rfl
  have c1 : w.cell? ⟨br, 1, none⟩ = some (.pointer (some ⟨bl, 0, none⟩)) := cell_of H.rd rfl
  have hme : ∀ (p : Option Addr) (w : World), (method 371 83 (.pointer p) "Ended").run Tryz.prog w = .ok (198, .pointer p) w := fun p w => by kernel_rfl
  have hemp : rest.data.toList.isEmpty = true := by
    have := Lib.size_eq rest
    rw [hne] at this
    rw [List.eq_nil_of_length_eq_zero this.symm]
    rfl
  have HH : Hid (Rd w hi br bw bl bvr bvs bs cp B n ks h rest false R S) := H
  clear H hne
  go_enter Tryz.func74, Tryz.ntmps74
  go_wp2_with (first
    | (go_at_call 198; refine (ended_calls HH.out.wh).mono ?_; rintro e w' ⟨rfl, hw⟩; have hw' := hw.symm; subst hw'; clear hw)
    | (go_at_call 98; refine (end_calls HH.out.st HH.out.ln HH.out.nS.2.2.1 HH.out.sl HH.out.n3 HH.out.hv HH.out.hR (by have := HH.out.bd; omega)).mono ?_; rintro e w1 ⟨rfl, d, hd, hl⟩; have rb := (hl.2.block br (lt_of HH.out.rd) HH.out.nS.1).trans HH.out.rd; have c3 : w1.cell? ⟨br, 3, none⟩ = some (.bool false) := cell_of rb rfl; have f3 := frozen_of rb 3; clear rb; have HL : Hid (inAt ks true h n = inAt ks false h n ++ d ∧ StsLeft w w1 hi bs 108 B n ks (gotE ks (fun _ => true) h) (fun _ => true) (restR n (R ++ d)) S) := ⟨hd, hl⟩; clear hd hl))
  try simp only [Exit.inBlock, Exit.then]
  refine bodyPost_ret (results_none rfl _ _ _) rfl ?_
  exact ⟨rfl, end_done HH.out HL.out.1 HL.out.2⟩

end Go.Proofs.YtmhaknejeobfgabGreatDoor

/- Reader3. -/
namespace Go.Proofs.YtmhaknejeobfgabGreatDoor
open Go.RowKit Go.Proofs.YtmhaknejeobfgabGreatDoor.Stable Go.Proofs.YtmhaknejeobfgabGreatDoor.Order Go.Proofs.YtmhaknejeobfgabGreatDoor.Points
attribute [local go_sem ↓] Go.wp_at_zero Go.wp_at_succ

/-- A reader of a text whose form is F, of which taken has been fetched; all its blocks in T; g: how often it may still be read. -/
def RdM (w : World) (hi br : Nat) (F taken : List Int) (T : Nat → Prop) (g : Nat) : Prop :=
  ∃ bw bl bvr bvs bs cp B n ks h rest e R S, Rd w hi br bw bl bvr bvs bs cp B n ks h rest e R S ∧ F = inAt ks true (h ++ codes rest.data.toList) n ∧ inAt ks e h n = taken ++ R ∧ (e = true → rest.data.toList = []) ∧ (T br ∧ T bw ∧ T bl ∧ T bvr ∧ T bvs ∧ ∀ x, S x → T x) ∧ rest.data.toList.length + (if e = true then 0 else 1) = g

/-- The same, however often. -/
def RdIs (w : World) (hi br : Nat) (F taken : List Int) (T : Nat → Prop) : Prop := ∃ g, RdM w hi br F taken T g

theorem RdM.mono {w : World} {hi br : Nat} {F taken : List Int} {T T' : Nat → Prop} {g : Nat} (h : RdM w hi br F taken T g) (ht : ∀ x, T x → T' x) : RdM w hi br F taken T' g := by
  obtain ⟨bw, bl, bvr, bvs, bs, cp, B, n, ks, h, rest, e, R, S, h1, h2, h3, h4, ⟨t1, t2, t3, t4, t5, t6⟩, h6⟩ := h
  exact ⟨bw, bl, bvr, bvs, bs, cp, B, n, ks, h, rest, e, R, S, h1, h2, h3, h4, ⟨ht _ t1, ht _ t2, ht _ t3, ht _ t4, ht _ t5, fun x hx => ht _ (t6 x hx)⟩, h6⟩

theorem RdIs.mono {w : World} {hi br : Nat} {F taken : List Int} {T T' : Nat → Prop} (h : RdIs w hi br F taken T) (ht : ∀ x, T x → T' x) : RdIs w hi br F taken T' := by
  obtain ⟨g, h⟩ := h
  exact ⟨g, h.mono ht⟩

theorem Rd.kept {w w' : World} {hi br bw bl bvr bvs bs cp B n : Nat} {ks : Nat → Bool × Bool} {h : List Int} {rest : ByteArray} {e : Bool} {R : List Int} {S : Nat → Prop} (H : Rd w hi br bw bl bvr bvs bs cp B n ks h rest e R S) {X : Nat → Prop} (f : Fr X w w') (hX : ¬ X br ∧ ¬ X bw ∧ ¬ X bl ∧ ¬ X bvr ∧ ¬ X bvs ∧ ∀ x, S x → ¬ X x) (hh : ∀ x, x < hi → ¬ X x) : Rd w' hi br bw bl bvr bvs bs cp B n ks h rest e R S := by
  obtain ⟨x1, x2, x3, x4, x5, x6⟩ := hX
  have hi2 := H.hib
  obtain ⟨cs, gm, gr, k1, k2⟩ := H.st
  exact ⟨(f.block br (lt_of H.rd) x1).trans H.rd, (f.block bw (lt_of H.wh) x2).trans H.wh, (f.block bvr (lt_of H.vr) x4).trans H.vr, (f.block bvs (lt_of H.vs) x5).trans H.vs, H.ln.kept f x3, ⟨cs, gm, gr, k1.kept f hh (fun x hx => x6 x (k2 x hx)), k2⟩, H.nS, H.ne, H.hib, H.env.kept f (fun k hk => hh k (by omega)), H.n0, H.n3, H.hv, H.hR, H.bd, H.sl⟩

theorem RdM.kept {w w' : World} {hi br : Nat} {F taken : List Int} {T X : Nat → Prop} {g : Nat} (h : RdM w hi br F taken T g) (f : Fr X w w') (hX : ∀ x, T x → ¬ X x) (hh : ∀ x, x < hi → ¬ X x) : RdM w' hi br F taken T g := by
  obtain ⟨bw, bl, bvr, bvs, bs, cp, B, n, ks, h, rest, e, R, S, h1, h2, h3, h4, ⟨t1, t2, t3, t4, t5, t6⟩, h6⟩ := h
  exact ⟨bw, bl, bvr, bvs, bs, cp, B, n, ks, h, rest, e, R, S, h1.kept f ⟨hX _ t1, hX _ t2, hX _ t3, hX _ t4, hX _ t5, fun x hx => hX _ (t6 x hx)⟩ hh, h2, h3, h4, ⟨t1, t2, t3, t4, t5, t6⟩, h6⟩

theorem RdIs.kept {w w' : World} {hi br : Nat} {F taken : List Int} {T X : Nat → Prop} (h : RdIs w hi br F taken T) (f : Fr X w w') (hX : ∀ x, T x → ¬ X x) (hh : ∀ x, x < hi → ¬ X x) : RdIs w' hi br F taken T := by
  obtain ⟨g, h⟩ := h
  exact ⟨g, h.kept f hX hh⟩

/-- Where it stands. -/
def RdF (F : List Int) (ks : Nat → Bool × Bool) (h : List Int) (rest : ByteArray) (n : Nat) (e : Bool) (taken R : List Int) (g : Nat) : Prop := F = inAt ks true (h ++ codes rest.data.toList) n ∧ inAt ks e h n = taken ++ R ∧ (e = true → rest.data.toList = []) ∧ rest.data.toList.length + (if e = true then 0 else 1) = g

/-- What Fetch gives and leaves. -/
def Fetched (w w' : World) (hi br : Nat) (F taken : List Int) (T : Nat → Prop) (c : Int) : Prop :=
  ((∃ r, F = taken ++ c :: r ∧ RdIs w' hi br F (taken ++ [c]) (fun x => T x ∨ w.heap.size ≤ x)) ∨ (F = taken ∧ c = -1 ∧ RdIs w' hi br F taken (fun x => T x ∨ w.heap.size ≤ x))) ∧ Fr T w w'

theorem MidAt.cons {x c : Int} {ok : Bool} {r : List Int} (h : MidAt (.int .i32 x) (.bool ok) (c :: r)) : x = c ∧ ok = true := by
  rcases h with ⟨h, _⟩ | ⟨y, q, h1, h2, h3⟩
  · cases h
  · cases h1
    cases h2
    cases h3
    exact ⟨rfl, rfl⟩

theorem MidAt.nil {x : Int} {ok : Bool} (h : MidAt (.int .i32 x) (.bool ok) []) : x = 0 ∧ ok = false := by
  rcases h with ⟨_, h2, h3⟩ | ⟨y, q, h1, _⟩
  · cases h2
    cases h3
    exact ⟨rfl, rfl⟩
  · cases h1

theorem rd_prefix {ks : Nat → Bool × Bool} {h x : List Int} {e : Bool} {n : Nat} {F taken R : List Int} (h2 : F = inAt ks true (h ++ x) n) (h3 : inAt ks e h n = taken ++ R) (h4 : e = true → x = []) : ∃ t, F = taken ++ (R ++ t) ∧ (e = true → t = []) := by
  cases e with
  | true =>
    rw [h4 rfl, List.append_nil] at h2
    exact ⟨[], by rw [h2, h3, List.append_nil], fun _ => rfl⟩
  | false =>
    obtain ⟨t, ht⟩ := in_prefix ks h x true n
    exact ⟨t, by rw [h2, ht, h3, List.append_assoc], fun e => by cases e⟩

theorem codes_nil' {rest : ByteArray} (h : rest.data.toList = []) : codes rest.data.toList = [] := by rw [h]; rfl

/-- A Take behind which the reader stands as it did, or one further. -/
theorem RdM.took {wr w1 w : World} {hi br bw bl bvr bvs bs cp B n : Nat} {ks : Nat → Bool × Bool} {h : List Int} {rest : ByteArray} {e : Bool} {R R' : List Int} {S T : Nat → Prop} (H : Rd wr hi br bw bl bvr bvs bs cp B n ks h rest e R S) (hl : StsLeft wr w1 hi bs 108 B n ks (gotE ks (fun _ => e) h) (fun _ => e) (restR n R') S) (hR : ∀ c ∈ R', c ∈ R) (hf : Fr T w wr) (hS : ∀ x, S x → T x ∨ w.heap.size ≤ x) :
    Rd w1 hi br bw bl bvr bvs bs cp B n ks h rest e R' (fun x => S x ∨ wr.heap.size ≤ x) ∧ Fr T w w1 ∧ ∀ x, (S x ∨ wr.heap.size ≤ x) → T x ∨ w.heap.size ≤ x := by
  refine ⟨H.stages hl rfl H.hv (fun c hc => H.hR c (hR c hc)) H.bd, hf.trans hl.2 (fun i hi h => ?_), fun x hx => ?_⟩
  · rcases hS i h with h | h
    · exact h
    · omega
  · rcases hx with hx | hx
    · exact hS x hx
    · have := hf.size; exact .inr (by omega)

set_option maxRecDepth 100000 in
set_option maxHeartbeats 1600000 in
theorem fetch_calls {w : World} {hi br : Nat} {F taken : List Int} {T : Nat → Prop} (H : RdIs w hi br F taken T) :
    Calls Tryz.prog 49 #[.pointer (some ⟨br, 0, none⟩)] w fun e w' => ∃ c, e = .returned (.int .i32 c) ∧ Fetched w w' hi br F taken T c := by
  obtain ⟨g0, H0⟩ := H
  have HH : Hid (RdM w hi br F taken T g0) := H0
  clear H0
  go_enter Tryz.func49, Tryz.ntmps49
  go_wp2
  go_loopg [5] g0 (fun g _ wr => Hid (RdM wr hi br F taken (fun x => T x ∨ w.heap.size ≤ x) g ∧ Fr T w wr))
  case atStart => exact ⟨HH.out.mono (fun x h => .inl h), Fr.refl _ _⟩
  case round =>
    obtain ⟨⟨bw, bl, bvr, bvs, bs, cp, B, n, ks, h, rest, e, R, S, h1, h2, h3, h4, h5, h6⟩, hfr⟩ := hrel.out
    have c1 : wr.cell? ⟨br, 1, none⟩ = some (.pointer (some ⟨bl, 0, none⟩)) := cell_of h1.rd rfl
    have HR : Hid (Rd wr hi br bw bl bvr bvs bs cp B n ks h rest e R S) := h1
    have HF : Hid (RdF F ks h rest n e taken R gk) := ⟨h2, h3, h4, h6⟩
    have HT : Hid ((fun x => T x ∨ w.heap.size ≤ x) br ∧ (fun x => T x ∨ w.heap.size ≤ x) bw ∧ (fun x => T x ∨ w.heap.size ≤ x) bl ∧ (fun x => T x ∨ w.heap.size ≤ x) bvr ∧ (fun x => T x ∨ w.heap.size ≤ x) bvs ∧ ∀ x, S x → (fun x => T x ∨ w.heap.size ≤ x) x) := h5
    have HFR : Hid (Fr T w wr) := hfr
    clear h1 h2 h3 h4 h5 h6 hfr hrel
    cases R with
    | cons c r =>
      go_wp2_with (go_at_call 73; refine (lineTake_calls HR.out.st HR.out.ln.cell HR.out.nS.2.2.1 HR.out.sl HR.out.n0 HR.out.n3 (by have := HR.out.bd; omega)).mono ?_; rintro e' w1 ⟨x, ok, rfl, hm, hl⟩; have HL : Hid (StsLeft wr w1 hi bs 108 B n ks (gotE ks (fun _ => e) h) (fun _ => e) (restR n r) S) := hl; clear hl; obtain ⟨rfl, rfl⟩ : x = c ∧ ok = true := hm.cons; clear hm)
      go_ret
      obtain ⟨k1, k2, k3⟩ := RdM.took HR.out HL.out (fun c hc => List.mem_cons_of_mem _ hc) HFR.out HT.out.2.2.2.2.2
      obtain ⟨t, ht, _⟩ := rd_prefix HF.out.1 HF.out.2.1 (fun h => codes_nil' (HF.out.2.2.1 h))
      obtain ⟨t1, t2, t3, t4, t5, _⟩ := HT.out
      refine ⟨x, rfl, .inl ⟨r ++ t, by rw [ht]; rfl, gk, bw, bl, bvr, bvs, bs, cp, B, n, ks, h, rest, e, r, _, k1, HF.out.1, by rw [HF.out.2.1]; simp, HF.out.2.2.1, ⟨t1, t2, t3, t4, t5, k3⟩, HF.out.2.2.2⟩, k2⟩
    | nil =>
      cases e with
      | true =>
        go_wp2_with (go_at_call 73; refine (lineTake_calls HR.out.st HR.out.ln.cell HR.out.nS.2.2.1 HR.out.sl HR.out.n0 HR.out.n3 (by have := HR.out.bd; omega)).mono ?_; rintro e' w1 ⟨x, ok, rfl, hm, hl⟩; have HL : Hid (StsLeft wr w1 hi bs 108 B n ks (gotE ks (fun _ => true) h) (fun _ => true) (restR n []) S) := hl; clear hl; obtain ⟨rfl, rfl⟩ : x = 0 ∧ ok = false := hm.nil; clear hm; have K1 : Hid (Rd w1 hi br bw bl bvr bvs bs cp B n ks h rest true [] (fun x => S x ∨ wr.heap.size ≤ x) ∧ Fr T w w1 ∧ ∀ x, (S x ∨ wr.heap.size ≤ x) → T x ∨ w.heap.size ≤ x) := RdM.took HR.out HL.out (fun c hc => hc) HFR.out HT.out.2.2.2.2.2; have c3 : w1.cell? ⟨br, 3, none⟩ = some (.bool true) := cell_of K1.out.1.rd rfl)
        go_ret
        obtain ⟨k1, k2, k3⟩ := K1.out
        obtain ⟨t, ht, ht0⟩ := rd_prefix HF.out.1 HF.out.2.1 (fun h => codes_nil' (HF.out.2.2.1 h))
        obtain ⟨t1, t2, t3, t4, t5, _⟩ := HT.out
        exact ⟨-1, rfl, .inr ⟨by rw [ht, ht0 rfl]; simp, rfl, gk, bw, bl, bvr, bvs, bs, cp, B, n, ks, h, rest, true, [], _, k1, HF.out.1, HF.out.2.1, HF.out.2.2.1, ⟨t1, t2, t3, t4, t5, k3⟩, HF.out.2.2.2⟩, k2⟩
      | false =>
        by_cases hz : rest.size = 0
        · have HZ : Hid (rest.size = 0) := hz
          clear hz
          go_wp2_with (first
            | (go_at_call 73; refine (lineTake_calls HR.out.st HR.out.ln.cell HR.out.nS.2.2.1 HR.out.sl HR.out.n0 HR.out.n3 (by have := HR.out.bd; omega)).mono ?_; rintro e' w1 ⟨x, ok, rfl, hm, hl⟩; have HL : Hid (StsLeft wr w1 hi bs 108 B n ks (gotE ks (fun _ => false) h) (fun _ => false) (restR n []) S) := hl; clear hl; obtain ⟨rfl, rfl⟩ : x = 0 ∧ ok = false := hm.nil; clear hm; have K1 : Hid (Rd w1 hi br bw bl bvr bvs bs cp B n ks h rest false [] (fun x => S x ∨ wr.heap.size ≤ x) ∧ Fr T w w1 ∧ ∀ x, (S x ∨ wr.heap.size ≤ x) → T x ∨ w.heap.size ≤ x) := RdM.took HR.out HL.out (fun c hc => hc) HFR.out HT.out.2.2.2.2.2; have c3 : w1.cell? ⟨br, 3, none⟩ = some (.bool false) := cell_of K1.out.1.rd rfl)
            | (go_at_call 74; refine (readOn_end K1.out.1 HZ.out).mono ?_; rintro e' w2 ⟨rfl, hro⟩))
          obtain ⟨d, hd, q1, q2⟩ := hro
          obtain ⟨k1, k2, k3⟩ := K1.out
          obtain ⟨t1, t2, t3, t4, t5, _⟩ := HT.out
          have hnil : rest.data.toList = [] := List.eq_nil_of_length_eq_zero (by rw [← Lib.size_eq]; exact HZ.out)
          go_roundg rest.data.toList.length
          case measure => have := HF.out.2.2.2; simp only [Bool.false_eq_true, if_false] at this; omega
          case rel =>
            refine ⟨⟨bw, bl, bvr, bvs, bs, cp, B, n, ks, h, rest, true, _, _, q1, HF.out.1, ?_, fun _ => hnil, ⟨t1, t2, t3, t4, t5, fun x hx => ?_⟩, by simp⟩, k2.trans q2 (fun i hi h => ?_)⟩
            · rw [hd, HF.out.2.1, List.append_assoc]
            · rcases hx with hx | hx
              · exact k3 x hx
              · have := k2.size; exact .inr (by omega)
            · rcases h with rfl | h
              · rcases t1 with h | h
                · exact h
                · omega
              · rcases k3 i h with h | h
                · exact h
                · omega
        · have HZ : Hid (rest.size ≠ 0) := hz
          clear hz
          go_wp2_with (first
            | (go_at_call 73; refine (lineTake_calls HR.out.st HR.out.ln.cell HR.out.nS.2.2.1 HR.out.sl HR.out.n0 HR.out.n3 (by have := HR.out.bd; omega)).mono ?_; rintro e' w1 ⟨x, ok, rfl, hm, hl⟩; have HL : Hid (StsLeft wr w1 hi bs 108 B n ks (gotE ks (fun _ => false) h) (fun _ => false) (restR n []) S) := hl; clear hl; obtain ⟨rfl, rfl⟩ : x = 0 ∧ ok = false := hm.nil; clear hm; have K1 : Hid (Rd w1 hi br bw bl bvr bvs bs cp B n ks h rest false [] (fun x => S x ∨ wr.heap.size ≤ x) ∧ Fr T w w1 ∧ ∀ x, (S x ∨ wr.heap.size ≤ x) → T x ∨ w.heap.size ≤ x) := RdM.took HR.out HL.out (fun c hc => hc) HFR.out HT.out.2.2.2.2.2; have c3 : w1.cell? ⟨br, 3, none⟩ = some (.bool false) := cell_of K1.out.1.rd rfl)
            | (go_at_call 74; refine (readOn_more K1.out.1 HZ.out).mono ?_; rintro e' w2 ⟨rfl, hro⟩))
          obtain ⟨d, rest', hr', hd, q1, q2⟩ := hro
          obtain ⟨k1, k2, k3⟩ := K1.out
          obtain ⟨t1, t2, t3, t4, t5, _⟩ := HT.out
          have hne := ne_of_size HZ.out
          have hw := Lib.decodeL_width rest.data.toList
          have hle := Lib.decodeL_le rest.data.toList hne
          go_roundg (rest'.data.toList.length + 1)
          case measure =>
            have := HF.out.2.2.2
            rw [hr', List.length_drop]
            simp only [Bool.false_eq_true, if_false] at this
            omega
          case rel =>
            refine ⟨⟨bw, bl, bvr, bvs, bs, cp, B, n, ks, _, rest', false, _, _, q1, ?_, ?_, fun h => (by cases h), ⟨t1, t2, t3, t4, t5, fun x hx => ?_⟩, by simp⟩, k2.trans q2 (fun i hi h => ?_)⟩
            · rw [HF.out.1, codes_step _ hne, hr', List.append_assoc]
              rfl
            · rw [hd, HF.out.2.1, List.append_assoc]
            · rcases hx with hx | hx
              · exact k3 x hx
              · have := k2.size; exact .inr (by omega)
            · rcases h with rfl | h
              · rcases t2 with h | h
                · exact h
                · omega
              · rcases k3 i h with h | h
                · exact h
                · omega

end Go.Proofs.YtmhaknejeobfgabGreatDoor

/- Of1. -/
namespace Go.Proofs.YtmhaknejeobfgabGreatDoor
open Go.RowKit Go.Proofs.YtmhaknejeobfgabGreatDoor.Points
attribute [local go_sem ↓] Go.wp_at_zero Go.wp_at_succ

/-- The switches of a mode's stages, the first ones of each. -/
def kindL (m : Int) : List Bool := if m = 0 then [false] else if m = 1 then [true] else if m = 2 then [false, false] else if m = 3 then [false, true, true] else []

set_option maxRecDepth 100000 in
theorem kindsOf_calls (m : Int) (w : World) (h0 : 0 ≤ m) (h3 : m ≤ 3) :
    Calls Tryz.prog 51 #[.int .i64 m] w fun e w' => e = .returned (.slice (some ⟨w.heap.size, 0, none⟩) (kindL m).length (kindL m).length) ∧ w' = w.alloc (.cells ((kindL m).map Value.bool).toArray 4) := by
  rcases modes h0 h3 with rfl | rfl | rfl | rfl
  all_goals
    go_enter Tryz.func51, Tryz.ntmps51
    go_wp2
    go_ret
    exact ⟨rfl, rfl⟩

set_option maxRecDepth 100000 in
theorem kindsOf_none (m : Int) (w : World) (h : m < 0 ∨ 3 < m) :
    Calls Tryz.prog 51 #[.int .i64 m] w fun e w' => e = .returned (.slice none 0 0) ∧ w' = w := by
  have a0 : (m == 0) = false := by rw [beq_eq_false_iff_ne]; omega
  have a1 : (m == 1) = false := by rw [beq_eq_false_iff_ne]; omega
  have a2 : (m == 2) = false := by rw [beq_eq_false_iff_ne]; omega
  have a3 : (m == 3) = false := by rw [beq_eq_false_iff_ne]; omega
  clear h
  go_enter Tryz.func51, Tryz.ntmps51
  go_wp2
  go_ret
  exact ⟨rfl, rfl⟩

set_option maxRecDepth 100000 in
theorem of_none (m : Int) (w : World) (h : m < 0 ∨ 3 < m) :
    Calls Tryz.prog 24 #[.int .i64 m] w fun e w' => e = .returned (.tuple #[.slice none 0 0, .int .i64 1]) ∧ w' = w := by
  have HM : Hid (m < 0 ∨ 3 < m) := h
  clear h
  go_enter Tryz.func24, Tryz.ntmps24
  go_wp2_with (go_at_call 51; refine (kindsOf_none m _ HM.out).mono ?_; rintro e w' ⟨rfl, hw⟩; have hw' := hw.symm; subst hw'; clear hw)
  go_ret2
  exact ⟨rfl, rfl⟩

/-- Stages with nothing in them, of no kind yet. -/
def zeros (n : Nat) : Array Value := ((List.replicate n [Value.map none, .bool false, .bool false, .slice none 0 0, .int .i64 0, .int .i64 0, .slice none 0 0, .int .i64 0]).flatten).toArray

theorem make_stages {n : Nat} (h1 : 1 ≤ n) (h3 : n ≤ 3) (w : World) : (Instr.makeSlice 66 (.int .i64 n) (.int .i64 n)).run Tryz.prog w = .ok (.slice (some ⟨w.heap.size, 0, none⟩) n n) (w.alloc (.cells (zeros n) 108)) := by
  rcases (by omega : n = 1 ∨ n = 2 ∨ n = 3) with rfl | rfl | rfl <;> kernel_rfl

theorem set8 {w : World} {b o : Nat} {cs : Array Value} {t : TypeId} (hb : w.heap[b]? = some (.cells cs t (0, 0))) (ho : o + 8 ≤ cs.size) (v0 v1 v2 v3 v4 v5 v6 v7 : Value) :
    ∃ cs' : Array Value, ((((((((w.setCell ⟨b, o, none⟩ v0).setCell ⟨b, o + 1, none⟩ v1).setCell ⟨b, o + 2, none⟩ v2).setCell ⟨b, o + 3, none⟩ v3).setCell ⟨b, o + 4, none⟩ v4).setCell ⟨b, o + 5, none⟩ v5).setCell ⟨b, o + 6, none⟩ v6).setCell ⟨b, o + 7, none⟩ v7).heap[b]? = some (.cells cs' t (0, 0)) ∧ cs'.size = cs.size ∧ (∀ j, j < 8 → cs'[o + j]? = #[v0, v1, v2, v3, v4, v5, v6, v7][j]?) ∧ ∀ i, i < o ∨ o + 8 ≤ i → cs'[i]? = cs[i]? := by
  refine ⟨_, set_of (set_of (set_of (set_of (set_of (set_of (set_of (set_of hb o v0) (o + 1) v1) (o + 2) v2) (o + 3) v3) (o + 4) v4) (o + 5) v5) (o + 6) v6) (o + 7) v7, by simp, fun j hj => ?_, fun i hi => ?_⟩
  · rcases (by omega : j = 0 ∨ j = 1 ∨ j = 2 ∨ j = 3 ∨ j = 4 ∨ j = 5 ∨ j = 6 ∨ j = 7) with rfl | rfl | rfl | rfl | rfl | rfl | rfl | rfl
    · simp only [Nat.add_zero]
      rw [get_set_other _ (by omega), get_set_other _ (by omega), get_set_other _ (by omega), get_set_other _ (by omega), get_set_other _ (by omega), get_set_other _ (by omega), get_set_other _ (by omega), get_set_same _ (by omega)]; rfl
    · rw [get_set_other _ (by omega), get_set_other _ (by omega), get_set_other _ (by omega), get_set_other _ (by omega), get_set_other _ (by omega), get_set_other _ (by omega), get_set_same _ (by simp; omega)]; rfl
    · rw [get_set_other _ (by omega), get_set_other _ (by omega), get_set_other _ (by omega), get_set_other _ (by omega), get_set_other _ (by omega), get_set_same _ (by simp; omega)]; rfl
    · rw [get_set_other _ (by omega), get_set_other _ (by omega), get_set_other _ (by omega), get_set_other _ (by omega), get_set_same _ (by simp; omega)]; rfl
    · rw [get_set_other _ (by omega), get_set_other _ (by omega), get_set_other _ (by omega), get_set_same _ (by simp; omega)]; rfl
    · rw [get_set_other _ (by omega), get_set_other _ (by omega), get_set_same _ (by simp; omega)]; rfl
    · rw [get_set_other _ (by omega), get_set_same _ (by simp; omega)]; rfl
    · rw [get_set_same _ (by simp; omega)]; rfl
  · rw [get_set_other _ (by omega), get_set_other _ (by omega), get_set_other _ (by omega), get_set_other _ (by omega), get_set_other _ (by omega), get_set_other _ (by omega), get_set_other _ (by omega), get_set_other _ (by omega)]

/-- The first k stages of a mode, with nothing in them. -/
def Fresh (cs : Array Value) (B : Nat) (m : Int) (k : Nat) : Prop := ∀ i, i < k → ∀ j, j < 8 → cs[8 * i + j]? = #[Value.map (some B), .bool ((kindL m)[i]?.getD false), .bool (decide (0 < i)), .slice none 0 0, .int .i64 0, .int .i64 0, .slice none 0 0, .int .i64 0][j]?

/-- What Of gives: a slice of a mode's stages. -/
def OfGives (w w' : World) (m : Int) (e : Ending) : Prop :=
  ∃ b0 B cs, e = .returned (.tuple #[.slice (some ⟨b0, 0, none⟩) (kindL m).length (kindL m).length, .int .i64 0]) ∧ w.heap.size ≤ b0 ∧ w'.heap[b0]? = some (.cells cs 108 (0, 0)) ∧ cs.size = 8 * (kindL m).length ∧ Fresh cs B m (kindL m).length ∧ TabIn w' b0 B ∧ Fr (fun _ => False) w w'

set_option maxRecDepth 100000 in
set_option maxHeartbeats 1600000 in
theorem of_calls (m : Int) (w : World) (h0 : 0 ≤ m) (h3 : m ≤ 3) (hE : Env w) :
    Calls Tryz.prog 24 #[.int .i64 m] w fun e w' => OfGives w w' m e := by
  have HM : Hid (0 ≤ m ∧ m ≤ 3) := ⟨h0, h3⟩
  have HE : Hid (Env w) := hE
  clear hE h0 h3
  obtain ⟨n, hn⟩ : ∃ n, (kindL m).length = n := ⟨_, rfl⟩
  have hn1 : 1 ≤ n := by
    rcases modes HM.out.1 HM.out.2 with rfl | rfl | rfl | rfl <;> (subst hn; decide)
  have hn3 : n ≤ 3 := by
    rcases modes HM.out.1 HM.out.2 with rfl | rfl | rfl | rfl <;> (subst hn; decide)
  have hz : ((n : Int) == 0) = false := by rw [beq_eq_false_iff_ne]; omega
  have HN : Hid ((kindL m).length = n) := hn
  have hmk := make_stages hn1 hn3
  clear hn
  go_enter Tryz.func24, Tryz.ntmps24
  go_wp2_with (first
    | (go_at_call 51; refine (kindsOf_calls m _ HM.out.1 HM.out.2).mono ?_; rintro e w1 ⟨rfl, hw1⟩; rw [HN.out]; have f1 : Fr (fun _ => False) w w1 := hw1 ▸ (Fr.refl _ _).alloc _; have b1 : w1.heap[w.heap.size]? = some (.cells ((kindL m).map Value.bool).toArray 4 (0, 0)) := hw1 ▸ heap_alloc_new w _; have HB1 : Hid _ := b1; clear hw1 b1)
    | (go_at_call 52; refine (new_calls _ (HE.out.kept f1 (fun _ _ => id))).mono ?_; rintro e w2 ⟨B, f, rfl, p1, p2, p3, p4⟩; have HT : Hid (TabIn w2 w2.heap.size B ∧ Fr (fun _ => False) w1 w2) := ⟨TabIn.made p2 p3, p4⟩; clear p1 p2 p3 p4))
  have b3 : (w2.alloc (.cells (zeros n) 108)).heap[w2.heap.size]? = some (.cells (zeros n) 108 (0, 0)) := heap_alloc_new w2 _
  have f3 : Fr (fun x => x = w2.heap.size) w2 (w2.alloc (.cells (zeros n) 108)) := (Fr.refl _ _).alloc _
  have z3 : (zeros n).size = 8 * n := by
    rcases (by omega : n = 1 ∨ n = 2 ∨ n = 3) with rfl | rfl | rfl <;> rfl
  have HW3 : Hid ((w2.alloc (.cells (zeros n) 108)).heap[w2.heap.size]? = some (.cells (zeros n) 108 (0, 0)) ∧ Fr (fun x => x = w2.heap.size) w2 (w2.alloc (.cells (zeros n) 108)) ∧ (zeros n).size = 8 * n) := ⟨b3, f3, z3⟩
  clear b3 f3 z3
  go_loopw [20] (fun vi wr => ∃ k : Nat, vi = .int .i64 k ∧ k ≤ n ∧ Hid (∃ cs : Array Value, wr.heap[w2.heap.size]? = some (.cells cs 108 (0, 0)) ∧ cs.size = 8 * n ∧ Fresh cs B m k ∧ Fr (fun x => x = w2.heap.size) w2 wr)) (fun vi _ => n - (intOf vi).toNat)
  case atStart =>
    exact ⟨0, rfl, Nat.zero_le _, _, HW3.out.1, HW3.out.2.2, fun i hi => absurd hi (by omega), HW3.out.2.1⟩
  case round =>
    obtain ⟨k, rfl, hk, hh⟩ := hrel
    by_cases hlt : k < n
    · obtain ⟨cs, q1, q2, q3, q4⟩ := hh.out
      obtain ⟨b, hb⟩ : ∃ b, (kindL m)[k]? = some b := ⟨_, List.getElem?_eq_getElem (by rw [HN.out]; exact hlt)⟩
      have i0 : (0 : Int) ≤ (k : Int) := by omega
      have i1 : (k : Int) < (n : Int) := by omega
      have cK : wr.cell? ⟨w.heap.size, k, none⟩ = some (.bool b) := by
        have hl1 := lt_of HB1.out
        have s2 := HT.out.2.size
        exact cell_of ((q4.block w.heap.size (by omega) (by omega)).trans ((HT.out.2.block w.heap.size hl1 id).trans HB1.out)) (by simp [hb])
      have cz : ∀ j, j < 8 → ∃ x, wr.cell? ⟨w2.heap.size, k * 8 + j, none⟩ = some x := fun j hj => ⟨_, cell_of q1 (Array.getElem?_eq_getElem (by omega))⟩
      obtain ⟨x0, d0⟩ := cz 0 (by omega)
      obtain ⟨x1, d1⟩ := cz 1 (by omega)
      obtain ⟨x2, d2⟩ := cz 2 (by omega)
      obtain ⟨x3, d3⟩ := cz 3 (by omega)
      obtain ⟨x4, d4⟩ := cz 4 (by omega)
      obtain ⟨x5, d5⟩ := cz 5 (by omega)
      obtain ⟨x6, d6⟩ := cz 6 (by omega)
      obtain ⟨x7, d7⟩ := cz 7 (by omega)
      rw [Nat.add_zero] at d0
      have fz := frozen_of q1
      have HB : Hid ((kindL m)[k]? = some b) := hb
      have H3 : Hid (Fresh cs B m k ∧ Fr (fun x => x = w2.heap.size) w2 wr) := ⟨q3, q4⟩
      clear cz hb q3 q4 hh
      have HQ : Hid (wr.heap[w2.heap.size]? = some (.cells cs 108 (0, 0)) ∧ cs.size = 8 * n) := ⟨q1, q2⟩
      clear q1 q2
      go_wp2
      refine ⟨⟨k + 1, by go_num, by omega, ?_⟩, by simp [intOf]; omega⟩
      obtain ⟨cs', r1, r2, r3, r4⟩ := set8 HQ.out.1 (o := k * 8) (by have := HQ.out.2; omega) (.map (some B)) (.bool b) (.bool (decide (0 < k))) (.slice none 0 0) (.int .i64 0) (.int .i64 0) (.slice none 0 0) (.int .i64 0)
      have fA := H3.out.2
      refine ⟨cs', r1, r2.trans HQ.out.2, fun i hi j hj => ?_, (((((((((fA.setCell _ _ (fun _ => rfl)).setCell _ _ (fun _ => rfl)).setCell _ _ (fun _ => rfl)).setCell _ _ (fun _ => rfl)).setCell _ _ (fun _ => rfl)).setCell _ _ (fun _ => rfl)).setCell _ _ (fun _ => rfl)).setCell _ _ (fun _ => rfl)))⟩
      by_cases hik : i = k
      · subst hik
        rw [Nat.mul_comm 8 i, r3 j hj, HB.out]
        rfl
      · rw [r4 (8 * i + j) (by omega)]
        exact H3.out.1 i (by omega) j hj
    · obtain rfl : k = n := by omega
      go_wp2
      go_ret2
      obtain ⟨cs, q1, q2, q3, q4⟩ := hh.out
      have s1 := f1.size
      have s2 := HT.out.2.size
      have hN := HN.out
      unfold OfGives
      rw [hN]
      refine ⟨w2.heap.size, B, cs, rfl, by omega, q1, q2, q3, HT.out.1.kept q4 (fun x hx e => by omega), (f1.trans HT.out.2 (fun _ _ h => h)).trans q4 (fun i hi h => by omega)⟩

end Go.Proofs.YtmhaknejeobfgabGreatDoor

/- Clone. -/
namespace Go.Proofs.YtmhaknejeobfgabGreatDoor
open Go.RowKit Go.Proofs.YtmhaknejeobfgabGreatDoor.Points
attribute [local go_sem ↓] Go.wp_at_zero Go.wp_at_succ

theorem Tryz.info_stage : (Tryz.prog.info? 108).map (fun i => (i.zero, i.size, i.bytes)) = some (some (.agg #[.map none, .bool false, .bool false, .slice none 0 0, .int .i64 0, .int .i64 0, .slice none 0 0, .int .i64 0]), 8, 88) := by kernel_rfl

set_option maxRecDepth 100000 in
set_option maxHeartbeats 800000 in
theorem clone_calls {w : World} {b0 n : Nat} {cs : Array Value} (hn1 : 1 ≤ n) (hn3 : n ≤ 3) (hb : w.heap[b0]? = some (.cells cs 108 (0, 0))) (hs : cs.size = 8 * n) (h1 : ∀ u ∈ cs.toList, u.oneCell' = true) :
    Calls Tryz.prog 77 #[.slice (some ⟨b0, 0, none⟩) n n] w fun e w' => ∃ b1 cap cs1, e = .returned (.slice (some ⟨b1, 0, none⟩) n cap) ∧ w.heap.size ≤ b1 ∧ w'.heap[b1]? = some (.cells cs1 108 (0, 0)) ∧ (∀ i, i < 8 * n → cs1[i]? = cs[i]?) ∧ Fr (fun _ => False) w w' := by
  obtain ⟨i0, hi, hz0, hz1, hz2⟩ := info_parts Tryz.info_stage
  have HI : Hid (Tryz.prog.info? 108 = some i0 ∧ i0.zero = some (.agg #[.map none, .bool false, .bool false, .slice none 0 0, .int .i64 0, .int .i64 0, .slice none 0 0, .int .i64 0]) ∧ i0.size = 8 ∧ i0.bytes = 88) := ⟨hi, hz0, hz1, hz2⟩
  have HB : Hid (w.heap[b0]? = some (.cells cs 108 (0, 0)) ∧ cs.size = 8 * n ∧ ∀ u ∈ cs.toList, u.oneCell' = true) := ⟨hb, hs, h1⟩
  have hnil : ∀ w : World, (binOp .eql 66 (.slice (some ⟨b0, 0, none⟩) n n) (.slice none 0 0)).run Tryz.prog w = .ok (.bool false) w := fun w => by kernel_rfl
  have f1 : Fr (fun _ => False) w (w.alloc (.cells #[] 108)) := (Fr.refl _ _).alloc _
  have hb1 := (f1.block b0 (lt_of hb) id).trans hb
  have hown : (w.alloc (.cells #[] 108)).ownsRow 0 108 8 (.slice (some ⟨w.heap.size, 0, none⟩) 0 0) 0 [] := ⟨rfl, .inr ⟨w.heap.size, 0, #[], rfl, Nat.zero_le _, heap_alloc_new w _, Nat.le_refl _, Nat.zero_le _, rfl, rfl⟩⟩
  have hnews := World.news_of_block hb1
  have HO : Hid ((w.alloc (.cells #[] 108)).ownsRow 0 108 8 (.slice (some ⟨w.heap.size, 0, none⟩) 0 0) 0 []) := hown
  have HNW : Hid (∀ j u, cs.toList[j]? = some u → (w.alloc (.cells #[] 108)).cell? ((⟨b0, 0, none⟩ : Addr).add j) = some u) := hnews
  clear hi hz0 hz1 hz2 hb hs h1 hb1 hown hnews
  go_enter Tryz.func77, Tryz.ntmps77
  go_wp2_with (at_builtin; refine wpList_append_own_at _ rfl _ _ 66 rfl 0 108 i0 (.agg #[.map none, .bool false, .bool false, .slice none 0 0, .int .i64 0, .int .i64 0, .slice none 0 0, .int .i64 0]) 8 88 Tryz.underlying66 HI.out.1 HI.out.2.1 HI.out.2.2.1 HI.out.2.2.2 rfl (by decide) _ 0 [] rfl HO.out ⟨b0, 0, none⟩ n n cs.toList rfl (by have := HB.out.2.1; simp; omega) HNW.out HB.out.2.2 (by unfold maxLen; omega) (by omega) (Nat.zero_le _) ?grow)
  intro v' w1 hown1 hgrow _ hloc
  obtain ⟨l1, h | ⟨b1, cap, cur, rfl, _, hb1, hc1, hc2, hc3, hc4⟩⟩ := hown1
  · omega
  · have HX : Hid (w1.heap[b1]? = some (.cells cur 108 (0, 0)) ∧ cur.toList.take (n * 8) = cs.toList ∧ (b1 = w.heap.size ∨ b1 = w.heap.size + 1)) := ⟨hb1, hc4, by
      rcases hloc with h | h
      · left; simpa [Value.ownBlock] using h
      · right; simpa [Value.ownBlock] using h⟩
    have hfr : Fr (fun _ => False) w w1 := by
      have := ((f1.mono (S' := fun k => k = w.heap.size) (fun _ _ h => h.elim)).drewN 0).grown hgrow (fun k h _ => by simpa [Value.ownBlock] using h.symm)
      exact this.mono (fun i hi h => by omega)
    clear hb1 hc4 hloc hgrow l1 hc1 hc2 hc3
    go_wp2
    go_ret
    refine ⟨b1, cap, cur, rfl, by have := HX.out.2.2; omega, HX.out.1, fun i hi => ?_, hfr⟩
    have h2 := HX.out.2.1
    have h3 : (cur.toList.take (n * 8))[i]? = cs.toList[i]? := by rw [h2]
    rw [List.getElem?_take, if_pos (by omega)] at h3
    simpa using h3

end Go.Proofs.YtmhaknejeobfgabGreatDoor

/- Begin1. -/
namespace Go.Proofs.YtmhaknejeobfgabGreatDoor
open Go.RowKit Go.Proofs.YtmhaknejeobfgabGreatDoor.Stable Go.Proofs.YtmhaknejeobfgabGreatDoor.Order Go.Proofs.YtmhaknejeobfgabGreatDoor.Points
attribute [local go_sem ↓] Go.wp_at_zero Go.wp_at_succ

/-- What NewLine gives. -/
def LineNew (w w' : World) (n : Nat) (cs : Array Value) (e : Ending) : Prop :=
  ∃ bl b1 cp cs1, e = .returned (.pointer (some ⟨bl, 0, none⟩)) ∧ LineBlk w' bl b1 n cp 145 ∧ w.heap.size ≤ b1 ∧ b1 < bl ∧ w'.heap[b1]? = some (.cells cs1 108 (0, 0)) ∧ (∀ i, i < 8 * n → cs1[i]? = cs[i]?) ∧ Fr (fun _ => False) w w'

set_option maxRecDepth 100000 in
theorem newLine_calls {w : World} {b0 n : Nat} {cs : Array Value} (hn1 : 1 ≤ n) (hn3 : n ≤ 3) (hb : w.heap[b0]? = some (.cells cs 108 (0, 0))) (hs : cs.size = 8 * n) (h1 : ∀ u ∈ cs.toList, u.oneCell' = true) :
    Calls Tryz.prog 53 #[.slice (some ⟨b0, 0, none⟩) n n] w fun e w' => LineNew w w' n cs e := by
  have HB : Hid (w.heap[b0]? = some (.cells cs 108 (0, 0)) ∧ cs.size = 8 * n ∧ ∀ u ∈ cs.toList, u.oneCell' = true) := ⟨hb, hs, h1⟩
  clear hb hs h1
  go_enter Tryz.func53, Tryz.ntmps53
  go_wp2_with (go_at_call 77; refine (clone_calls hn1 hn3 HB.out.1 HB.out.2.1 HB.out.2.2).mono ?_; rintro e w1 ⟨b1, cap, cs1, rfl, p1, p2, p3, p4⟩; have HP : Hid (w.heap.size ≤ b1 ∧ w1.heap[b1]? = some (.cells cs1 108 (0, 0)) ∧ (∀ i, i < 8 * n → cs1[i]? = cs[i]?) ∧ Fr (fun _ => False) w w1) := ⟨p1, p2, p3, p4⟩; clear p1 p2 p3 p4)
  go_ret
  obtain ⟨p1, p2, p3, p4⟩ := HP.out
  refine ⟨w1.heap.size, b1, cap, cs1, rfl, heap_alloc_new w1 _, p1, lt_of p2, ?_, p3, p4.alloc _⟩
  exact (Below.heap_alloc w1 _ b1 (lt_of p2)).trans p2

set_option maxRecDepth 100000 in
theorem newWhole_calls (w : World) (s : ByteArray) :
    Calls Tryz.prog 36 #[.string s] w fun e w' => e = .returned (.pointer (some ⟨w.heap.size, 0, none⟩)) ∧ w' = w.alloc (.cells #[.string s] 126) := by
  go_enter Tryz.func36, Tryz.ntmps36
  go_wp2
  go_ret
  exact ⟨rfl, rfl⟩

theorem kind_at {m : Int} (h0 : 0 ≤ m) (h3 : m ≤ 3) : (kindL m).length = stagesOf m ∧ ∀ i, i < (kindL m).length → (kindL m)[i]?.getD false = (kindAt m i).1 ∧ decide (0 < i) = (kindAt m i).2 := by
  rcases modes h0 h3 with rfl | rfl | rfl | rfl
  · exact ⟨rfl, fun i hi => by
      have : i = 0 := by have : i < 1 := hi; omega
      subst this; exact ⟨rfl, rfl⟩⟩
  · exact ⟨rfl, fun i hi => by
      have : i = 0 := by have : i < 1 := hi; omega
      subst this; exact ⟨rfl, rfl⟩⟩
  · exact ⟨rfl, fun i hi => by
      have : i = 0 ∨ i = 1 := by have : i < 2 := hi; omega
      rcases this with rfl | rfl <;> exact ⟨rfl, rfl⟩⟩
  · exact ⟨rfl, fun i hi => by
      have : i = 0 ∨ i = 1 ∨ i = 2 := by have : i < 3 := hi; omega
      rcases this with rfl | rfl | rfl <;> exact ⟨rfl, rfl⟩⟩

theorem fresh_nil (w : World) {cs : Array Value} {o : Nat} (h0 : cs[o]? = some (.slice none 0 0)) (h1 : cs[o + 1]? = some (.int .i64 0)) : QIs w .i32 21 cs o none [] 0 := ⟨.slice none 0 0, [], h0, h1, ⟨rfl, .inl ⟨rfl, rfl⟩⟩, rfl, Nat.le_refl _, fun _ => rfl⟩

theorem inE_nil (ks : Nat → Bool × Bool) (es : Nat → Bool) : ∀ i, inE ks es [] i = []
  | 0 => rfl
  | i + 1 => by
    rw [inE, inE_nil ks es i]
    unfold outOf
    split <;> rfl

/-- Stages with nothing in them. -/
theorem sts_fresh {w : World} {hi b1 B n : Nat} {cs cs1 : Array Value} {m : Int} (h0 : 0 ≤ m) (h3 : m ≤ 3) (hn : (kindL m).length = n) (hb : w.heap[b1]? = some (.cells cs1 108 (0, 0))) (hc : ∀ i, i < 8 * n → cs1[i]? = cs[i]?) (hf : Fresh cs B m n) (ht : TabIn w hi B) (hh : hi ≤ b1) :
    StsIn w hi b1 108 B n (kindAt m) (gotE (kindAt m) (fun _ => false) []) (fun _ => false) (restR n []) (fun x => x = b1) := by
  have key : StsIn w hi b1 108 B n (kindAt m) (fun _ => []) (fun _ => false) (fun _ => []) (fun x => x = b1) := by
    refine ⟨cs1, fun _ => none, fun _ => none, ⟨hb, fun i hi => ?_, fun i j _ _ _ x hx => ?_⟩, fun x hx => ?_⟩
    · have hk := (kind_at h0 h3).2 i (by omega)
      have g : ∀ j, j < 8 → cs1[8 * i + j]? = #[Value.map (some B), .bool ((kindL m)[i]?.getD false), .bool (decide (0 < i)), .slice none 0 0, .int .i64 0, .int .i64 0, .slice none 0 0, .int .i64 0][j]? := fun j hj => (hc _ (by omega)).trans (hf i hi j hj)
      have g0 := g 0 (by omega)
      have g1 := g 1 (by omega)
      have g2 := g 2 (by omega)
      rw [hk.1] at g1
      rw [hk.2] at g2
      refine ⟨0, ⟨ht, g0, g1, g2, fresh_nil w (g 3 (by omega)) (g 4 (by omega)), g 5 (by omega), fresh_nil w (g 6 (by omega)) (g 7 (by omega)), by simp, by simp, fun x hx => (by cases hx), fun x hx => (by cases hx), fun x hx => (by cases hx), hh⟩, by simp [waitOf, feed]⟩
    · rcases hx with hx | hx <;> cases hx
    · rcases hx with hx | ⟨j, _, hx⟩
      · exact hx
      · rcases hx with hx | hx <;> cases hx
  refine key.congr (fun j hj => ⟨?_, rfl, ?_⟩)
  · unfold gotE
    rw [inE_nil]
    rfl
  · unfold restR
    split <;> rfl

theorem begin_done {w w1 : World} {b0 bw bl b1 cp B n : Nat} {cs cs1 : Array Value} {m : Int} {s : ByteArray} (h0 : 0 ≤ m) (h3 : m ≤ 3) (hn : (kindL m).length = n) (hE : Env w) (hg : 11 ≤ b0) (hbb : b0 ≤ bw) (hw : w.heap[bw]? = some (.cells #[.string s] 126 (0, 0))) (ht : TabIn w b0 B) (hf : Fresh cs B m n) (hbd : 432 * s.data.toList.length ≤ 1099511627776)
    (p1 : LineBlk w1 bl b1 n cp 145) (p2 : w.heap.size ≤ b1) (p3 : b1 < bl) (p4 : w1.heap[b1]? = some (.cells cs1 108 (0, 0))) (p5 : ∀ i, i < 8 * n → cs1[i]? = cs[i]?) (p6 : Fr (fun _ => False) w w1) :
    RdIs (((w1.alloc (.cells #[.iface 83 (.pointer (some ⟨bw, 0, none⟩)), .pointer (some ⟨bl, 0, none⟩), .func (.func 54) #[] #[.pointer (some ⟨w1.heap.size + 1, 0, none⟩), .pointer (some ⟨w1.heap.size + 1 + 1, 0, none⟩)], .bool false] 114)).alloc (.cells #[.pointer (some ⟨w1.heap.size, 0, none⟩)] 69)).alloc (.cells #[.pointer (some ⟨bw, 0, none⟩)] 83)) b0 w1.heap.size (form m (codes s.data.toList)) [] (fun x => x = bw ∨ w.heap.size ≤ x) ∧
    Fr (fun _ => False) w (((w1.alloc (.cells #[.iface 83 (.pointer (some ⟨bw, 0, none⟩)), .pointer (some ⟨bl, 0, none⟩), .func (.func 54) #[] #[.pointer (some ⟨w1.heap.size + 1, 0, none⟩), .pointer (some ⟨w1.heap.size + 1 + 1, 0, none⟩)], .bool false] 114)).alloc (.cells #[.pointer (some ⟨w1.heap.size, 0, none⟩)] 69)).alloc (.cells #[.pointer (some ⟨bw, 0, none⟩)] 83)) := by
  obtain ⟨A, hA⟩ : ∃ A, A = w1.alloc (.cells #[.iface 83 (.pointer (some ⟨bw, 0, none⟩)), .pointer (some ⟨bl, 0, none⟩), .func (.func 54) #[] #[.pointer (some ⟨w1.heap.size + 1, 0, none⟩), .pointer (some ⟨w1.heap.size + 1 + 1, 0, none⟩)], .bool false] 114) := ⟨_, rfl⟩
  rw [← hA]
  obtain ⟨Bw, hB⟩ : ∃ Bw, Bw = A.alloc (.cells #[.pointer (some ⟨w1.heap.size, 0, none⟩)] 69) := ⟨_, rfl⟩
  rw [← hB]
  obtain ⟨C, hC⟩ : ∃ C, C = Bw.alloc (.cells #[.pointer (some ⟨bw, 0, none⟩)] 83) := ⟨_, rfl⟩
  rw [← hC]
  have sA : A.heap.size = w1.heap.size + 1 := by rw [hA]; simp
  have sB : Bw.heap.size = w1.heap.size + 2 := by rw [hB]; simp [sA]
  have sC : C.heap.size = w1.heap.size + 3 := by rw [hC]; simp [sB]
  have rA : A.heap[w1.heap.size]? = some (.cells #[.iface 83 (.pointer (some ⟨bw, 0, none⟩)), .pointer (some ⟨bl, 0, none⟩), .func (.func 54) #[] #[.pointer (some ⟨w1.heap.size + 1, 0, none⟩), .pointer (some ⟨w1.heap.size + 1 + 1, 0, none⟩)], .bool false] 114 (0, 0)) := by rw [hA]; exact heap_alloc_new w1 _
  have rB : Bw.heap[w1.heap.size + 1]? = some (.cells #[.pointer (some ⟨w1.heap.size, 0, none⟩)] 69 (0, 0)) := by rw [hB, ← sA]; exact heap_alloc_new A _
  have rC : C.heap[w1.heap.size + 2]? = some (.cells #[.pointer (some ⟨bw, 0, none⟩)] 83 (0, 0)) := by rw [hC, ← sB]; exact heap_alloc_new Bw _
  have fAB : Fr (fun _ => False) A Bw := by rw [hB]; exact (Fr.refl _ _).alloc _
  have fBC : Fr (fun _ => False) Bw C := by rw [hC]; exact (Fr.refl _ _).alloc _
  have f1C : Fr (fun _ => False) w1 C := by rw [hC, hB, hA]; exact (((Fr.refl _ _).alloc _).alloc _).alloc _
  have rAC : C.heap[w1.heap.size]? = some (.cells #[.iface 83 (.pointer (some ⟨bw, 0, none⟩)), .pointer (some ⟨bl, 0, none⟩), .func (.func 54) #[] #[.pointer (some ⟨w1.heap.size + 1, 0, none⟩), .pointer (some ⟨w1.heap.size + 1 + 1, 0, none⟩)], .bool false] 114 (0, 0)) := (fBC.block _ (by omega) id).trans ((fAB.block _ (by omega) id).trans rA)
  have l1 := lt_of p4
  have l2 := lt_of p1
  have l3 := lt_of hw
  have s6 := p6.size
  have fwX : Fr (fun _ => False) w C := p6.trans f1C (fun _ _ h => h)
  refine ⟨⟨_, bw, bl, w1.heap.size + 1, w1.heap.size + 1 + 1, b1, cp, B, n, kindAt m, [], s, false, [], fun x => x = b1, ⟨rAC, ?_, ?_, ?_, ?_, ?_, ⟨by omega, by omega, by omega, by omega, by omega⟩, ⟨by omega, by omega, by omega, by omega, by omega, by omega, by omega⟩, ⟨by omega, hbb, hg, fun x hx => by omega⟩, ?_, ?_, ?_, fun c hc => (by cases hc), fun c hc => (by cases hc), by simpa using hbd, slim_kindAt h0 h3⟩, ?_, ?_, fun h => (by cases h), ⟨.inr (by omega), .inl rfl, .inr (by omega), .inr (by omega), .inr (by omega), fun x hx => .inr (by omega)⟩, rfl⟩, fwX⟩
  · exact (fwX.block bw l3 id).trans hw
  · exact (fBC.block _ (by omega) id).trans rB
  · exact rC
  · exact p1.kept f1C id
  · refine sts_fresh h0 h3 hn ((f1C.block b1 l1 id).trans p4) p5 hf (ht.kept fwX (fun _ _ => id)) (by omega)
  · exact hE.kept fwX (fun _ _ => id)
  · rcases modes h0 h3 with rfl | rfl | rfl | rfl <;> (subst hn; decide)
  · rcases modes h0 h3 with rfl | rfl | rfl | rfl <;> (subst hn; decide)
  · rw [form_line h0 h3, ← (kind_at h0 h3).1, hn]
    rfl
  · rw [← inE_const, inE_nil]
    rfl

set_option maxRecDepth 100000 in
set_option maxHeartbeats 800000 in
theorem begin_calls {w : World} {b0 n bw B : Nat} {cs : Array Value} {m : Int} {s : ByteArray} (h0 : 0 ≤ m) (h3 : m ≤ 3) (hn : (kindL m).length = n) (hE : Env w) (hg : 11 ≤ b0) (hbb : b0 ≤ bw) (hw : w.heap[bw]? = some (.cells #[.string s] 126 (0, 0))) (ht : TabIn w b0 B) (hf : Fresh cs B m n) (hbd : 432 * s.data.toList.length ≤ 1099511627776) (hb : w.heap[b0]? = some (.cells cs 108 (0, 0))) (hs : cs.size = 8 * n) :
    Calls Tryz.prog 25 #[.slice (some ⟨b0, 0, none⟩) n n, .iface 83 (.pointer (some ⟨bw, 0, none⟩))] w fun e w' => ∃ br, e = .returned (.pointer (some ⟨br, 0, none⟩)) ∧ RdIs w' b0 br (form m (codes s.data.toList)) [] (fun x => x = bw ∨ w.heap.size ≤ x) ∧ Fr (fun _ => False) w w' := by
  have hn1 : 1 ≤ n := by
    rcases modes h0 h3 with rfl | rfl | rfl | rfl <;> (subst hn; decide)
  have hn3 : n ≤ 3 := by
    rcases modes h0 h3 with rfl | rfl | rfl | rfl <;> (subst hn; decide)
  have h1 : ∀ u ∈ cs.toList, u.oneCell' = true := by
    intro u hu
    obtain ⟨i, hi⟩ := List.getElem?_of_mem hu
    have hil : i < cs.size := by
      have := (List.getElem?_eq_some_iff.1 hi).1
      simpa using this
    obtain ⟨a, j, hj, rfl⟩ : ∃ a j, j < 8 ∧ i = 8 * a + j := ⟨i / 8, i % 8, by omega, by omega⟩
    have h2 := hf a (by omega) j hj
    rw [← Array.getElem?_toList, hi] at h2
    rcases (by omega : j = 0 ∨ j = 1 ∨ j = 2 ∨ j = 3 ∨ j = 4 ∨ j = 5 ∨ j = 6 ∨ j = 7) with rfl | rfl | rfl | rfl | rfl | rfl | rfl | rfl <;> (cases h2; rfl)
  have hta : ∀ (p : Option Addr) (w : World), (Instr.typeAssert (.iface 83 (.pointer p)) 110 83 true).run Tryz.prog w = .ok (.tuple #[.pointer p, .bool true]) w := fun p w => by kernel_rfl
  have hmf : ∀ (fn : Fn) (first cap : Array Value) (w : World), (Instr.makeFunc fn first cap).run Tryz.prog w = .ok (.func fn first cap) w := fun _ _ _ _ => rfl
  have HB : Hid (w.heap[b0]? = some (.cells cs 108 (0, 0)) ∧ cs.size = 8 * n ∧ ∀ u ∈ cs.toList, u.oneCell' = true) := ⟨hb, hs, h1⟩
  have HD : Hid (∀ (w1 : World) (bl b1 cp : Nat) (cs1 : Array Value), LineBlk w1 bl b1 n cp 145 → w.heap.size ≤ b1 → b1 < bl → w1.heap[b1]? = some (.cells cs1 108 (0, 0)) → (∀ i, i < 8 * n → cs1[i]? = cs[i]?) → Fr (fun _ => False) w w1 → _) := Hid.to (fun w1 bl b1 cp cs1 p1 p2 p3 p4 p5 p6 => begin_done h0 h3 hn hE hg hbb hw ht hf hbd p1 p2 p3 p4 p5 p6)
  clear hb hs h1 h0 h3 hn hE hg hbb hw ht hf hbd
  go_enter Tryz.func25, Tryz.ntmps25
  go_wp2_with (go_at_call 53; refine (newLine_calls hn1 hn3 HB.out.1 HB.out.2.1 HB.out.2.2).mono ?_; rintro e w1 ⟨bl, b1, cp, cs1, rfl, p1, p2, p3, p4, p5, p6⟩; have HP : Hid (LineBlk w1 bl b1 n cp 145 ∧ w.heap.size ≤ b1 ∧ b1 < bl ∧ w1.heap[b1]? = some (.cells cs1 108 (0, 0)) ∧ (∀ i, i < 8 * n → cs1[i]? = cs[i]?) ∧ Fr (fun _ => False) w w1) := ⟨p1, p2, p3, p4, p5, p6⟩; clear p1 p2 p3 p4 p5 p6)
  go_ret
  obtain ⟨p1, p2, p3, p4, p5, p6⟩ := HP.out
  obtain ⟨q1, q2⟩ := HD.out w1 bl b1 cp cs1 p1 p2 p3 p4 p5 p6
  exact ⟨_, rfl, q1, q2⟩

end Go.Proofs.YtmhaknejeobfgabGreatDoor
