/- A line into which bytes go: its block, the bytes that wait in it, its stages; one code point of the bytes goes in. A line's Put: bytes go in, as far as they are code points for sure. A line's End: the bytes that wait go in, one by one, then the stages end. -/
import Derived.Test.YtmhaknejeobfgaaGreatDoorLining
import Derived.Test.YtmhaknejeobfgaaGreatDoorChUtf
import Derived.Test.YtmhaknejeobfgaaGreatDoorQueues
import Derived.Laws.IdiomStrings
import Derived.Deep.LoopGhost

/- LineB1. -/
namespace Go.Proofs.YtmhaknejeobfgaaGreatDoor
open Go.RowKit Go.Proofs.YtmhaknejeobfgaaGreatDoor.Stable Go.Proofs.YtmhaknejeobfgaaGreatDoor.Order Go.Proofs.YtmhaknejeobfgaaGreatDoor.Points
attribute [local go_sem ↓] Go.wp_at_zero Go.wp_at_succ

/-- A line in memory (its block bl): h has gone in, the bytes lb wait, R is released and was not taken; e: it has ended. All its blocks are in S. -/
structure Lin (w : World) (hi bl bs cp B n : Nat) (ks : Nat → Bool × Bool) (h : List Int) (lb : List UInt8) (e : Bool) (R : List Int) (S : Nat → Prop) (N : Nat) : Prop where
  ex : ∃ (cl : Array Value) (gb : Option Nat) (S0 : Nat → Prop), w.heap[bl]? = some (.cells cl 135 (0, 0)) ∧ cl[2]? = some (.slice (some ⟨bs, 0, none⟩) n cp) ∧ QIs w .u8 5 cl 0 gb (l8 lb) N ∧ gb ≠ some bl ∧
    StsIn w hi bs 106 B n ks (gotE ks (fun _ => e) h) (fun _ => e) (restR n R) S0 ∧ ¬ S0 bl ∧ (∀ x, gb = some x → ¬ S0 x ∧ S x) ∧ (∀ x, S0 x → S x) ∧ S bl
  hiS : ∀ x, S x → hi ≤ x
  n0 : 0 < n
  n3 : n ≤ 3
  hv : ∀ c ∈ h, Valid c
  hR : ∀ c ∈ R, Valid c
  sl : Slim ks

/-- What an operation leaves of a line. -/
def LinLeft (w w' : World) (hi bl bs cp B n : Nat) (ks : Nat → Bool × Bool) (h : List Int) (lb : List UInt8) (e : Bool) (R : List Int) (S : Nat → Prop) (N : Nat) : Prop :=
  Lin w' hi bl bs cp B n ks h lb e R (fun x => S x ∨ w.heap.size ≤ x) N ∧ Fr S w w'

theorem Lin.lt {w : World} {hi bl bs cp B n : Nat} {ks : Nat → Bool × Bool} {h : List Int} {lb : List UInt8} {e : Bool} {R : List Int} {S : Nat → Prop} {N : Nat} (H : Lin w hi bl bs cp B n ks h lb e R S N) : bl < w.heap.size ∧ hi ≤ bl ∧ S bl := by
  obtain ⟨cl, gb, S0, h1, _, _, _, _, _, _, _, h9⟩ := H.ex
  exact ⟨lt_of h1, H.hiS bl h9, h9⟩

theorem Lin.kept {w w' : World} {hi bl bs cp B n : Nat} {ks : Nat → Bool × Bool} {h : List Int} {lb : List UInt8} {e : Bool} {R : List Int} {S : Nat → Prop} {N : Nat} (H : Lin w hi bl bs cp B n ks h lb e R S N) {X : Nat → Prop} (f : Fr X w w') (hX : ∀ x, S x → ¬ X x) (hh : ∀ x, x < hi → ¬ X x) : Lin w' hi bl bs cp B n ks h lb e R S N := by
  obtain ⟨cl, gb, S0, h1, h2, h3, h4, ⟨cs, gm, gr, k1, k2⟩, h6, h7, h8, h9⟩ := H.ex
  exact { H with ex := ⟨cl, gb, S0, (f.block bl (lt_of h1) (hX bl h9)).trans h1, h2, h3.kept f (fun x hx => hX x (h7 x hx).2), h4, ⟨cs, gm, gr, k1.kept f hh (fun x hx => hX x (h8 x (k2 x hx))), k2⟩, h6, h7, h8, h9⟩ }

theorem Lin.mono {w : World} {hi bl bs cp B n : Nat} {ks : Nat → Bool × Bool} {h : List Int} {lb : List UInt8} {e : Bool} {R : List Int} {S S' : Nat → Prop} {N N' : Nat} (H : Lin w hi bl bs cp B n ks h lb e R S N) (hs : ∀ x, S x → S' x) (hi' : ∀ x, S' x → hi ≤ x) (hN : N ≤ N') : Lin w hi bl bs cp B n ks h lb e R S' N' := by
  obtain ⟨cl, gb, S0, h1, h2, h3, h4, h5, h6, h7, h8, h9⟩ := H.ex
  exact { H with ex := ⟨cl, gb, S0, h1, h2, h3.mono hN, h4, h5, h6, fun x hx => ⟨(h7 x hx).1, hs x (h7 x hx).2⟩, fun x hx => hs x (h8 x hx), hs bl h9⟩, hiS := hi' }

theorem LinLeft.trans {w w1 w2 : World} {hi bl bs cp B n : Nat} {ks : Nat → Bool × Bool} {h : List Int} {lb : List UInt8} {e : Bool} {R : List Int} {S : Nat → Prop} {N : Nat} (hf : Fr S w w1) (hh : hi ≤ w.heap.size) (hS : ∀ x, S x → hi ≤ x) (H : LinLeft w1 w2 hi bl bs cp B n ks h lb e R (fun x => S x ∨ w.heap.size ≤ x) N) : LinLeft w w2 hi bl bs cp B n ks h lb e R S N := by
  refine ⟨H.1.mono (fun x hx => ?_) (fun x hx => ?_) (Nat.le_refl _), hf.trans H.2 (fun i hi h => ?_)⟩
  · rcases hx with h | h
    · exact h
    · have := hf.size; exact .inr (by omega)
  · rcases hx with h | h
    · exact hS x h
    · omega
  · rcases h with h | h
    · exact h
    · omega

/-- Nothing has changed but what is new. -/
theorem Lin.same {w w' : World} {hi bl bs cp B n : Nat} {ks : Nat → Bool × Bool} {h : List Int} {lb : List UInt8} {e : Bool} {R : List Int} {S : Nat → Prop} {N : Nat} (H : Lin w hi bl bs cp B n ks h lb e R S N) (f : Fr (fun _ => False) w w') : LinLeft w w' hi bl bs cp B n ks h lb e R S N := by
  have hl := H.lt
  refine ⟨(H.kept f (fun _ _ => id) (fun _ _ => id)).mono (fun x hx => .inl hx) (fun x hx => ?_) (Nat.le_refl _), f.mono (fun _ _ h => h.elim)⟩
  rcases hx with h | h
  · exact H.hiS x h
  · omega

/-- The bytes that wait have changed. -/
theorem Lin.bytes {w w' : World} {hi bl bs cp B n : Nat} {ks : Nat → Bool × Bool} {h : List Int} {lb lb' : List UInt8} {e : Bool} {R : List Int} {S : Nat → Prop} {N N' : Nat} {cl cl' : Array Value} {gb gb' : Option Nat} {S0 : Nat → Prop} (H : Lin w hi bl bs cp B n ks h lb e R S N)
    (_ : w.heap[bl]? = some (.cells cl 135 (0, 0))) (h2 : cl[2]? = some (.slice (some ⟨bs, 0, none⟩) n cp)) (_ : ∀ x, gb = some x → x < w.heap.size) (h4 : gb ≠ some bl) (h5 : StsIn w hi bs 106 B n ks (gotE ks (fun _ => e) h) (fun _ => e) (restR n R) S0) (h6 : ¬ S0 bl) (h7 : ∀ x, gb = some x → ¬ S0 x ∧ S x) (h8 : ∀ x, S0 x → S x) (h9 : S bl)
    (q1 : w'.heap[bl]? = some (.cells cl' 135 (0, 0))) (q3 : ∀ i, i ≠ 0 → i ≠ 0 + 1 → cl'[i]? = cl[i]?) (q4 : QIs w' .u8 5 cl' 0 gb' (l8 lb') N') (q5 : gb' = gb ∨ ∃ y, gb' = some y ∧ w.heap.size ≤ y) (q6 : Fr (fun x => x = bl ∨ some x = gb) w w') :
    LinLeft w w' hi bl bs cp B n ks h lb' e R S N' := by
  obtain ⟨cs, gm, gr, k1, k2⟩ := h5
  have hl := H.lt
  have hS0 : ∀ x, S0 x → ¬ (x = bl ∨ some x = gb) := fun x hx h => by
    rcases h with h | h
    · exact h6 (h ▸ hx)
    · exact (h7 x h.symm).1 hx
  have hlow : ∀ x, x < hi → ¬ (x = bl ∨ some x = gb) := fun x hx h => by
    rcases h with h | h
    · omega
    · have := H.hiS x (h7 x h.symm).2; omega
  refine ⟨{ H with ex := ⟨cl', gb', Own n bs gm gr, q1, (q3 2 (by omega) (by omega)).trans h2, q4, ?_, ⟨cs, gm, gr, k1.kept q6 hlow (fun x hx => hS0 x (k2 x hx)), fun x hx => hx⟩, fun h => h6 (k2 _ h), ?_, fun x hx => .inl (h8 x (k2 x hx)), .inl h9⟩, hiS := fun x hx => ?_ }, q6.mono (fun x _ h => ?_)⟩
  · rcases q5 with q | ⟨y, q, hy⟩
    · rw [q]; exact h4
    · rw [q]
      intro e
      cases e
      omega
  · intro x hx
    rcases q5 with q | ⟨y, q, hy⟩
    · rw [q] at hx
      exact ⟨fun h => (h7 x hx).1 (k2 x h), .inl (h7 x hx).2⟩
    · rw [q] at hx
      cases hx
      exact ⟨fun h => by have := k1.own_lt h; omega, .inr hy⟩
  · rcases hx with h | h
    · exact H.hiS x h
    · omega
  · rcases h with h | h
    · rw [h]; exact h9
    · exact (h7 x h.symm).2

/-- One code point of the bytes goes in: what Enter leaves. -/
theorem Lin.entered {w w' : World} {hi bl bs cp B n : Nat} {ks : Nat → Bool × Bool} {h h' : List Int} {lb : List UInt8} {e e' : Bool} {R R' : List Int} {S : Nat → Prop} {N : Nat} {cl : Array Value} {gb : Option Nat} {S0 : Nat → Prop} (H : Lin w hi bl bs cp B n ks h lb e R S N)
    (h1 : w.heap[bl]? = some (.cells cl 135 (0, 0))) (h2 : cl[2]? = some (.slice (some ⟨bs, 0, none⟩) n cp)) (h3 : QIs w .u8 5 cl 0 gb (l8 lb) N) (h4 : gb ≠ some bl) (h6 : ¬ S0 bl) (h7 : ∀ x, gb = some x → ¬ S0 x ∧ S x) (h8 : ∀ x, S0 x → S x) (h9 : S bl)
    (hl : StsLeft w w' hi bs 106 B n ks (gotE ks (fun _ => e') h') (fun _ => e') (restR n R') S0) (hv : ∀ c ∈ h', Valid c) (hR : ∀ c ∈ R', Valid c) : LinLeft w w' hi bl bs cp B n ks h' lb e' R' S N := by
  have hlt := H.lt
  refine ⟨{ ex := ⟨cl, gb, fun x => S0 x ∨ w.heap.size ≤ x, (hl.2.block bl (lt_of h1) h6).trans h1, h2, h3.kept hl.2 (fun x hx => (h7 x hx).1), h4, hl.1, ?_, ?_, ?_, .inl h9⟩, hiS := ?_, n0 := H.n0, n3 := H.n3, hv := hv, hR := hR, sl := H.sl }, hl.2.mono (fun x _ h => h8 x h)⟩
  · rintro (h | h)
    · exact h6 h
    · have := lt_of h1; omega
  · intro x hx
    refine ⟨?_, .inl (h7 x hx).2⟩
    rintro (h | h)
    · exact (h7 x hx).1 h
    · have := h3.lt hx; omega
  · rintro x (h | h)
    · exact .inl (h8 x h)
    · exact .inr h
  · rintro x (h | h)
    · exact H.hiS x h
    · omega

/-- What a code point more leaves. -/
def Entered (w w' : World) (hi bl bs cp B n : Nat) (ks : Nat → Bool × Bool) (h : List Int) (c : Int) (lb : List UInt8) (R : List Int) (S : Nat → Prop) (N : Nat) : Prop :=
  ∃ d, inAt ks false (h ++ [c]) n = inAt ks false h n ++ d ∧ LinLeft w w' hi bl bs cp B n ks (h ++ [c]) lb false (R ++ d) S N

set_option maxRecDepth 100000 in
set_option maxHeartbeats 1600000 in
theorem enterBytes_calls {w : World} {hi bl bs cp B n : Nat} {ks : Nat → Bool × Bool} {h : List Int} {lb : List UInt8} {R : List Int} {S : Nat → Prop} {N : Nat} (H : Lin w hi bl bs cp B n ks h lb false R S N) (hne : lb ≠ []) (hE : Env w) (hb : 432 * (h.length + 1) ≤ 1099511627776) :
    Calls Tryz.prog 84 #[.pointer (some ⟨bl, 0, none⟩)] w fun e w' => e = .returned (.tuple #[]) ∧ Entered w w' hi bl bs cp B n ks h (Lib.decodeL lb).1 (lb.drop (Lib.decodeL lb).2) R S N := by
  obtain ⟨cl, gb, S0, h1, h2, h3, h4, h5, h6, h7, h8, h9⟩ := H.ex
  have hlt := H.lt
  have hw := Q_wait_B h1 h3
  have HW : Hid (Calls Tryz.prog 83 #[.pointer (some ⟨bl, 0, none⟩)] w fun e w' => ∃ v, e = .returned v ∧ Shows w .u8 v gb (l8 lb) ∧ ∃ q, w' = w.drewN q) := hw
  obtain ⟨c, hc⟩ : ∃ c : Int, c = (Lib.decodeL lb).1 := ⟨_, rfl⟩
  obtain ⟨k, hk⟩ : ∃ k, k = (Lib.decodeL lb).2 := ⟨_, rfl⟩
  have hkl : k ≤ (l8 lb).length := by
    rw [l8_length, hk]
    exact Lib.decodeL_le lb hne
  have hcv : Valid c := by rw [hc]; exact dec_valid lb
  have HD : Hid (∀ v q, Shows w .u8 v gb (l8 lb) → Calls Tryz.prog 108 #[v] (w.drewN q) fun e w' => e = .returned (.tuple #[.int .i32 c, .int .i64 k]) ∧ Fr (fun _ => False) w w') := Hid.mk0 (fun v q hv => by
    have hE' := hE.kept ((Fr.refl (fun _ => False) w).drewN q) (fun _ _ => id)
    refine (dec_calls (w := w.drewN q) (g := gb) hE'.utf8 hv hne).mono ?_
    rintro e w' ⟨rfl, hf⟩
    exact ⟨by rw [hc, hk], ((Fr.refl (fun _ => False) w).drewN q).trans hf (fun _ _ h => h)⟩)
  have HDR : Hid (∀ w1, Fr (fun _ => False) w w1 → Calls Tryz.prog 109 #[.pointer (some ⟨bl, 0, none⟩), .int .i64 k] w1 fun e w2 => e = .returned (.tuple #[]) ∧ LinLeft w w2 hi bl bs cp B n ks h (lb.drop k) false R S N) := Hid.mk0 (fun w1 f1 => by
    refine (Q_drop_B k ((f1.block bl (lt_of h1) id).trans h1) (h3.kept f1 (fun _ _ => id)) hkl h4).mono ?_
    rintro e w2 ⟨rfl, cl', r1, r2, r3, r4, r5⟩
    refine ⟨rfl, H.bytes h1 h2 (fun x hx => h3.lt hx) h4 h5 h6 h7 h8 h9 r1 r3 ?_ (.inl rfl) (f1.mono (fun _ _ h => h.elim) |>.trans r5 (fun _ _ h => .inl h))⟩
    rw [l8_drop]
    exact r4)
  have HEN : Hid (∀ w2, LinLeft w w2 hi bl bs cp B n ks h (lb.drop k) false R S N → Calls Tryz.prog 58 #[.pointer (some ⟨bl, 0, none⟩), .int .i32 c] w2 fun e w3 => e = .returned (.tuple #[]) ∧ Entered w w3 hi bl bs cp B n ks h c (lb.drop k) R S N) := Hid.mk0 (fun w2 hL => by
    obtain ⟨cl2, gb2, S2, g1, g2, g3, g4, g5, g6, g7, g8, g9⟩ := hL.1.ex
    refine (enter_calls g5 ⟨cell_of g1 g2, lt_of g1⟩ g6 H.sl H.n0 H.n3 H.hv H.hR c hcv hb).mono ?_
    rintro e w3 ⟨rfl, d, hd, hl⟩
    have hv' : ∀ x ∈ h ++ [c], Valid x := fun x hx => by
      rcases List.mem_append.1 hx with hx | hx
      · exact H.hv x hx
      · rw [List.mem_singleton.1 hx]; exact hcv
    have hR' : ∀ x ∈ R ++ d, Valid x := fun x hx => by
      rcases List.mem_append.1 hx with hx | hx
      · exact H.hR x hx
      · exact inAt_valid hv' n x (by rw [hd]; exact List.mem_append_right _ hx)
    exact ⟨rfl, d, hd, LinLeft.trans hL.2 (by omega) H.hiS (hL.1.entered g1 g2 g3 g4 g6 g7 g8 g9 hl hv' hR')⟩)
  rw [← hc, ← hk]
  clear H hne hE hb h1 h2 h3 h4 h5 h6 h7 h8 h9 hw hc hk hkl hcv hlt
  go_enter Tryz.func84, Tryz.ntmps84
  go_wp2_with (first
    | (go_at_call 83; refine HW.out.mono ?_; rintro e w1 ⟨v, rfl, hv, q, rfl⟩)
    | (go_at_call 108; refine (HD.out v q hv).mono ?_; rintro e w2 ⟨rfl, hf2⟩)
    | (go_at_call 109; refine (HDR.out _ hf2).mono ?_; rintro e w3 ⟨rfl, hL⟩)
    | (go_at_call 58; refine (HEN.out _ hL).mono ?_; rintro e w4 ⟨rfl, hen⟩))
  go_end0
  exact ⟨rfl, hen⟩

end Go.Proofs.YtmhaknejeobfgaaGreatDoor

/- LineB2. -/
namespace Go.Proofs.YtmhaknejeobfgaaGreatDoor
open Go.RowKit Go.Proofs.YtmhaknejeobfgaaGreatDoor.Stable Go.Proofs.YtmhaknejeobfgaaGreatDoor.Order Go.Proofs.YtmhaknejeobfgaaGreatDoor.Points
attribute [local go_sem ↓] Go.wp_at_zero Go.wp_at_succ

theorem bytesRow_at {s : ByteArray} {cap k : Nat} (h : k < s.data.toList.length) : (bytesRow s cap)[k]? = some (.int .u8 ((l8 s.data.toList)[k]?.getD 0)) := by
  have hk : k < s.data.size := by simpa using h
  unfold bytesRow l8
  rw [Array.getElem?_append_left (by simpa using hk), Array.getElem?_map, Array.getElem?_eq_getElem hk, List.getElem?_map, List.getElem?_eq_getElem h]
  rfl

/-- Where Put's loop stands: h1 has gone in, the bytes l1 wait. -/
def PutAt (w wr : World) (hi bl bs cp B n : Nat) (ks : Nat → Bool × Bool) (h : List Int) (all : List UInt8) (R : List Int) (S : Nat → Prop) (N g : Nat) : Prop :=
  ∃ h1 l1 d, LinLeft w wr hi bl bs cp B n ks h1 l1 false (R ++ d) S N ∧ h1 ++ sure l1 = h ++ sure all ∧ left l1 = left all ∧ inAt ks false h1 n = inAt ks false h n ++ d ∧ l1.length = g ∧ h1.length + l1.length ≤ h.length + all.length

theorem PutAt.next {w wr w' : World} {hi bl bs cp B n : Nat} {ks : Nat → Bool × Bool} {h : List Int} {all : List UInt8} {R : List Int} {S : Nat → Prop} {N : Nat} {h1 : List Int} {l1 : List UInt8} {d : List Int} (hh : hi ≤ w.heap.size) (hS : ∀ x, S x → hi ≤ x) (k1 : LinLeft w wr hi bl bs cp B n ks h1 l1 false (R ++ d) S N) (k2 : h1 ++ sure l1 = h ++ sure all) (k3 : left l1 = left all) (k4 : inAt ks false h1 n = inAt ks false h n ++ d) (k6 : h1.length + l1.length ≤ h.length + all.length) (hf : fullL l1 = true)
    (hen : Entered wr w' hi bl bs cp B n ks h1 (Lib.decodeL l1).1 (l1.drop (Lib.decodeL l1).2) (R ++ d) (fun x => S x ∨ w.heap.size ≤ x) N) : PutAt w w' hi bl bs cp B n ks h all R S N (l1.drop (Lib.decodeL l1).2).length := by
  obtain ⟨d2, e1, hL⟩ := hen
  obtain ⟨s1, s2⟩ := sure_step hf
  refine ⟨h1 ++ [((Lib.decodeL l1).1 : Int)], l1.drop (Lib.decodeL l1).2, d ++ d2, ?_, ?_, ?_, ?_, rfl, ?_⟩
  · rw [← List.append_assoc]
    exact LinLeft.trans k1.2 hh hS hL
  · rw [← k2, s1]
    simp
  · rw [← s2, k3]
  · rw [e1, k4, List.append_assoc]
  · have := drop_shorter hf
    simp only [List.length_append, List.length_singleton]
    omega

/-- What Put leaves. -/
def PutLeaves (w w' : World) (hi bl bs cp B n : Nat) (ks : Nat → Bool × Bool) (h : List Int) (all : List UInt8) (R : List Int) (S : Nat → Prop) (N : Nat) : Prop :=
  ∃ d, inAt ks false (h ++ sure all) n = inAt ks false h n ++ d ∧ LinLeft w w' hi bl bs cp B n ks (h ++ sure all) (left all) false (R ++ d) S N

set_option maxRecDepth 100000 in
set_option maxHeartbeats 1600000 in
theorem linePut_calls {w : World} {hi bl bs cp B n : Nat} {ks : Nat → Bool × Bool} {h : List Int} {lb : List UInt8} {R : List Int} {S : Nat → Prop} {N : Nat} (t : ByteArray) (H : Lin w hi bl bs cp B n ks h lb false R S N) (hE : Env w) (hg : 11 ≤ hi) (hb : 432 * (h.length + (lb ++ t.data.toList).length) ≤ 1099511627776) (hN : N + t.data.toList.length ≤ 1099511627776) :
    Calls Tryz.prog 61 #[.pointer (some ⟨bl, 0, none⟩), .string t] w fun e w' => e = .returned (.tuple #[]) ∧ PutLeaves w w' hi bl bs cp B n ks h (lb ++ t.data.toList) R S (N + t.data.toList.length) := by
  have hlt := H.lt
  have hsb : (convert 9 55 (.string t)).run Tryz.prog w = .ok (.slice (some ⟨w.heap.size, 0, none⟩) t.size (grownCap w t.size 0 5)) (w.drew.alloc (.cells (bytesRow t (grownCap w t.size 0 5)) 5 ((bytesRow t (grownCap w t.size 0 5)).size, (bytesRow t (grownCap w t.size 0 5)).size + 1))) := run_bytes_of_string w _ _ _ t Tryz.underlying9 Tryz.underlying55 Tryz.underlying5
  obtain ⟨all, hall⟩ : ∃ all, all = lb ++ t.data.toList := ⟨_, rfl⟩
  have HPU : Hid (∀ c fr, Calls Tryz.prog 81 #[.pointer (some ⟨bl, 0, none⟩), .slice (some ⟨w.heap.size, 0, none⟩) t.size c] (w.alloc (.cells (bytesRow t c) 5 fr)).drew fun e w' => e = .returned (.tuple #[]) ∧ PutAt w w' hi bl bs cp B n ks h all R S (N + t.data.toList.length) all.length) := Hid.mk0 (fun c fr => by
    obtain ⟨cl, gb, S0, h1, h2, h3, h4, h5, h6, h7, h8, h9⟩ := H.ex
    have f1 : Fr (fun _ => False) w (w.alloc (.cells (bytesRow t c) 5 fr)).drew := ((Fr.refl _ _).alloc _).drew
    have hnew : (w.alloc (.cells (bytesRow t c) 5 fr)).drew.heap[w.heap.size]? = some (.cells (bytesRow t c) 5 fr) := heap_alloc_new w _
    have hts : t.size = (l8 t.data.toList).length := by rw [l8_length, Lib.size_eq]
    rw [hts]
    refine (Q_putC_B (ys := l8 t.data.toList) ((f1.block bl (lt_of h1) id).trans h1) (h3.kept f1 (fun _ _ => id)) h4 (.inr ⟨⟨w.heap.size, 0, none⟩, c, rfl, fun j u hu => ?_, fun _ => ⟨?_, fun e => ?_⟩⟩) (by rw [l8_length]; exact hN)).mono ?_
    · have hj : j < (l8 t.data.toList).length := by have := (List.getElem?_eq_some_iff.1 hu).1; simpa using this
      have ea : (⟨w.heap.size, 0, none⟩ : Addr).add j = ⟨w.heap.size, j, none⟩ := by unfold Addr.add; split <;> simp_all
      rw [ea]
      refine cell_of hnew ?_
      rw [bytesRow_at (by rw [← l8_length]; exact hj), ← hu]
      simp [hj]
    · show w.heap.size ≠ bl
      omega
    · have := h3.lt (x := w.heap.size) e.symm
      omega
    · rintro e w' ⟨rfl, cl', gb', r1, r2, r3, r4, r5, r6⟩
      rw [← l8_append, l8_length] at r4
      refine ⟨rfl, h, all, [], ?_, rfl, rfl, by simp, rfl, Nat.le_refl _⟩
      rw [hall, List.append_nil]
      refine H.bytes h1 h2 (fun x hx => h3.lt hx) h4 h5 h6 h7 h8 h9 r1 r3 r4 ?_ ((f1.mono (fun _ _ h => h.elim)).trans r6 (fun _ _ h => h))
      rcases r5 with r5 | ⟨y, r5, hy⟩
      · exact .inl r5
      · exact .inr ⟨y, r5, by have := f1.size; omega⟩)
  have HH : Hid (hi ≤ w.heap.size ∧ (∀ x, S x → hi ≤ x) ∧ 432 * (h.length + all.length) ≤ 1099511627776) := ⟨by omega, H.hiS, by rw [hall]; exact hb⟩
  have HE : Hid (∀ wr, Fr S w wr → Env wr) := Hid.mk0 (fun wr f => hE.kept f (fun k hk hs => by have := H.hiS k hs; omega))
  rw [← hall]
  clear H hE hb hN hlt hall
  go_enter Tryz.func61, Tryz.ntmps61
  go_wp2_with (go_at_call 81; refine (HPU.out _ _).mono ?_; rintro e w1 ⟨rfl, hp⟩)
  have HP1 : Hid (PutAt w w1 hi bl bs cp B n ks h all R S (N + t.data.toList.length) all.length) := hp
  clear hp HPU
  go_loopg [14] all.length (fun g _ wr => Hid (PutAt w wr hi bl bs cp B n ks h all R S (N + t.data.toList.length) g))
  case atStart => exact HP1.out
  case round =>
    obtain ⟨h1, l1, d, k1, k2, k3, k4, k5, k6⟩ := hrel.out
    obtain ⟨cl, gb, S0, g1, g2, g3, _⟩ := k1.1.ex
    have HW : Hid (Calls Tryz.prog 83 #[.pointer (some ⟨bl, 0, none⟩)] wr fun e w' => ∃ v, e = .returned v ∧ Shows wr .u8 v gb (l8 l1) ∧ ∃ q, w' = wr.drewN q) := Q_wait_B g1 g3
    have hEr := HE.out wr k1.2
    have HFU : Hid (∀ v q, Shows wr .u8 v gb (l8 l1) → Calls Tryz.prog 82 #[v] (wr.drewN q) fun e w' => e = .returned (.bool (fullL l1)) ∧ Fr (fun _ => False) wr w') := Hid.mk0 (fun v q hv => by
      have hE' := hEr.kept ((Fr.refl (fun _ => False) wr).drewN q) (fun _ _ => id)
      refine (full_calls (w := wr.drewN q) (g := gb) hE'.utf8 hv).mono ?_
      rintro e w' ⟨rfl, hf⟩
      exact ⟨rfl, ((Fr.refl (fun _ => False) wr).drewN q).trans hf (fun _ _ h => h)⟩)
    have HK : Hid (LinLeft w wr hi bl bs cp B n ks h1 l1 false (R ++ d) S (N + t.data.toList.length) ∧ h1 ++ sure l1 = h ++ sure all ∧ left l1 = left all ∧ inAt ks false h1 n = inAt ks false h n ++ d ∧ l1.length = gk ∧ h1.length + l1.length ≤ h.length + all.length) := ⟨k1, k2, k3, k4, k5, k6⟩
    clear k1 k2 k3 k4 k5 k6 g1 g2 g3 hrel hEr
    cases hfl : fullL l1 with
    | true =>
      rw [hfl] at HFU
      have HFL : Hid (fullL l1 = true) := hfl
      clear hfl
      have HEB : Hid (∀ w2, Fr (fun _ => False) wr w2 → Calls Tryz.prog 84 #[.pointer (some ⟨bl, 0, none⟩)] w2 fun e w' => e = .returned (.tuple #[]) ∧ PutAt w w' hi bl bs cp B n ks h all R S (N + t.data.toList.length) (l1.drop (Lib.decodeL l1).2).length) := Hid.mk0 (fun w2 f2 => by
        obtain ⟨k1, k2, k3, k4, k5, k6⟩ := HK.out
        have hne := (full_iff.1 HFL.out).1
        have hpos : 0 < l1.length := List.length_pos_iff.2 hne
        have hk := LinLeft.trans k1.2 HH.out.1 HH.out.2.1 (k1.1.same f2)
        refine (enterBytes_calls hk.1 hne (HE.out w2 hk.2) (by have := HH.out.2.2; omega)).mono ?_
        rintro e w' ⟨rfl, hen⟩
        exact ⟨rfl, PutAt.next HH.out.1 HH.out.2.1 hk k2 k3 k4 k6 HFL.out hen⟩)
      go_wp2_with (first
        | (go_at_call 83; refine HW.out.mono ?_; rintro e w2 ⟨v, rfl, hv, q, rfl⟩)
        | (go_at_call 82; refine (HFU.out v q hv).mono ?_; rintro e w3 ⟨rfl, hf3⟩)
        | (go_at_call 84; refine (HEB.out _ hf3).mono ?_; rintro e w4 ⟨rfl, hp4⟩))
      go_roundg (l1.drop (Lib.decodeL l1).2).length
      case measure => have := drop_shorter HFL.out; have := HK.out.2.2.2.2.1; omega
      case rel => exact hp4
    | false =>
      rw [hfl] at HFU
      have HFL : Hid (fullL l1 = false) := hfl
      clear hfl
      go_wp2_with (first
        | (go_at_call 83; refine HW.out.mono ?_; rintro e w2 ⟨v, rfl, hv, q, rfl⟩)
        | (go_at_call 82; refine (HFU.out v q hv).mono ?_; rintro e w3 ⟨rfl, hf3⟩))
      go_end0
      obtain ⟨k1, k2, k3, k4, k5, k6⟩ := HK.out
      obtain ⟨s1, s2⟩ := sure_stop HFL.out
      rw [s1, List.append_nil] at k2
      rw [s2] at k3
      refine ⟨rfl, d, by rw [← k2]; exact k4, ?_⟩
      rw [← k2, ← k3]
      exact LinLeft.trans k1.2 HH.out.1 HH.out.2.1 (k1.1.same hf3)

end Go.Proofs.YtmhaknejeobfgaaGreatDoor

/- LineB3. -/
namespace Go.Proofs.YtmhaknejeobfgaaGreatDoor
open Go.RowKit Go.Proofs.YtmhaknejeobfgaaGreatDoor.Stable Go.Proofs.YtmhaknejeobfgaaGreatDoor.Order Go.Proofs.YtmhaknejeobfgaaGreatDoor.Points
attribute [local go_sem ↓] Go.wp_at_zero Go.wp_at_succ

/-- Where End's first loop stands. -/
def EndB (w wr : World) (hi bl bs cp B n : Nat) (ks : Nat → Bool × Bool) (h : List Int) (all : List UInt8) (R : List Int) (S : Nat → Prop) (N g : Nat) : Prop :=
  ∃ h1 l1 d, LinLeft w wr hi bl bs cp B n ks h1 l1 false (R ++ d) S N ∧ h1 ++ codes l1 = h ++ codes all ∧ inAt ks false h1 n = inAt ks false h n ++ d ∧ l1.length = g ∧ h1.length + l1.length ≤ h.length + all.length

theorem EndB.next {w wr w' : World} {hi bl bs cp B n : Nat} {ks : Nat → Bool × Bool} {h : List Int} {all : List UInt8} {R : List Int} {S : Nat → Prop} {N : Nat} {h1 : List Int} {l1 : List UInt8} {d : List Int} (hh : hi ≤ w.heap.size) (hS : ∀ x, S x → hi ≤ x) (k1 : LinLeft w wr hi bl bs cp B n ks h1 l1 false (R ++ d) S N) (k2 : h1 ++ codes l1 = h ++ codes all) (k4 : inAt ks false h1 n = inAt ks false h n ++ d) (k6 : h1.length + l1.length ≤ h.length + all.length) (hne : l1 ≠ [])
    (hen : Entered wr w' hi bl bs cp B n ks h1 (Lib.decodeL l1).1 (l1.drop (Lib.decodeL l1).2) (R ++ d) (fun x => S x ∨ w.heap.size ≤ x) N) : EndB w w' hi bl bs cp B n ks h all R S N (l1.drop (Lib.decodeL l1).2).length := by
  obtain ⟨d2, e1, hL⟩ := hen
  have hw := Lib.decodeL_width l1
  have hp : 0 < l1.length := List.length_pos_iff.2 hne
  refine ⟨h1 ++ [((Lib.decodeL l1).1 : Int)], l1.drop (Lib.decodeL l1).2, d ++ d2, ?_, ?_, ?_, rfl, ?_⟩
  · rw [← List.append_assoc]
    exact LinLeft.trans k1.2 hh hS hL
  · rw [← k2, codes_step l1 hne]
    simp
  · rw [e1, k4, List.append_assoc]
  · simp only [List.length_append, List.length_singleton, List.length_drop]
    omega

/-- What End leaves. -/
def EndLeaves (w w' : World) (hi bl bs cp B n : Nat) (ks : Nat → Bool × Bool) (h : List Int) (all : List UInt8) (R : List Int) (S : Nat → Prop) (N : Nat) : Prop :=
  ∃ d, inAt ks true (h ++ codes all) n = inAt ks false h n ++ d ∧ LinLeft w w' hi bl bs cp B n ks (h ++ codes all) [] true (R ++ d) S N

set_option maxRecDepth 100000 in
set_option maxHeartbeats 1600000 in
theorem lineEnd_calls {w : World} {hi bl bs cp B n : Nat} {ks : Nat → Bool × Bool} {h : List Int} {lb : List UInt8} {R : List Int} {S : Nat → Prop} {N : Nat} (H : Lin w hi bl bs cp B n ks h lb false R S N) (hE : Env w) (hg : 11 ≤ hi) (hb : 432 * (h.length + lb.length) ≤ 1099511627776) (hN : N ≤ 1099511627776) :
    Calls Tryz.prog 89 #[.pointer (some ⟨bl, 0, none⟩)] w fun e w' => e = .returned (.tuple #[]) ∧ EndLeaves w w' hi bl bs cp B n ks h lb R S N := by
  have hlt := H.lt
  have HB0 : Hid (EndB w w hi bl bs cp B n ks h lb R S N lb.length) := ⟨h, lb, [], by rw [List.append_nil]; exact H.same (Fr.refl _ _), rfl, by simp, rfl, Nat.le_refl _⟩
  have HH : Hid (hi ≤ w.heap.size ∧ (∀ x, S x → hi ≤ x) ∧ 432 * (h.length + lb.length) ≤ 1099511627776) := ⟨by omega, H.hiS, hb⟩
  have HE : Hid (∀ wr, Fr S w wr → Env wr) := Hid.mk0 (fun wr f => hE.kept f (fun k hk hs => by have := H.hiS k hs; omega))
  have HSN : Hid (Slim ks ∧ 0 < n) := ⟨H.sl, H.n0⟩
  have hn : n ≤ 3 := H.n3
  clear H hE hb hlt
  go_enter Tryz.func89, Tryz.ntmps89
  go_wp2
  go_loopg [7] lb.length (fun g _ wr => Hid (EndB w wr hi bl bs cp B n ks h lb R S N g))
  case atStart => exact HB0.out
  case round =>
    obtain ⟨h1, l1, d, k1, k2, k4, k5, k6⟩ := hrel.out
    obtain ⟨cl, gb, S0, g1, g2, g3, g4, g5, g6, g7, g8, g9⟩ := k1.1.ex
    have HLE : Hid (Calls Tryz.prog 111 #[.pointer (some ⟨bl, 0, none⟩)] wr fun e w' => e = .returned (.int .i64 l1.length) ∧ ∃ q, w' = wr.drewN q) := by
      have := Q_len_B g1 g3 hN
      rw [l8_length] at this
      exact this
    have HK : Hid (LinLeft w wr hi bl bs cp B n ks h1 l1 false (R ++ d) S N ∧ h1 ++ codes l1 = h ++ codes lb ∧ inAt ks false h1 n = inAt ks false h n ++ d ∧ l1.length = gk ∧ h1.length + l1.length ≤ h.length + lb.length) := ⟨k1, k2, k4, k5, k6⟩
    by_cases hne : l1 = []
    · have HG : Hid (wr.heap[bl]? = some (.cells cl 135 (0, 0)) ∧ cl[2]? = some (.slice (some ⟨bs, 0, none⟩) n cp) ∧ StsIn wr hi bs 106 B n ks (gotE ks (fun _ => false) h1) (fun _ => false) (restR n (R ++ d)) S0 ∧ ¬ S0 bl ∧ bl < wr.heap.size) := ⟨g1, g2, g5, g6, lt_of g1⟩
      have HFI : Hid (∀ w', (∃ D, inAt ks true h1 n = inAt ks false h1 n ++ D ∧ StsLeft wr w' hi bs 106 B n ks (gotE ks (fun _ => true) h1) (fun _ => true) (restR n ((R ++ d) ++ D)) S0) → EndLeaves w w' hi bl bs cp B n ks h lb R S N) := Hid.mk0 (fun w' hx => by
        obtain ⟨D, hD, hl⟩ := hx
        have e1 : h1 = h ++ codes lb := by
          rw [hne] at k2
          simpa [codes_nil] using k2
        refine ⟨d ++ D, by rw [← e1, hD, k4, List.append_assoc], ?_⟩
        rw [← e1, ← List.append_assoc]
        have hR' : ∀ x ∈ (R ++ d) ++ D, Valid x := fun x hx => by
          rcases List.mem_append.1 hx with hx | hx
          · exact k1.1.hR x hx
          · exact inAt_valid k1.1.hv n x (by rw [hD]; exact List.mem_append_right _ hx)
        have g3' := g3
        rw [hne] at g3' k1
        exact LinLeft.trans k1.2 HH.out.1 HH.out.2.1 (k1.1.entered g1 g2 g3' g4 g6 g7 g8 g9 hl k1.1.hv hR'))
      have HV : Hid ((∀ c ∈ h1, Valid c) ∧ (∀ c ∈ R ++ d, Valid c) ∧ 432 * h1.length ≤ 1099511627776) := ⟨k1.1.hv, k1.1.hR, by have := HH.out.2.2; omega⟩
      have c2 : wr.cell? ⟨bl, 2, none⟩ = some (.slice (some ⟨bs, 0, none⟩) n cp) := cell_of g1 g2
      have hz : (l1.length : Int) = 0 := by rw [hne]; rfl
      rw [hz] at HLE
      clear k1 k2 k4 k5 k6 g1 g2 g3 g4 g5 g6 g7 g8 g9 hne hz hrel HK
      generalize wr = wb at *
      go_wp2_with (go_at_call 111; refine HLE.out.mono ?_; rintro e w' ⟨rfl, q, rfl⟩)
      have hE0 := EndAt.start HG.out.2.2.1 ((Fr.refl (fun _ => False) wb).drewN q)
      have HE0 : Hid (EndAt wb (wb.drewN q) hi bs 106 B n ks h1 (R ++ d) 0 S0) := hE0
      clear hE0
      go_loopw [15] (fun vi wr => ∃ k : Nat, vi = .int .i64 k ∧ k ≤ n ∧ Hid (EndAt wb wr hi bs 106 B n ks h1 (R ++ d) k S0)) (fun vi _ => n - (intOf vi).toNat)
      case atStart => exact ⟨0, rfl, Nat.zero_le _, HE0.out⟩
      case round =>
        obtain ⟨k, rfl, hk, hh⟩ := hrel
        by_cases hlt : k < n
        · obtain ⟨Ls, rs, es, S1, s1, s2, s3, s4, s5, s6, s7, s8, s9, s10⟩ := hh.out.next HSN.out.1 hlt hn HV.out.1 HV.out.2.1 HV.out.2.2
          have i0 : (0 : Int) ≤ (k : Int) := by omega
          have i1 : (k : Int) < (n : Int) := by omega
          have cL2 : wr.cell? ⟨bl, 2, none⟩ = some (.slice (some ⟨bs, 0, none⟩) n cp) := s4.cell HG.out.2.2.2.1 HG.out.2.2.2.2 (cell_of HG.out.1 HG.out.2.1)
          have HK : Hid (StsIn wr hi bs 106 B n ks Ls es rs S1 ∧ Fr S0 wb wr ∧ es k = false ∧ 2 * (Ls k).length ≤ 1099511627776 ∧ (∀ x, S1 x → S0 x ∨ wb.heap.size ≤ x) ∧ (∀ x, S0 x → S1 x)) := ⟨s3, s4, s5, s6, s1, s2⟩
          obtain ⟨R1, hR1⟩ : ∃ R1, R1 = upd rs k (rs k ++ sortC clsOf (waitOf false (Ls k))) := ⟨_, rfl⟩
          rw [← hR1] at s7 s9 s10
          have HA : Hid (AllV Ls R1) := s7
          have H8 : Hid (∀ j, k < j → j < n → upd es k true j = false) := s8
          have H9 : Hid (∀ m, m ≤ n - 1 - k → ∀ j, j < n → 2 * ((passes ks k Ls R1 m).1 j).length ≤ 1099511627776) := s9
          have H10 : Hid (∀ w2, StsLeft wb w2 hi bs 106 B n ks (passes ks k Ls R1 (n - 1 - k)).1 (upd es k true) (passes ks k Ls R1 (n - 1 - k)).2 S0 → EndAt wb w2 hi bs 106 B n ks h1 (R ++ d) (k + 1) S0) := s10
          have HR1 : Hid (R1 = upd rs k (rs k ++ sortC clsOf (waitOf false (Ls k)))) := hR1
          clear s1 s2 s3 s4 s5 s6 s7 s8 s9 s10 hR1 hh
          go_wp2_with (first
            | (go_at_call 112; refine (stRelease HK.out.1 k hlt HK.out.2.2.1 HK.out.2.2.2.1 _ (Nat.mul_comm _ _)).mono ?_; rintro e w1 ⟨rfl, hl1⟩; rw [← HR1.out] at hl1; have HL1 : Hid (StsLeft wb w1 hi bs 106 B n ks Ls (upd es k true) R1 S0) := StsLeft.trans HK.out.2.1 ⟨hl1.1.mono (fun x h => h.elim (fun h => .inl (HK.out.2.2.2.2.1 x h)) (fun h => .inr h)), hl1.2.mono (fun x _ h => HK.out.2.2.2.2.1 x h)⟩; clear hl1)
            | (go_at_call 79; refine (handOn_calls HL1.out.1 bl cp (fun h => h.elim HG.out.2.2.2.1 (fun h => absurd HG.out.2.2.2.2 (by omega))) (Nat.lt_of_lt_of_le HG.out.2.2.2.2 HL1.out.2.size) (HL1.out.2.cell HG.out.2.2.2.1 HG.out.2.2.2.2 (cell_of HG.out.1 HG.out.2.1)) k hlt hn H8.out HA.out H9.out).mono ?_; rintro e w2 ⟨rfl, hl2⟩))
          exact ⟨⟨k + 1, by go_num, by omega, H10.out _ (.trans HL1.out.2 hl2)⟩, by simp [intOf]; omega⟩
        · obtain rfl : k = n := by omega
          go_wp2
          go_end0
          exact ⟨rfl, HFI.out _ hh.out.done⟩
    · have hpos : 0 < l1.length := List.length_pos_iff.2 hne
      have i0 : (0 : Int) < (l1.length : Int) := by omega
      have HNE : Hid (l1 ≠ []) := hne
      clear k1 k2 k4 k5 k6 g1 g2 g3 g4 g5 g6 g7 g8 g9 hne hrel
      have HEB : Hid (∀ w2, Fr (fun _ => False) wr w2 → Calls Tryz.prog 84 #[.pointer (some ⟨bl, 0, none⟩)] w2 fun e w' => e = .returned (.tuple #[]) ∧ EndB w w' hi bl bs cp B n ks h lb R S N (l1.drop (Lib.decodeL l1).2).length) := Hid.mk0 (fun w2 f2 => by
        obtain ⟨k1, k2, k4, k5, k6⟩ := HK.out
        have hk := LinLeft.trans k1.2 HH.out.1 HH.out.2.1 (k1.1.same f2)
        refine (enterBytes_calls hk.1 HNE.out (HE.out w2 hk.2) (by have := HH.out.2.2; omega)).mono ?_
        rintro e w' ⟨rfl, hen⟩
        exact ⟨rfl, EndB.next HH.out.1 HH.out.2.1 hk k2 k4 k6 HNE.out hen⟩)
      go_wp2_with (first
        | (go_at_call 111; refine HLE.out.mono ?_; rintro e w2 ⟨rfl, q, rfl⟩)
        | (go_at_call 84; refine (HEB.out _ ((Fr.refl _ _).drewN q)).mono ?_; rintro e w4 ⟨rfl, hp4⟩))
      go_roundg (l1.drop (Lib.decodeL l1).2).length
      case measure =>
        have hw := Lib.decodeL_width l1
        have := HK.out.2.2.2.1
        rw [List.length_drop]
        omega
      case rel => exact hp4

set_option maxRecDepth 100000 in
theorem linTake_calls {w : World} {hi bl bs cp B n : Nat} {ks : Nat → Bool × Bool} {h : List Int} {lb : List UInt8} {e : Bool} {R : List Int} {S : Nat → Prop} {N : Nat} (H : Lin w hi bl bs cp B n ks h lb e R S N) (hb : 432 * h.length ≤ 1099511627776) :
    Calls Tryz.prog 63 #[.pointer (some ⟨bl, 0, none⟩)] w fun e' w' => ∃ x ok, e' = .returned (.tuple #[.int .i32 x, .bool ok]) ∧ MidAt (.int .i32 x) (.bool ok) R ∧ LinLeft w w' hi bl bs cp B n ks h lb e R.tail S N := by
  obtain ⟨cl, gb, S0, g1, g2, g3, g4, g5, g6, g7, g8, g9⟩ := H.ex
  refine (lineTake_calls g5 ⟨cell_of g1 g2, lt_of g1⟩ g6 H.sl H.n0 H.n3 hb).mono ?_
  rintro e' w' ⟨x, ok, rfl, hm, hl⟩
  exact ⟨x, ok, rfl, hm, H.entered g1 g2 g3 g4 g6 g7 g8 g9 hl H.hv (fun c hc => H.hR c (List.mem_of_mem_tail hc))⟩

end Go.Proofs.YtmhaknejeobfgaaGreatDoor
