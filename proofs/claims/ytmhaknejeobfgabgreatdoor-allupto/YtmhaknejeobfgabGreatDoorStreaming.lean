/- Two readers of chunks, of which none touches the other's memory; what waited in a reader; the order of two forms as they come. The order of two sources as they come: the sign, or one of them gives up. A source that gives up: the panic is caught at the face, and told as an error. What Stream does within tillGivenUp: the sign, and what waited. Stream: two sources compared as they come. -/
import Derived.Test.YtmhaknejeobfgabGreatDoorChReads
import Derived.Test.YtmhaknejeobfgabGreatDoorComparing
import Derived.Defers
import Derived.Recover

/- StreamC1. -/
namespace Go.Proofs.YtmhaknejeobfgabGreatDoor
open Go.RowKit Go.Proofs.YtmhaknejeobfgabGreatDoor.Stable Go.Proofs.YtmhaknejeobfgabGreatDoor.Order Go.Proofs.YtmhaknejeobfgabGreatDoor.Points
attribute [local go_sem ↓] Go.wp_at_zero Go.wp_at_succ

theorem Lin.tight {w : World} {hi bl bs cp B n : Nat} {ks : Nat → Bool × Bool} {h : List Int} {lb : List UInt8} {e : Bool} {R : List Int} {S : Nat → Prop} {N : Nat} (H : Lin w hi bl bs cp B n ks h lb e R S N) : Lin w hi bl bs cp B n ks h lb e R (fun x => S x ∧ x < w.heap.size) N := by
  obtain ⟨cl, gb, S0, h1, h2, h3, h4, ⟨cs, gm, gr, k1, k2⟩, h6, h7, h8, h9⟩ := H.ex
  exact { H with ex := ⟨cl, gb, Own n bs gm gr, h1, h2, h3, h4, ⟨cs, gm, gr, k1, fun _ h => h⟩, fun h => h6 (k2 _ h), fun x hx => ⟨fun h => (h7 x hx).1 (k2 _ h), (h7 x hx).2, h3.lt hx⟩, fun x hx => ⟨h8 x (k2 x hx), k1.own_lt hx⟩, h9, lt_of h1⟩, hiS := fun x hx => H.hiS x hx.1 }

theorem RcM.tight {w : World} {hi br bc : Nat} {a : Option Addr} {cpl : Nat} {m : Int} {L : List Chk} {k : Nat} {e : Bool} {t : Nat} {T : Nat → Prop} (h : RcM w hi br bc a cpl m L k e t T) : RcM w hi br bc a cpl m L k e t (fun x => T x ∧ x < w.heap.size) := by
  obtain ⟨bl, bvr, bvs, bs, cp, B, R, S, N, tk, h1, h2, h3, t1, t2, t3, t4, t5⟩ := h
  exact ⟨bl, bvr, bvs, bs, cp, B, R, _, N, tk, { h1 with ln := h1.ln.tight, nS := ⟨fun h => h1.nS.1 h.1, fun h => h1.nS.2.1 h.1, fun h => h1.nS.2.2.1 h.1, fun h => h1.nS.2.2.2 h.1⟩ }, h2, h3, ⟨t1, lt_of h1.rd⟩, ⟨t2, lt_of h1.src.blk⟩, ⟨t3, lt_of h1.vr⟩, ⟨t4, lt_of h1.vs⟩, fun x hx => ⟨t5 x hx.1, hx.2⟩⟩

theorem RcM.reads {w : World} {hi br bc : Nat} {a : Option Addr} {cpl : Nat} {m : Int} {L : List Chk} {k : Nat} {e : Bool} {t : Nat} {T : Nat → Prop} (h : RcM w hi br bc a cpl m L k e t T) : w.cell? ⟨bc, 1, none⟩ = some (.int .i64 k) ∧ T bc := by
  obtain ⟨bl, bvr, bvs, bs, cp, B, R, S, N, tk, h1, h2, h3, t1, t2, t3, t4, t5⟩ := h
  exact ⟨cell_of h1.src.blk rfl, t2⟩

theorem rel_length {m : Int} (h0 : 0 ≤ m) (h3 : m ≤ 3) (L : List Chk) (k : Nat) (e : Bool) : (relOf m L k e).length ≤ roomOf L := by
  unfold relOf roomOf
  have h1 := gone_le L k e
  have h2 := take_le (L := L) k
  obtain ⟨i, hi, en⟩ : ∃ i, i < 3 ∧ stagesOf m = i + 1 := by
    rcases modes h0 h3 with rfl | rfl | rfl | rfl
    · exact ⟨0, by omega, rfl⟩
    · exact ⟨0, by omega, rfl⟩
    · exact ⟨1, by omega, rfl⟩
    · exact ⟨2, by omega, rfl⟩
  have h4 := slim_kindAt h0 h3 (fun _ => e) (goneIn L k e) i hi
  have h5 := out_length e (gotE (kindAt m) (fun _ => e) (goneIn L k e) i)
  rw [← inE_const, en, inE_succ]
  omega

theorem RcM.room {w : World} {hi br bc : Nat} {a : Option Addr} {cpl : Nat} {m : Int} {L : List Chk} {k : Nat} {e : Bool} {t : Nat} {T : Nat → Prop} (h : RcM w hi br bc a cpl m L k e t T) (h0 : 0 ≤ m) (h3 : m ≤ 3) : t ≤ roomOf L := by
  obtain ⟨bl, bvr, bvs, bs, cp, B, R, S, N, tk, h1, h2, h5, _⟩ := h
  have := rel_length h0 h3 L k e
  rw [h2, List.length_append] at this
  omega

set_option maxRecDepth 100000 in
theorem stHeld_calls {w : World} {bs o : Nat} {k : Nat} (h : w.cell? ⟨bs, o + 5, none⟩ = some (.int .i64 k)) :
    Calls Tryz.prog 91 #[.pointer (some ⟨bs, o, none⟩)] w fun e w' => e = .returned (.int .i64 k) ∧ w' = w := by
  go_enter Tryz.func91, Tryz.ntmps91
  go_wp2
  go_ret
  exact ⟨rfl, rfl⟩

set_option maxRecDepth 100000 in
theorem lineHeld_calls {w : World} {hi bl bs cp B n : Nat} {ks : Nat → Bool × Bool} {h : List Int} {lb : List UInt8} {e : Bool} {R : List Int} {S : Nat → Prop} {N : Nat} (H : Lin w hi bl bs cp B n ks h lb e R S N) :
    Calls Tryz.prog 65 #[.pointer (some ⟨bl, 0, none⟩)] w fun e' w' => e' = .returned (.int .i64 (mostOf ks e h n)) ∧ w' = w := by
  obtain ⟨cl, gb, S0, h1, h2, h3, h4, ⟨cs, gm, gr, k1, k2⟩, _⟩ := H.ex
  have c2 : w.cell? ⟨bl, 2, none⟩ = some (.slice (some ⟨bs, 0, none⟩) n cp) := cell_of h1 h2
  have hn := H.n3
  have HC : Hid (∀ i, i < n → w.cell? ⟨bs, i * 8 + 5, none⟩ = some (.int .i64 (heldOf (gotE ks (fun _ => e) h i)))) := Hid.mk0 (fun i hi => by
    obtain ⟨M, hS, _⟩ := k1.st i hi
    have := cell_of k1.blk hS.c5
    rwa [Nat.mul_comm] at this)
  clear h1 h2 h3 h4 k1 k2 H
  go_enter Tryz.func65, Tryz.ntmps65
  go_wp2
  go_loopw [3, 10] (fun vm vi wr => ∃ k : Nat, vi = .int .i64 k ∧ vm = .int .i64 (mostOf ks e h k) ∧ k ≤ n ∧ wr = w) (fun _ vi _ => n - (intOf vi).toNat)
  case atStart => exact ⟨0, rfl, rfl, Nat.zero_le _, rfl⟩
  case round =>
    obtain ⟨k, rfl, rfl, hk, hw⟩ := hrel
    have hw' := hw.symm
    subst hw'
    clear hw
    by_cases hlt : k < n
    · have i0 : (0 : Int) ≤ (k : Int) := by omega
      have i1 : (k : Int) < (n : Int) := by omega
      obtain ⟨z, hz⟩ : ∃ z, z = mostOf ks e h k := ⟨_, rfl⟩
      obtain ⟨y, hy⟩ : ∃ y, y = heldOf (gotE ks (fun _ => e) h k) := ⟨_, rfl⟩
      have ck := HC.out k hlt
      rw [← hy] at ck
      rw [← hz]
      have HZ : Hid (z = mostOf ks e h k ∧ y = heldOf (gotE ks (fun _ => e) h k)) := ⟨hz, hy⟩
      clear hz hy
      go_wp2_with (go_at_call 91; refine (stHeld_calls ck).mono ?_; rintro e' w1 ⟨rfl, hw1⟩; have hw1' := hw1.symm; subst hw1'; clear hw1)
      refine ⟨⟨k + 1, by go_num, ?_, by omega, trivial⟩, by simp [intOf]; omega⟩
      rw [mostOf, ← HZ.out.1, ← HZ.out.2]
      congr 1
      simp only [Int.max_def, Nat.max_def]
      split <;> split <;> omega
    · obtain rfl : k = n := by omega
      go_wp2
      go_ret
      exact ⟨rfl, rfl⟩

set_option maxRecDepth 100000 in
theorem rdHeld_calls {w : World} {hi br bc : Nat} {a : Option Addr} {cpl : Nat} {m : Int} {L : List Chk} {k : Nat} {e : Bool} {t : Nat} {T : Nat → Prop} (H : RcM w hi br bc a cpl m L k e t T) :
    Calls Tryz.prog 38 #[.pointer (some ⟨br, 0, none⟩)] w fun e' w' => e' = .returned (.int .i64 (heldAt m L k e)) ∧ w' = w := by
  obtain ⟨bl, bvr, bvs, bs, cp, B, R, S, N, tk, h1, _⟩ := H
  have c1 : w.cell? ⟨br, 1, none⟩ = some (.pointer (some ⟨bl, 0, none⟩)) := cell_of h1.rd rfl
  have HL : Hid (Calls Tryz.prog 65 #[.pointer (some ⟨bl, 0, none⟩)] w fun e' w' => e' = .returned (.int .i64 (heldAt m L k e)) ∧ w' = w) := lineHeld_calls h1.ln
  clear h1
  go_enter Tryz.func38, Tryz.ntmps38
  go_wp2_with (go_at_call 65; refine HL.out.mono ?_; rintro e' w1 ⟨rfl, hw1⟩; have hw1' := hw1.symm; subst hw1'; clear hw1)
  go_ret
  exact ⟨rfl, rfl⟩

end Go.Proofs.YtmhaknejeobfgabGreatDoor

/- StreamC2. -/
namespace Go.Proofs.YtmhaknejeobfgabGreatDoor
open Go.RowKit Go.Proofs.YtmhaknejeobfgabGreatDoor.Stable Go.Proofs.YtmhaknejeobfgabGreatDoor.Order Go.Proofs.YtmhaknejeobfgabGreatDoor.Points
attribute [local go_sem ↓] Go.wp_at_zero Go.wp_at_succ

/-- A reader's names: its block, its source's, the list's place. -/
structure RN where
  br : Nat
  bc : Nat
  a : Option Addr
  cp : Nat
  L : List Chk

/-- A reader of that name, at a state. -/
abbrev RN.At (x : RN) (w : World) (hi : Nat) (m : Int) (k : Nat) (e : Bool) (t : Nat) (T : Nat → Prop) : Prop := RcM w hi x.br x.bc x.a x.cp m x.L k e t T

/-- Two readers, of which none touches the other's memory. -/
def PairC (X : Nat → Prop) (w wr : World) (hi : Nat) (m : Int) (x y : RN) (ka : Nat) (ea : Bool) (ta kb : Nat) (eb : Bool) (tb : Nat) : Prop :=
  ∃ Ta Tb, x.At wr hi m ka ea ta Ta ∧ y.At wr hi m kb eb tb Tb ∧ (∀ z, Ta z → ¬ Tb z) ∧ (∀ z, Ta z ∨ Tb z → z < wr.heap.size ∧ (X z ∨ w.heap.size ≤ z) ∧ hi ≤ z) ∧ Fr X w wr ∧ hi ≤ wr.heap.size

theorem PairC.swap {X : Nat → Prop} {w wr : World} {hi : Nat} {m : Int} {x y : RN} {ka : Nat} {ea : Bool} {ta kb : Nat} {eb : Bool} {tb : Nat} (h : PairC X w wr hi m x y ka ea ta kb eb tb) : PairC X w wr hi m y x kb eb tb ka ea ta := by
  obtain ⟨Ta, Tb, p1, p2, p3, p4, p5, p6⟩ := h
  exact ⟨Tb, Ta, p2, p1, fun z hz hy => p3 z hy hz, fun z hz => p4 z hz.symm, p5, p6⟩

/-- What a Fetch of the first leaves of the two. -/
def FetchedP (X : Nat → Prop) (w w1 : World) (hi : Nat) (m : Int) (x y : RN) (ta kb : Nat) (eb : Bool) (tb : Nat) (F : Ft) (en : Ending) : Prop :=
  (F.err = 0 ∧ en = .returned (.int .i32 F.c) ∧ PairC X w w1 hi m x y F.k F.e (if F.c = -1 then ta else ta + 1) kb eb tb) ∨ (F.err ≠ 0 ∧ en = .panicked [{ v := upV F.err, recovered := false }] ∧ w1.cell? ⟨x.bc, 1, none⟩ = some (.int .i64 F.k) ∧ w1.cell? ⟨y.bc, 1, none⟩ = some (.int .i64 kb) ∧ Fr X w w1)

theorem fetchCA {X : Nat → Prop} {w wr : World} {hi : Nat} {m : Int} {x y : RN} {ka : Nat} {ea : Bool} {ta kb : Nat} {eb : Bool} {tb : Nat} (H : PairC X w wr hi m x y ka ea ta kb eb tb) :
    Calls Tryz.prog 49 #[.pointer (some ⟨x.br, 0, none⟩)] wr fun en w1 => FetchedP X w w1 hi m x y ta kb eb tb (fetchP m x.L ta ka ea) en := by
  obtain ⟨Ta, Tb, p1, p2, p3, p4, p5, p6⟩ := H
  refine (fetchC_calls p1).mono ?_
  rintro en w1 ⟨hd, f⟩
  have hs := f.size
  have hw := p5.size
  have hlow : ∀ z, z < hi → ¬ Ta z := fun z hz h => by have := (p4 z (.inl h)).2.2; omega
  have q2 := p2.kept f (fun z hz h => p3 z h hz) hlow
  have hfw : Fr X w w1 := p5.trans f (fun i hi h => by
    rcases (p4 i (.inl h)).2.1 with h | h
    · exact h
    · omega)
  rcases hd with ⟨h1, h2, h3⟩ | ⟨h1, h2, h3⟩
  · refine .inl ⟨h1, h2, _, Tb, h3.tight, q2, fun z hz hy => ?_, fun z hz => ?_, hfw, by omega⟩
    · rcases hz.1 with h | h
      · exact p3 z h hy
      · have := (p4 z (.inr hy)).1; omega
    · rcases hz with hz | hz
      · refine ⟨hz.2, ?_⟩
        rcases hz.1 with h | h
        · exact (p4 z (.inl h)).2
        · exact ⟨.inr (by omega), by omega⟩
      · have := p4 z (.inr hz)
        exact ⟨by omega, this.2⟩
  · exact .inr ⟨h1, h2, h3, q2.reads.1, hfw⟩

theorem fetchCB {X : Nat → Prop} {w wr : World} {hi : Nat} {m : Int} {x y : RN} {ka : Nat} {ea : Bool} {ta kb : Nat} {eb : Bool} {tb : Nat} (H : PairC X w wr hi m x y ka ea ta kb eb tb) :
    Calls Tryz.prog 49 #[.pointer (some ⟨y.br, 0, none⟩)] wr fun en w1 => FetchedP X w w1 hi m y x tb ka ea ta (fetchP m y.L tb kb eb) en := fetchCA H.swap

/-- How order ends, of two sources that compare as G. -/
def OrderEnds (X : Nat → Prop) (w w' : World) (hi : Nat) (m : Int) (x y : RN) (G : Cmp) (en : Ending) : Prop :=
  (G.err = 0 ∧ en = .returned (.int .i64 G.sign) ∧ ∃ ea ta eb tb, PairC X w w' hi m x y G.ra ea ta G.rb eb tb ∧ G.ha = heldAt m x.L G.ra ea ∧ G.hb = heldAt m y.L G.rb eb) ∨
  (G.err ≠ 0 ∧ en = .panicked [{ v := upV G.err, recovered := false }] ∧ G.sign = 0 ∧ G.ha = 0 ∧ G.hb = 0 ∧ w'.cell? ⟨x.bc, 1, none⟩ = some (.int .i64 G.ra) ∧ w'.cell? ⟨y.bc, 1, none⟩ = some (.int .i64 G.rb) ∧ Fr X w w')

set_option maxRecDepth 100000 in
set_option maxHeartbeats 3200000 in
theorem orderC_calls {Z : Nat → Prop} {w0 w : World} {hi : Nat} {m : Int} {x y : RN} (h0 : 0 ≤ m) (h3 : m ≤ 3) (_ : x.br ≠ y.br) (H : PairC Z w0 w hi m x y 0 false 0 0 false 0) :
    Calls Tryz.prog 35 #[.pointer (some ⟨x.br, 0, none⟩), .pointer (some ⟨y.br, 0, none⟩)] w fun en w' => OrderEnds Z w0 w' hi m x y (strm m x.L y.L) en := by
  obtain ⟨G, hG⟩ : ∃ G, G = strm m x.L y.L := ⟨_, rfl⟩
  rw [← hG]
  have HP : Hid (PairC Z w0 w hi m x y 0 false 0 0 false 0 ∧ G = strm m x.L y.L ∧ 0 ≤ m ∧ m ≤ 3) := ⟨H, hG, h0, h3⟩
  obtain ⟨ba, hba⟩ : ∃ b, b = x.br := ⟨_, rfl⟩
  obtain ⟨bb, hbb⟩ : ∃ b, b = y.br := ⟨_, rfl⟩
  rw [← hba, ← hbb]
  have HBA : Hid (ba = x.br ∧ bb = y.br) := ⟨hba, hbb⟩
  clear H hG h0 h3 hba hbb
  go_enter Tryz.func35, Tryz.ntmps35
  go_wp2
  go_loopg [5, 6] (roomOf x.L + 1) (fun g _ _ wr => Hid (∃ ka ea kb eb t, PairC Z w0 wr hi m x y ka ea t kb eb t ∧ G = strmG m x.L y.L g ka ea kb eb t ∧ g + t = roomOf x.L + 1))
  case atStart => exact ⟨0, false, 0, false, 0, HP.out.1, HP.out.2.1, rfl⟩
  case round =>
    obtain ⟨ka, ea, kb, eb, t, hP, hG, hgt⟩ := hrel.out
    have htr : t ≤ roomOf x.L := by
      obtain ⟨Ta, Tb, p1, _⟩ := hP
      exact p1.room HP.out.2.2.1 HP.out.2.2.2
    obtain ⟨g', rfl⟩ : ∃ g', gk = g' + 1 := ⟨gk - 1, by omega⟩
    rw [strmG] at hG
    obtain ⟨X, hX⟩ : ∃ X, X = fetchP m x.L t ka ea := ⟨_, rfl⟩
    obtain ⟨Y, hY⟩ : ∃ Y, Y = fetchP m y.L t kb eb := ⟨_, rfl⟩
    rw [← hX, ← hY] at hG
    have HFA : Hid (Calls Tryz.prog 49 #[.pointer (some ⟨ba, 0, none⟩)] wr fun en w1 => FetchedP Z w0 w1 hi m x y t kb eb t X en) := by
      rw [HBA.out.1, hX]
      exact fetchCA hP
    have HFB : Hid (∀ w1 ka ea ta, PairC Z w0 w1 hi m x y ka ea ta kb eb t → Calls Tryz.prog 49 #[.pointer (some ⟨bb, 0, none⟩)] w1 fun en w2 => FetchedP Z w0 w2 hi m y x t ka ea ta Y en) := Hid.mk0 (fun w1 ka ea ta h => by
      rw [HBA.out.2, hY]
      exact fetchCB h)
    have HGT : Hid (g' + 1 + t = roomOf x.L + 1) := hgt
    clear hP hX hY hgt htr hrel
    by_cases hxe : X.err = 0
    · rw [if_neg (by rw [hxe]; simp)] at hG
      by_cases hye : Y.err = 0
      · rw [if_neg (by rw [hye]; simp)] at hG
        have HA2 : Hid (Calls Tryz.prog 49 #[.pointer (some ⟨ba, 0, none⟩)] wr fun en w1 => en = .returned (.int .i32 X.c) ∧ PairC Z w0 w1 hi m x y X.k X.e (if X.c = -1 then t else t + 1) kb eb t) := by
          refine HFA.out.mono ?_
          rintro en w1 (⟨_, h2, h3⟩ | ⟨h1, _⟩)
          · exact ⟨h2, h3⟩
          · exact absurd hxe h1
        have HB2 : Hid (∀ w1, PairC Z w0 w1 hi m x y X.k X.e (if X.c = -1 then t else t + 1) kb eb t → Calls Tryz.prog 49 #[.pointer (some ⟨bb, 0, none⟩)] w1 fun en w2 => en = .returned (.int .i32 Y.c) ∧ PairC Z w0 w2 hi m x y X.k X.e (if X.c = -1 then t else t + 1) Y.k Y.e (if Y.c = -1 then t else t + 1)) := Hid.mk0 (fun w1 h => by
          refine (HFB.out w1 _ _ _ h).mono ?_
          rintro en w2 (⟨_, h2, h3⟩ | ⟨h1, _⟩)
          · exact ⟨h2, h3.swap⟩
          · exact absurd hye h1)
        obtain ⟨c, hc⟩ : ∃ c, c = X.c := ⟨_, rfl⟩
        obtain ⟨d, hd⟩ : ∃ d, d = Y.c := ⟨_, rfl⟩
        rw [← hc, ← hd] at hG HB2
        rw [← hc] at HA2
        have HG : Hid (G = if c = d ∧ c ≠ -1 then strmG m x.L y.L g' X.k X.e Y.k Y.e (t + 1) else ⟨signOf c d, X.k, Y.k, heldAt m x.L X.k X.e, heldAt m y.L Y.k Y.e, 0⟩) := hG
        clear HFA HFB hxe hye hc hd hG
        by_cases hgo : c = d ∧ c ≠ -1
        · have b1 : (c != d) = false := by rw [bne_eq_false_iff_eq]; exact hgo.1
          have b2 : (c == -1) = false := by rw [beq_eq_false_iff_ne]; exact hgo.2
          have HGO : Hid (c = d ∧ c ≠ -1) := hgo
          clear hgo
          go_wp2_with (first
            | (go_at_call_of 49 (Value.pointer (some ⟨ba, 0, none⟩)); refine HA2.out.mono ?_; rintro e w1 ⟨rfl, h1⟩)
            | (go_at_call_of 49 (Value.pointer (some ⟨bb, 0, none⟩)); refine (HB2.out _ h1).mono ?_; rintro e w2 ⟨rfl, h2⟩))
          go_roundg g'
          case measure => omega
          case rel =>
            have hG := HG.out
            rw [if_pos HGO.out] at hG
            have := HGT.out
            rw [if_neg HGO.out.2, if_neg (by rw [← HGO.out.1]; exact HGO.out.2)] at h2
            exact ⟨_, _, _, _, t + 1, h2, hG, by omega⟩
        · have hG2 := HG.out
          rw [if_neg hgo] at hG2
          have HG2 : Hid (G = ⟨signOf c d, X.k, Y.k, heldAt m x.L X.k X.e, heldAt m y.L Y.k Y.e, 0⟩) := hG2
          have HEN : Hid (∀ w2, PairC Z w0 w2 hi m x y X.k X.e (if c = -1 then t else t + 1) Y.k Y.e (if d = -1 then t else t + 1) → OrderEnds Z w0 w2 hi m x y G (.returned (.int .i64 (sgn c d)))) := Hid.mk0 (fun w2 h2 => by
            rw [hG2]
            exact .inl ⟨rfl, rfl, _, _, _, _, h2, rfl, rfl⟩)
          have hcd : c ≠ d ∨ c = -1 := by
            by_cases h : c = d
            · right
              by_cases h2 : c = -1
              · exact h2
              · exact absurd ⟨h, h2⟩ hgo
            · exact .inl h
          by_cases hne : c = d
          · have b1 : (c != d) = false := by rw [bne_eq_false_iff_eq]; exact hne
            have b2 : (c == -1) = true := by
              rw [beq_iff_eq]
              rcases hcd with h | h
              · exact absurd hne h
              · exact h
            clear hne hcd hgo hG2 HG
            go_wp2_with (first
              | (go_at_call_of 49 (Value.pointer (some ⟨ba, 0, none⟩)); refine HA2.out.mono ?_; rintro e w1 ⟨rfl, h1⟩)
              | (go_at_call_of 49 (Value.pointer (some ⟨bb, 0, none⟩)); refine (HB2.out _ h1).mono ?_; rintro e w2 ⟨rfl, h2⟩)
              | (go_at_call 64; refine (cmpRune_calls c d _).mono ?_; rintro e w3 ⟨rfl, hw⟩; have hw' := hw.symm; subst hw'; clear hw))
            go_ret
            exact HEN.out _ h2
          · have b1 : (c != d) = true := by rw [bne_iff_ne]; exact hne
            clear hne hcd hgo hG2 HG
            go_wp2_with (first
              | (go_at_call_of 49 (Value.pointer (some ⟨ba, 0, none⟩)); refine HA2.out.mono ?_; rintro e w1 ⟨rfl, h1⟩)
              | (go_at_call_of 49 (Value.pointer (some ⟨bb, 0, none⟩)); refine (HB2.out _ h1).mono ?_; rintro e w2 ⟨rfl, h2⟩)
              | (go_at_call 64; refine (cmpRune_calls c d _).mono ?_; rintro e w3 ⟨rfl, hw⟩; have hw' := hw.symm; subst hw'; clear hw))
            go_ret
            exact HEN.out _ h2
      · rw [if_pos hye] at hG
        have HG : Hid (G = ⟨0, X.k, Y.k, 0, 0, Y.err⟩ ∧ Y.err ≠ 0) := ⟨hG, hye⟩
        have HA2 : Hid (Calls Tryz.prog 49 #[.pointer (some ⟨ba, 0, none⟩)] wr fun en w1 => en = .returned (.int .i32 X.c) ∧ PairC Z w0 w1 hi m x y X.k X.e (if X.c = -1 then t else t + 1) kb eb t) := by
          refine HFA.out.mono ?_
          rintro en w1 (⟨_, h2, h3⟩ | ⟨h1, _⟩)
          · exact ⟨h2, h3⟩
          · exact absurd hxe h1
        have HB2 : Hid (∀ w1, PairC Z w0 w1 hi m x y X.k X.e (if X.c = -1 then t else t + 1) kb eb t → Calls Tryz.prog 49 #[.pointer (some ⟨bb, 0, none⟩)] w1 fun en w2 => en = .panicked [{ v := upV Y.err, recovered := false }] ∧ w2.cell? ⟨y.bc, 1, none⟩ = some (.int .i64 Y.k) ∧ w2.cell? ⟨x.bc, 1, none⟩ = some (.int .i64 X.k) ∧ Fr Z w0 w2) := Hid.mk0 (fun w1 h => by
          refine (HFB.out w1 _ _ _ h).mono ?_
          rintro en w2 (⟨h1, _⟩ | ⟨_, h2⟩)
          · exact absurd h1 hye
          · exact h2)
        clear HFA HFB hxe hye hG
        go_wp2_with (first
          | (go_at_call_of 49 (Value.pointer (some ⟨ba, 0, none⟩)); refine HA2.out.mono ?_; rintro e w1 ⟨rfl, h1⟩)
          | (go_at_call_of 49 (Value.pointer (some ⟨bb, 0, none⟩)); refine (HB2.out _ h1).mono ?_; rintro e w2 ⟨rfl, h2, h3, h4⟩))
        refine ⟨rfl, ?_⟩
        rw [HG.out.1]
        exact .inr ⟨HG.out.2, rfl, rfl, rfl, rfl, h3, h2, h4⟩
    · rw [if_pos hxe] at hG
      have HG : Hid (G = ⟨0, X.k, kb, 0, 0, X.err⟩ ∧ X.err ≠ 0) := ⟨hG, hxe⟩
      have HA2 : Hid (Calls Tryz.prog 49 #[.pointer (some ⟨ba, 0, none⟩)] wr fun en w1 => en = .panicked [{ v := upV X.err, recovered := false }] ∧ w1.cell? ⟨x.bc, 1, none⟩ = some (.int .i64 X.k) ∧ w1.cell? ⟨y.bc, 1, none⟩ = some (.int .i64 kb) ∧ Fr Z w0 w1) := by
        refine HFA.out.mono ?_
        rintro en w1 (⟨h1, _⟩ | ⟨_, h2⟩)
        · exact absurd h1 hxe
        · exact h2
      clear HFA HFB hxe hG
      go_wp2_with (go_at_call_of 49 (Value.pointer (some ⟨ba, 0, none⟩)); refine HA2.out.mono ?_; rintro e w1 ⟨rfl, h2, h3, h4⟩)
      refine ⟨rfl, ?_⟩
      rw [HG.out.1]
      exact .inr ⟨HG.out.2, rfl, rfl, rfl, rfl, h2, h3, h4⟩

end Go.Proofs.YtmhaknejeobfgabGreatDoor

/- Till1. -/
namespace Go.Proofs.YtmhaknejeobfgabGreatDoor
open Go.RowKit Go.Proofs.YtmhaknejeobfgabGreatDoor.Stable Go.Proofs.YtmhaknejeobfgabGreatDoor.Order Go.Proofs.YtmhaknejeobfgabGreatDoor.Points
attribute [local go_sem ↓] Go.wp_at_zero Go.wp_at_succ

set_option maxRecDepth 100000 in
theorem reason_calls (er : Int) (w : World) :
    Calls Tryz.prog 61 #[upV er] w fun e w' => e = .returned (.int .i64 er) ∧ w' = w.alloc (.cells #[.int .i64 er] 153) := by
  have hta : ∀ (v : Value) (w : World), (Instr.typeAssert (.iface 153 v) 20 153 true).run Tryz.prog w = .ok (.tuple #[v, .bool true]) w := fun v w => by kernel_rfl
  unfold upV
  go_enter Tryz.func61, Tryz.ntmps61
  go_wp2
  go_ret
  exact ⟨rfl, rfl⟩

set_option maxRecDepth 100000 in
/-- The deferred closure, entered by a frame that panics. -/
theorem catch_panicking (b : Nat) (x er : Int) (older : List PanicEntry) (w : World) (hc : w.cell? ⟨b, 0, none⟩ = some (.int .i64 x)) (hz : w.frozen? ⟨b, 0, none⟩ = false) :
    CallsD Tryz.prog 60 #[.pointer (some ⟨b, 0, none⟩)] (.panicking ({ v := upV er, recovered := false } :: older)) w fun e u' w' =>
      e = .returned (.tuple #[]) ∧ u' = .panicking ({ v := upV er, recovered := true } :: older) ∧ w' = (w.setCell ⟨b, 0, none⟩ (.int .i64 er)).alloc (.cells #[.int .i64 er] 153) := by
  have hlt : b < w.heap.size := block_lt_of_cell hc
  have hne : ∀ w, (binOp .neq 20 (upV er) .nilIface).run Tryz.prog w = .ok (.bool true) w := fun w => by kernel_rfl
  have hgu : ∀ w, (eqGuard .neq 20 (Operand.tmp 3) (Operand.const Value.nilIface) (upV er) Value.nilIface).run Tryz.prog w = .ok () w := fun w => by kernel_rfl
  have hc1 : (w.alloc (.cells #[.int .i64 er] 153)).cell? ⟨b, 0, none⟩ = some (.int .i64 x) := (World.cell?_of_block (w := w) (a := ⟨b, 0, none⟩) (Below.heap_alloc w _ b hlt)).trans hc
  refine callsD_of_wpS Tryz.func60 rfl fun c₀ cs hu => ?_
  apply wpS_seq
  apply wpS_region
  simp [wpOpsS, go_sem, recoverD, hu, Tryz.ntmps60, Exit.thenS]
  refine wpS_of_wp ?_
  change Code.wp Tryz.prog _ _ { tmps := #[.pointer (some ⟨b, 0, none⟩), upV er, upV er, undef, undef, undef, undef], defers := [] } w
  go_wp2_with (go_at_call 61; refine (reason_calls er _).mono ?_; rintro e w1 ⟨rfl, hw⟩)
  clear hw
  simp [bodyPostS, results, Tryz.results60]

set_option maxRecDepth 100000 in
/-- The deferred closure, entered by a frame that returns. -/
theorem catch_idle (b : Nat) (w : World) :
    CallsD Tryz.prog 60 #[.pointer (some ⟨b, 0, none⟩)] .returning w fun e u' w' => e = .returned (.tuple #[]) ∧ u' = .returning ∧ w' = w := by
  have hne : ∀ w, (binOp .neq 20 .nilIface .nilIface).run Tryz.prog w = .ok (.bool false) w := fun w => by kernel_rfl
  have hgu : ∀ w, (eqGuard .neq 20 (Operand.tmp 3) (Operand.const Value.nilIface) .nilIface Value.nilIface).run Tryz.prog w = .ok () w := fun w => by kernel_rfl
  refine callsD_of_wpS Tryz.func60 rfl fun c₀ cs hu => ?_
  apply wpS_seq
  apply wpS_region
  simp [wpOpsS, go_sem, recoverD, hu, Tryz.ntmps60, Exit.thenS]
  refine wpS_of_wp ?_
  change Code.wp Tryz.prog _ _ { tmps := #[.pointer (some ⟨b, 0, none⟩), .nilIface, .nilIface, undef, undef, undef, undef], defers := [] } w
  go_wp2
  cases c₀
  simp_all [bodyPostS, results, Tryz.results60]

set_option maxRecDepth 100000 in
/-- What is done does not panic. -/
theorem till_ok {fn : Nat} {caps : Array Value} {w : World} {Q : World → Prop} (hen : ∀ (args : Array Value) (w : World), (callFunc fn args).run Tryz.prog w = .ok (.enter fn args) w)
    (hcall : Calls Tryz.prog fn caps (w.alloc (.cells #[.int .i64 0] 24)) fun e w' => e = .returned (.tuple #[]) ∧ (∃ x, w'.cell? ⟨w.heap.size, 0, none⟩ = some (.int .i64 x)) ∧ w'.frozen? ⟨w.heap.size, 0, none⟩ = false ∧ Q w') :
    Calls Tryz.prog 27 #[.func (.func fn) #[] caps] w fun e w' => e = .returned (.int .i64 0) ∧ ∃ w1, Q w1 ∧ w' = w1.setCell ⟨w.heap.size, 0, none⟩ (.int .i64 0) := by
  have hmf : ∀ (fn : Fn) (first cap : Array Value) (w : World), (Instr.makeFunc fn first cap).run Tryz.prog w = .ok (.func fn first cap) w := fun _ _ _ _ => rfl
  have HC : Hid (Calls Tryz.prog fn caps (w.alloc (.cells #[.int .i64 0] 24)) fun e w' => e = .returned (.tuple #[]) ∧ (∃ x, w'.cell? ⟨w.heap.size, 0, none⟩ = some (.int .i64 x)) ∧ w'.frozen? ⟨w.heap.size, 0, none⟩ = false ∧ Q w') := hcall
  clear hcall
  go_enter_defers Tryz.func27, Tryz.ntmps27
  go_wp2_with fail
  refine HC.out.mono ?_
  rintro e w1 ⟨rfl, ⟨x, hc⟩, hz, hq⟩
  go_wp2
  refine leaves_cons (f := 60) (args := #[.pointer (some ⟨w.heap.size, 0, none⟩)]) (by simp) (by simp [go_sem]) ?_
  refine (catch_idle w.heap.size _).mono ?_
  rintro e u' w2 ⟨rfl, rfl, rfl⟩
  have hs : (w1.setCell ⟨w.heap.size, 0, none⟩ (.int .i64 0)).cell? ⟨w.heap.size, 0, none⟩ = some (.int .i64 0) := World.cell?_setCell_same _ _ _ hc
  simp [Leaves, settle, results, Tryz.results27, go_sem, hs]
  exact ⟨w1, hq, rfl⟩

set_option maxRecDepth 100000 in
/-- A source gives up in what is done. -/
theorem till_no {fn : Nat} {caps : Array Value} {w : World} {Q : World → Prop} {er : Int} (hen : ∀ (args : Array Value) (w : World), (callFunc fn args).run Tryz.prog w = .ok (.enter fn args) w)
    (hcall : Calls Tryz.prog fn caps (w.alloc (.cells #[.int .i64 0] 24)) fun e w' => e = .panicked [{ v := upV er, recovered := false }] ∧ (∃ x, w'.cell? ⟨w.heap.size, 0, none⟩ = some (.int .i64 x)) ∧ w'.frozen? ⟨w.heap.size, 0, none⟩ = false ∧ Q w') :
    Calls Tryz.prog 27 #[.func (.func fn) #[] caps] w fun e w' => e = .returned (.int .i64 er) ∧ ∃ w1, Q w1 ∧ w' = (w1.setCell ⟨w.heap.size, 0, none⟩ (.int .i64 er)).alloc (.cells #[.int .i64 er] 153) := by
  have hmf : ∀ (fn : Fn) (first cap : Array Value) (w : World), (Instr.makeFunc fn first cap).run Tryz.prog w = .ok (.func fn first cap) w := fun _ _ _ _ => rfl
  have HC : Hid (Calls Tryz.prog fn caps (w.alloc (.cells #[.int .i64 0] 24)) fun e w' => e = .panicked [{ v := upV er, recovered := false }] ∧ (∃ x, w'.cell? ⟨w.heap.size, 0, none⟩ = some (.int .i64 x)) ∧ w'.frozen? ⟨w.heap.size, 0, none⟩ = false ∧ Q w') := hcall
  clear hcall
  go_enter_defers Tryz.func27, Tryz.ntmps27
  go_wp2_with fail
  refine HC.out.mono ?_
  rintro e w1 ⟨rfl, ⟨x, hc⟩, hz, hq⟩
  refine leaves_cons (f := 60) (args := #[.pointer (some ⟨w.heap.size, 0, none⟩)]) (by simp) (by simp [go_sem]) ?_
  refine (catch_panicking w.heap.size x er [] _ hc hz).mono ?_
  rintro e u' w2 ⟨rfl, rfl, rfl⟩
  have hlt : w.heap.size < w1.heap.size := block_lt_of_cell hc
  have hs : (w1.setCell ⟨w.heap.size, 0, none⟩ (.int .i64 er)).cell? ⟨w.heap.size, 0, none⟩ = some (.int .i64 er) := World.cell?_setCell_same _ _ _ hc
  have hs2 : ((w1.setCell ⟨w.heap.size, 0, none⟩ (.int .i64 er)).alloc (.cells #[.int .i64 er] 153)).cell? ⟨w.heap.size, 0, none⟩ = some (.int .i64 er) := (World.cell?_of_block (w := w1.setCell ⟨w.heap.size, 0, none⟩ (.int .i64 er)) (a := ⟨w.heap.size, 0, none⟩) (Below.heap_alloc _ _ _ (by rw [size_set]; exact hlt))).trans hs
  simp [Leaves, settle, results, Tryz.results27, go_sem, hs2]
  exact ⟨w1, hq, rfl⟩

end Go.Proofs.YtmhaknejeobfgabGreatDoor

/- StreamC3. -/
namespace Go.Proofs.YtmhaknejeobfgabGreatDoor
open Go.RowKit Go.Proofs.YtmhaknejeobfgabGreatDoor.Stable Go.Proofs.YtmhaknejeobfgabGreatDoor.Order Go.Proofs.YtmhaknejeobfgabGreatDoor.Points
attribute [local go_sem ↓] Go.wp_at_zero Go.wp_at_succ

/-- An outcome in memory. -/
def outC (s ra rb ha hb : Int) : Obj := .cells #[.int .i64 s, .int .i64 ra, .int .i64 rb, .int .i64 ha, .int .i64 hb] 38 (0, 0)

/-- The variables that the closure holds: two readers, an outcome that is zero. -/
structure Held3 (X : Nat → Prop) (w : World) (hi : Nat) (x y : RN) (vA vB vo : Nat) : Prop where
  fa : w.heap[vA]? = some (.cells #[.pointer (some ⟨x.br, 0, none⟩)] 69 (0, 0))
  fb : w.heap[vB]? = some (.cells #[.pointer (some ⟨y.br, 0, none⟩)] 69 (0, 0))
  fo : w.heap[vo]? = some (outC 0 0 0 0 0)
  nX : ¬ X vA ∧ ¬ X vB ∧ ¬ X vo
  ne : vo ≠ vA ∧ vo ≠ vB
  hio : hi ≤ vo
  hxy : x.br ≠ y.br

/-- What it leaves, of two sources that compare as G. -/
def Strm1 (X : Nat → Prop) (w w' : World) (x y : RN) (vo : Nat) (G : Cmp) : Prop :=
  (w'.heap[vo]? = some (outC G.sign 0 0 G.ha G.hb)) ∧ w'.cell? ⟨x.bc, 1, none⟩ = some (.int .i64 G.ra) ∧ w'.cell? ⟨y.bc, 1, none⟩ = some (.int .i64 G.rb) ∧ Fr (fun z => X z ∨ z = vo) w w'

set_option maxRecDepth 100000 in
theorem strm1_no {X : Nat → Prop} {w : World} {hi : Nat} {m : Int} {x y : RN} {vA vB vo : Nat} (h0 : 0 ≤ m) (h3 : m ≤ 3) (hh : Held3 X w hi x y vA vB vo) (H : PairC X w w hi m x y 0 false 0 0 false 0) (he : (strm m x.L y.L).err ≠ 0) :
    Calls Tryz.prog 37 #[.pointer (some ⟨vA, 0, none⟩), .pointer (some ⟨vB, 0, none⟩), .pointer (some ⟨vo, 0, none⟩)] w fun en w' => en = .panicked [{ v := upV (strm m x.L y.L).err, recovered := false }] ∧ Strm1 X w w' x y vo (strm m x.L y.L) := by
  have cA : w.cell? ⟨vA, 0, none⟩ = some (.pointer (some ⟨x.br, 0, none⟩)) := cell_of hh.fa rfl
  have cB : w.cell? ⟨vB, 0, none⟩ = some (.pointer (some ⟨y.br, 0, none⟩)) := cell_of hh.fb rfl
  obtain ⟨G, hG⟩ : ∃ G, G = strm m x.L y.L := ⟨_, rfl⟩
  rw [← hG] at he ⊢
  have HO : Hid (Calls Tryz.prog 35 #[.pointer (some ⟨x.br, 0, none⟩), .pointer (some ⟨y.br, 0, none⟩)] w fun en w' => en = .panicked [{ v := upV G.err, recovered := false }] ∧ Strm1 X w w' x y vo G) := by
    refine (orderC_calls h0 h3 hh.hxy H).mono ?_
    rw [← hG]
    rintro en w' (⟨h1, _⟩ | ⟨_, h2, s1, s2, s3, r1, r2, f⟩)
    · exact absurd h1 he
    · refine ⟨h2, ?_, r1, r2, f.mono (fun _ _ h => .inl h)⟩
      rw [s1, s2, s3]
      exact (f.block vo (lt_of hh.fo) hh.nX.2.2).trans hh.fo
  obtain ⟨ba, hba⟩ : ∃ b, b = x.br := ⟨_, rfl⟩
  obtain ⟨bb, hbb⟩ : ∃ b, b = y.br := ⟨_, rfl⟩
  rw [← hba] at cA
  rw [← hbb] at cB
  rw [← hba, ← hbb] at HO
  clear h0 h3 hh H he hG hba hbb
  go_enter Tryz.func37, Tryz.ntmps37
  go_wp2_with (go_at_call 35; refine HO.out.mono ?_; rintro e w1 ⟨rfl, h⟩)
  exact ⟨rfl, rfl, h⟩

set_option maxRecDepth 100000 in
set_option maxHeartbeats 1600000 in
theorem strm1_ok {X : Nat → Prop} {w : World} {hi : Nat} {m : Int} {x y : RN} {vA vB vo : Nat} (h0 : 0 ≤ m) (h3 : m ≤ 3) (hh : Held3 X w hi x y vA vB vo) (H : PairC X w w hi m x y 0 false 0 0 false 0) (he : (strm m x.L y.L).err = 0) :
    Calls Tryz.prog 37 #[.pointer (some ⟨vA, 0, none⟩), .pointer (some ⟨vB, 0, none⟩), .pointer (some ⟨vo, 0, none⟩)] w fun en w' => en = .returned (.tuple #[]) ∧ Strm1 X w w' x y vo (strm m x.L y.L) := by
  have cA : w.cell? ⟨vA, 0, none⟩ = some (.pointer (some ⟨x.br, 0, none⟩)) := cell_of hh.fa rfl
  have cB : w.cell? ⟨vB, 0, none⟩ = some (.pointer (some ⟨y.br, 0, none⟩)) := cell_of hh.fb rfl
  obtain ⟨G, hG⟩ : ∃ G, G = strm m x.L y.L := ⟨_, rfl⟩
  rw [← hG] at he ⊢
  obtain ⟨ba, hba⟩ : ∃ b, b = x.br := ⟨_, rfl⟩
  obtain ⟨bb, hbb⟩ : ∃ b, b = y.br := ⟨_, rfl⟩
  have HO : Hid (Calls Tryz.prog 35 #[.pointer (some ⟨ba, 0, none⟩), .pointer (some ⟨bb, 0, none⟩)] w fun en w1 => en = .returned (.int .i64 G.sign) ∧ w1.heap[vo]? = some (outC 0 0 0 0 0) ∧ w1.heap[vA]? = some (.cells #[.pointer (some ⟨ba, 0, none⟩)] 69 (0, 0)) ∧ w1.heap[vB]? = some (.cells #[.pointer (some ⟨bb, 0, none⟩)] 69 (0, 0)) ∧ Fr X w w1 ∧ ∀ w2, Fr (fun z => z = vo) w1 w2 → (Calls Tryz.prog 38 #[.pointer (some ⟨ba, 0, none⟩)] w2 fun e' w' => e' = .returned (.int .i64 G.ha) ∧ w' = w2) ∧ (Calls Tryz.prog 38 #[.pointer (some ⟨bb, 0, none⟩)] w2 fun e' w' => e' = .returned (.int .i64 G.hb) ∧ w' = w2) ∧ w2.cell? ⟨x.bc, 1, none⟩ = some (.int .i64 G.ra) ∧ w2.cell? ⟨y.bc, 1, none⟩ = some (.int .i64 G.rb)) := by
    rw [hba, hbb]
    refine (orderC_calls h0 h3 hh.hxy H).mono ?_
    rw [← hG]
    rintro en w1 (⟨_, h2, ea, ta, eb, tb, ⟨Ta, Tb, p1, p2, p3, p4, p5, p6⟩, e1, e2⟩ | ⟨h1, _⟩)
    · refine ⟨h2, (p5.block vo (lt_of hh.fo) hh.nX.2.2).trans hh.fo, (p5.block vA (lt_of hh.fa) hh.nX.1).trans hh.fa, (p5.block vB (lt_of hh.fb) hh.nX.2.1).trans hh.fb, p5, fun w2 f2 => ?_⟩
      have hvo : ∀ z, Ta z ∨ Tb z → z ≠ vo := fun z hz e => by
        subst e
        rcases (p4 _ hz).2.1 with h | h
        · exact hh.nX.2.2 h
        · have := lt_of hh.fo; omega
      have hlow : ∀ z, z < hi → ¬ z = vo := fun z hz e => by have := hh.hio; omega
      have q1 := p1.kept f2 (fun z hz => hvo z (.inl hz)) hlow
      have q2 := p2.kept f2 (fun z hz => hvo z (.inr hz)) hlow
      rw [e1, e2]
      exact ⟨rdHeld_calls q1, rdHeld_calls q2, q1.reads.1, q2.reads.1⟩
    · exact absurd he h1
  rw [← hba] at cA
  rw [← hbb] at cB
  have hab : ba ≠ bb := by rw [hba, hbb]; exact hh.hxy
  have hlt := lt_of hh.fo
  have hne := hh.ne
  clear h0 h3 hh H he hG hba hbb
  go_enter Tryz.func37, Tryz.ntmps37
  go_wp2_with (go_at_call 35; refine HO.out.mono ?_; rintro e w1 ⟨rfl, k1, k2, k3, k4, k5⟩; have c0 : w1.cell? ⟨vo, 0, none⟩ = some (.int .i64 0) := cell_of k1 rfl; have f0 : ∀ o, w1.frozen? ⟨vo, o, none⟩ = false := frozen_of k1; have HK : Hid (w1.heap[vo]? = some (outC 0 0 0 0 0) ∧ Fr X w w1) := ⟨k1, k4⟩; have HK2 : Hid (∀ w2, Fr (fun z => z = vo) w1 w2 → (Calls Tryz.prog 38 #[.pointer (some ⟨ba, 0, none⟩)] w2 fun e' w' => e' = .returned (.int .i64 G.ha) ∧ w' = w2) ∧ (Calls Tryz.prog 38 #[.pointer (some ⟨bb, 0, none⟩)] w2 fun e' w' => e' = .returned (.int .i64 G.hb) ∧ w' = w2) ∧ w2.cell? ⟨x.bc, 1, none⟩ = some (.int .i64 G.ra) ∧ w2.cell? ⟨y.bc, 1, none⟩ = some (.int .i64 G.rb)) := k5; have HAB : Hid (w1.heap[vA]? = some (.cells #[.pointer (some ⟨ba, 0, none⟩)] 69 (0, 0)) ∧ w1.heap[vB]? = some (.cells #[.pointer (some ⟨bb, 0, none⟩)] 69 (0, 0))) := ⟨k2, k3⟩; clear k1 k2 k3 k4 k5)
  have hW1 : (w1.setCell ⟨vo, 0, none⟩ (.int .i64 G.sign)).heap[vo]? = some (outC G.sign 0 0 0 0) := by
    have := set_of HK.out.1 0 (.int .i64 G.sign)
    unfold outC
    simpa using this
  have hW2 : Fr (fun z => z = vo) w1 (w1.setCell ⟨vo, 0, none⟩ (.int .i64 G.sign)) := (Fr.refl _ _).setCell ⟨vo, 0, none⟩ _ (fun _ => rfl)
  generalize w1.setCell ⟨vo, 0, none⟩ (.int .i64 G.sign) = W at *
  have eA : W.cell? ⟨vA, 0, none⟩ = some (.pointer (some ⟨ba, 0, none⟩)) := cell_of ((hW2.block vA (lt_of HAB.out.1) (Ne.symm hne.1)).trans HAB.out.1) rfl
  have eB : W.cell? ⟨vB, 0, none⟩ = some (.pointer (some ⟨bb, 0, none⟩)) := cell_of ((hW2.block vB (lt_of HAB.out.2) (Ne.symm hne.2)).trans HAB.out.2) rfl
  have e3 : W.cell? ⟨vo, 3, none⟩ = some (.int .i64 0) := cell_of hW1 rfl
  have e4 : W.cell? ⟨vo, 4, none⟩ = some (.int .i64 0) := cell_of hW1 rfl
  have fW : ∀ o, W.frozen? ⟨vo, o, none⟩ = false := frozen_of hW1
  have HHA : Hid (∀ q, Calls Tryz.prog 38 #[.pointer (some ⟨ba, 0, none⟩)] (W.drewN q) fun e' w' => e' = .returned (.int .i64 G.ha) ∧ w' = W.drewN q) := Hid.mk0 (fun q => (HK2.out _ (hW2.drewN q)).1)
  have HHB : Hid (∀ q, Calls Tryz.prog 38 #[.pointer (some ⟨bb, 0, none⟩)] (W.drewN q) fun e' w' => e' = .returned (.int .i64 G.hb) ∧ w' = W.drewN q) := Hid.mk0 (fun q => (HK2.out _ (hW2.drewN q)).2.1)
  have HEND : Hid (∀ q, Strm1 X w ((((W.setCell ⟨vo, 3, none⟩ (.int .i64 G.ha)).setCell ⟨vo, 4, none⟩ (.int .i64 G.hb))).drewN q) x y vo G) := Hid.mk0 (fun q => by
    have g1 := set_of (set_of hW1 3 (.int .i64 G.ha)) 4 (.int .i64 G.hb)
    have g2 : Fr (fun z => z = vo) w1 ((((W.setCell ⟨vo, 3, none⟩ (.int .i64 G.ha)).setCell ⟨vo, 4, none⟩ (.int .i64 G.hb))).drewN q) := ((hW2.setCell ⟨vo, 3, none⟩ _ (fun _ => rfl)).setCell ⟨vo, 4, none⟩ _ (fun _ => rfl)).drewN q
    obtain ⟨_, _, g3, g4⟩ := HK2.out _ g2
    refine ⟨?_, g3, g4, (HK.out.2.mono (S' := fun z => X z ∨ z = vo) (fun _ _ h => .inl h)).trans g2 (fun _ _ h => .inr h)⟩
    show ((W.setCell ⟨vo, 3, none⟩ (.int .i64 G.ha)).setCell ⟨vo, 4, none⟩ (.int .i64 G.hb)).heap[vo]? = _
    unfold outC
    simpa using g1)
  clear hW1 hW2 HK HK2 HAB HO
  go_region_with (first
    | (go_at_call_of 38 (Value.pointer (some ⟨ba, 0, none⟩)); refine (HHA.out 1).mono ?_; rintro e w2 ⟨rfl, hw⟩; have hw' := hw.symm; subst hw'; clear hw)
    | (go_at_call_of 38 (Value.pointer (some ⟨bb, 0, none⟩)); refine (HHB.out 1).mono ?_; rintro e w2 ⟨rfl, hw⟩; have hw' := hw.symm; subst hw'; clear hw))
  all_goals
    go_end0
    exact ⟨rfl, HEND.out 1⟩

end Go.Proofs.YtmhaknejeobfgabGreatDoor

/- StreamC4. -/
namespace Go.Proofs.YtmhaknejeobfgabGreatDoor
open Go.RowKit Go.Proofs.YtmhaknejeobfgabGreatDoor.Stable Go.Proofs.YtmhaknejeobfgabGreatDoor.Order Go.Proofs.YtmhaknejeobfgabGreatDoor.Points
attribute [local go_sem ↓] Go.wp_at_zero Go.wp_at_succ

theorem PairC.up {X : Nat → Prop} {w w' : World} {hi : Nat} {m : Int} {x y : RN} {ka : Nat} {ea : Bool} {ta kb : Nat} {eb : Bool} {tb : Nat} (h : PairC X w w hi m x y ka ea ta kb eb tb) (f : Fr (fun _ => False) w w') : PairC X w' w' hi m x y ka ea ta kb eb tb := by
  obtain ⟨Ta, Tb, p1, p2, p3, p4, p5, p6⟩ := h
  have hs := f.size
  refine ⟨Ta, Tb, p1.kept f (fun _ _ => id) (fun _ _ => id), p2.kept f (fun _ _ => id) (fun _ _ => id), p3, fun z hz => ?_, Fr.refl _ _, by omega⟩
  obtain ⟨q1, q2, q3⟩ := p4 z hz
  exact ⟨by omega, .inl (q2.elim id (fun h => by omega)), q3⟩

theorem Held3.up {X : Nat → Prop} {w w' : World} {hi : Nat} {x y : RN} {vA vB vo : Nat} (h : Held3 X w hi x y vA vB vo) (f : Fr (fun _ => False) w w') : Held3 X w' hi x y vA vB vo :=
  { h with fa := (f.block vA (lt_of h.fa) id).trans h.fa, fb := (f.block vB (lt_of h.fb) id).trans h.fb, fo := (f.block vo (lt_of h.fo) id).trans h.fo }

/-- All that is done within tillGivenUp. -/
theorem tillS_calls {X : Nat → Prop} {w : World} {hi : Nat} {m : Int} {x y : RN} {vA vB vo : Nat} (h0 : 0 ≤ m) (h3 : m ≤ 3) (hh : Held3 X w hi x y vA vB vo) (H : PairC X w w hi m x y 0 false 0 0 false 0) (hX : ∀ z, X z → z < w.heap.size) :
    Calls Tryz.prog 27 #[.func (.func 37) #[] #[.pointer (some ⟨vA, 0, none⟩), .pointer (some ⟨vB, 0, none⟩), .pointer (some ⟨vo, 0, none⟩)]] w fun e w' => e = .returned (.int .i64 (strm m x.L y.L).err) ∧ Strm1 X w w' x y vo (strm m x.L y.L) := by
  have f0 : Fr (fun _ => False) w (w.alloc (.cells #[.int .i64 0] 24)) := (Fr.refl _ _).alloc _
  have hn : (w.alloc (.cells #[.int .i64 0] 24)).heap[w.heap.size]? = some (.cells #[.int .i64 0] 24 (0, 0)) := heap_alloc_new w _
  have hvo := lt_of hh.fo
  have hen : ∀ (args : Array Value) (w : World), (callFunc 37 args).run Tryz.prog w = .ok (.enter 37 args) w := fun args w => by kernel_rfl
  obtain ⟨G, hG⟩ : ∃ G, G = strm m x.L y.L := ⟨_, rfl⟩
  have blk : ∀ w', Strm1 X (w.alloc (.cells #[.int .i64 0] 24)) w' x y vo G → w'.heap[w.heap.size]? = some (.cells #[.int .i64 0] 24 (0, 0)) := fun w' h => (h.2.2.2.block w.heap.size (lt_of hn) (fun e => by
    rcases e with e | e
    · have := hX _ e; omega
    · omega)).trans hn
  have fin : ∀ w1 w' : World, Strm1 X (w.alloc (.cells #[.int .i64 0] 24)) w1 x y vo G → Fr (fun z => z = w.heap.size) w1 w' → w1.heap[x.bc]? = w'.heap[x.bc]? → w1.heap[y.bc]? = w'.heap[y.bc]? → Strm1 X w w' x y vo G := fun w1 w' h f k1 k2 => by
    have hl1 : vo < w1.heap.size := lt_of h.1
    refine ⟨(f.block vo hl1 (by omega)).trans h.1, ?_, ?_, ?_⟩
    · exact (World.cell?_of_block (w := w1) (a := ⟨x.bc, 1, none⟩) k1.symm).trans h.2.1
    · exact (World.cell?_of_block (w := w1) (a := ⟨y.bc, 1, none⟩) k2.symm).trans h.2.2.1
    · exact ((f0.mono (S' := fun z => X z ∨ z = vo) (fun _ _ h => h.elim)).trans h.2.2.2 (fun _ _ h => h)).trans f (fun i hi h => by omega)
  have hbc : x.bc < w.heap.size ∧ y.bc < w.heap.size := by
    obtain ⟨Ta, Tb, p1, p2, p3, p4, _⟩ := H
    exact ⟨(p4 _ (.inl p1.reads.2)).1, (p4 _ (.inr p2.reads.2)).1⟩
  by_cases he : (strm m x.L y.L).err = 0
  · have hc := strm1_ok h0 h3 (hh.up f0) (H.up f0) he
    rw [← hG] at hc he ⊢
    refine (till_ok (Q := fun w' => Strm1 X (w.alloc (.cells #[.int .i64 0] 24)) w' x y vo G) hen (hc.mono ?_)).mono ?_
    · rintro e w' ⟨rfl, h⟩
      exact ⟨rfl, ⟨0, cell_of (blk w' h) rfl⟩, frozen_of (blk w' h) 0, h⟩
    · rintro e w' ⟨rfl, w1, h, rfl⟩
      refine ⟨by rw [he], fin w1 _ h ((Fr.refl _ _).setCell ⟨w.heap.size, 0, none⟩ _ (fun _ => rfl)) ?_ ?_⟩
      · rw [set_other (by omega)]
      · rw [set_other (by omega)]
  · have hc := strm1_no h0 h3 (hh.up f0) (H.up f0) he
    rw [← hG] at hc he ⊢
    refine (till_no (er := G.err) (Q := fun w' => Strm1 X (w.alloc (.cells #[.int .i64 0] 24)) w' x y vo G) hen (hc.mono ?_)).mono ?_
    · rintro e w' ⟨rfl, h⟩
      exact ⟨rfl, ⟨0, cell_of (blk w' h) rfl⟩, frozen_of (blk w' h) 0, h⟩
    · rintro e w' ⟨rfl, w1, h, rfl⟩
      have hl : w.heap.size < w1.heap.size := lt_of (blk w1 h)
      refine ⟨rfl, fin w1 _ h (((Fr.refl (fun z => z = w.heap.size) _).setCell ⟨w.heap.size, 0, none⟩ _ (fun _ => rfl)).alloc _) ?_ ?_⟩
      · rw [Below.heap_alloc _ _ _ (by rw [size_set]; omega), set_other (by omega)]
      · rw [Below.heap_alloc _ _ _ (by rw [size_set]; omega), set_other (by omega)]

set_option maxRecDepth 100000 in
theorem stream_none (m : Int) (a1 a2 : Option Addr) (n1 c1 n2 c2 : Nat) (w : World) (h : m < 0 ∨ 3 < m) :
    Calls Tryz.prog 16 #[.int .i64 m, .slice a1 n1 c1, .slice a2 n2 c2] w fun e w' => e = .returned (.tuple #[.agg #[.int .i64 0, .int .i64 0, .int .i64 0, .int .i64 0, .int .i64 0], .int .i64 1]) ∧ Fr (fun _ => False) w w' := by
  have HM : Hid (m < 0 ∨ 3 < m) := h
  clear h
  go_enter Tryz.func16, Tryz.ntmps16
  go_wp2_with (go_at_call 24; refine (of_none m _ HM.out).mono ?_; rintro e w' ⟨rfl, hw⟩; have hw' := hw.symm; subst hw'; clear hw)
  try simp only [Exit.inBlock, Exit.then]
  refine bodyPost_ret (v := .tuple #[.agg #[.int .i64 0, .int .i64 0, .int .i64 0, .int .i64 0, .int .i64 0], .int .i64 1]) ?_ rfl ⟨rfl, (Fr.refl _ _).alloc _⟩
  simp [results, Tryz.results16, go_sem]

/-- A source that has just been made. -/
theorem src_new {w : World} {hi : Nat} {a : Option Addr} {cp : Nat} {L : List Chk} (h : ChunksIn w hi a L) (hl : L.length ≤ 1099511627776) (hh : hi ≤ w.heap.size) : Src (w.alloc (.cells #[.slice a L.length cp, .int .i64 0, .int .i64 0] 119)) hi w.heap.size a cp L 0 := by
  have f : Fr (fun _ => False) w (w.alloc (.cells #[.slice a L.length cp, .int .i64 0, .int .i64 0] 119)) := (Fr.refl _ _).alloc _
  exact ⟨h.kept f (fun _ _ => id), heap_alloc_new w _, Nat.zero_le _, hl, hh⟩

theorem ChunksIn.mono {w : World} {hi hi' : Nat} {a : Option Addr} {L : List Chk} (h : ChunksIn w hi a L) (hh : hi ≤ hi') : ChunksIn w hi' a L := fun j c hj => by
  obtain ⟨b, off, h1, h2, h3⟩ := h j c hj
  exact ⟨b, off, h1, by omega, h3⟩

/-- All stands ready for the comparison. -/
theorem ready {w3 w4 w5 : World} {hi ca cb bra brb c1 c2 : Nat} {a1 a2 : Option Addr} {m : Int} {A B : List Chk} (q4 : RcM w4 hi bra ca a1 c1 m A 0 false 0 (fun x => x = ca ∨ w3.heap.size ≤ x)) (f34 : Fr (fun _ => False) w3 w4) (q5 : RcM w5 hi brb cb a2 c2 m B 0 false 0 (fun x => x = cb ∨ w4.heap.size ≤ x)) (f45 : Fr (fun _ => False) w4 w5) (hbrb : w4.heap.size ≤ brb) (hca : ca < w3.heap.size) (hcb : cb < w3.heap.size) (hne : ca ≠ cb) (hhi : hi ≤ ca ∧ hi ≤ cb ∧ hi ≤ w3.heap.size) :
    ∃ X : Nat → Prop, (∀ z, X z → z < w5.heap.size ∧ hi ≤ z) ∧ Held3 X (((w5.alloc (.cells #[.pointer (some ⟨bra, 0, none⟩)] 69)).alloc (.cells #[.pointer (some ⟨brb, 0, none⟩)] 69)).alloc (outC 0 0 0 0 0)) hi ⟨bra, ca, a1, c1, A⟩ ⟨brb, cb, a2, c2, B⟩ w5.heap.size (w5.heap.size + 1) (w5.heap.size + 1 + 1) ∧ PairC X (((w5.alloc (.cells #[.pointer (some ⟨bra, 0, none⟩)] 69)).alloc (.cells #[.pointer (some ⟨brb, 0, none⟩)] 69)).alloc (outC 0 0 0 0 0)) (((w5.alloc (.cells #[.pointer (some ⟨bra, 0, none⟩)] 69)).alloc (.cells #[.pointer (some ⟨brb, 0, none⟩)] 69)).alloc (outC 0 0 0 0 0)) hi m ⟨bra, ca, a1, c1, A⟩ ⟨brb, cb, a2, c2, B⟩ 0 false 0 0 false 0 ∧ Fr (fun _ => False) w5 (((w5.alloc (.cells #[.pointer (some ⟨bra, 0, none⟩)] 69)).alloc (.cells #[.pointer (some ⟨brb, 0, none⟩)] 69)).alloc (outC 0 0 0 0 0)) := by
  have s34 := f34.size
  have s45 := f45.size
  have hbra : bra < w4.heap.size := by
    obtain ⟨bl, bvr, bvs, bs, cp, Bt, R, S, N, tk, h1, _⟩ := q4
    exact lt_of h1.rd
  obtain ⟨w6, hw6⟩ : ∃ w6, w6 = w5.alloc (.cells #[.pointer (some ⟨bra, 0, none⟩)] 69) := ⟨_, rfl⟩
  rw [← hw6]
  obtain ⟨w7, hw7⟩ : ∃ w7, w7 = w6.alloc (.cells #[.pointer (some ⟨brb, 0, none⟩)] 69) := ⟨_, rfl⟩
  rw [← hw7]
  obtain ⟨w8, hw8⟩ : ∃ w8, w8 = w7.alloc (outC 0 0 0 0 0) := ⟨_, rfl⟩
  rw [← hw8]
  have s6 : w6.heap.size = w5.heap.size + 1 := by rw [hw6]; simp
  have s7 : w7.heap.size = w5.heap.size + 2 := by rw [hw7]; simp [s6]
  have s8 : w8.heap.size = w5.heap.size + 3 := by rw [hw8]; simp [s7]
  have r6 : w6.heap[w5.heap.size]? = some (.cells #[.pointer (some ⟨bra, 0, none⟩)] 69 (0, 0)) := by rw [hw6]; exact heap_alloc_new w5 _
  have r7 : w7.heap[w5.heap.size + 1]? = some (.cells #[.pointer (some ⟨brb, 0, none⟩)] 69 (0, 0)) := by rw [hw7, ← s6]; exact heap_alloc_new w6 _
  have r8 : w8.heap[w5.heap.size + 1 + 1]? = some (outC 0 0 0 0 0) := by rw [hw8, show w5.heap.size + 1 + 1 = w7.heap.size by omega]; exact heap_alloc_new w7 _
  have f67 : Fr (fun _ => False) w6 w7 := by rw [hw7]; exact (Fr.refl _ _).alloc _
  have f78 : Fr (fun _ => False) w7 w8 := by rw [hw8]; exact (Fr.refl _ _).alloc _
  have f58 : Fr (fun _ => False) w5 w8 := by rw [hw8, hw7, hw6]; exact (((Fr.refl _ _).alloc _).alloc _).alloc _
  have f48 := f45.trans f58 (fun _ _ h => h)
  refine ⟨fun z => (z = ca ∨ z = cb ∨ w3.heap.size ≤ z) ∧ z < w5.heap.size, fun z hz => ⟨hz.2, by omega⟩, ⟨(f78.block _ (by omega) id).trans ((f67.block _ (by omega) id).trans r6), (f78.block _ (by omega) id).trans r7, r8, ⟨by omega, by omega, by omega⟩, ⟨by omega, by omega⟩, by omega, fun e => ?_⟩, ⟨_, _, q4.tight.kept f48 (fun _ _ => id) (fun _ _ => id), q5.tight.kept f58 (fun _ _ => id) (fun _ _ => id), fun z hz hy => ?_, fun z hz => ?_, Fr.refl _ _, by omega⟩, f58⟩
  · have e' : bra = brb := e
    omega
  · omega
  · refine ⟨by omega, .inl ⟨by omega, by omega⟩, by omega⟩

set_option maxRecDepth 100000 in
set_option maxHeartbeats 3200000 in
theorem stream_calls (m : Int) (a1 a2 : Option Addr) (c1 c2 : Nat) (A B : List Chk) (w : World) (h0 : 0 ≤ m) (h3 : m ≤ 3) (hE : Env w) (hA : ChunksIn w w.heap.size a1 A) (hB : ChunksIn w w.heap.size a2 B) (lA : A.length ≤ 1099511627776) (lB : B.length ≤ 1099511627776) (bA : 432 * (bytesOf A).length ≤ 1099511627776) (bB : 432 * (bytesOf B).length ≤ 1099511627776) :
    Calls Tryz.prog 16 #[.int .i64 m, .slice a1 A.length c1, .slice a2 B.length c2] w fun e w' => e = .returned (.tuple #[.agg #[.int .i64 (strm m A B).sign, .int .i64 (strm m A B).ra, .int .i64 (strm m A B).rb, .int .i64 (strm m A B).ha, .int .i64 (strm m A B).hb], .int .i64 (strm m A B).err]) ∧ Fr (fun _ => False) w w' := by
  have hmf : ∀ (fn : Fn) (first cap : Array Value) (w : World), (Instr.makeFunc fn first cap).run Tryz.prog w = .ok (.func fn first cap) w := fun _ _ _ _ => rfl
  have HM : Hid (0 ≤ m ∧ m ≤ 3) := ⟨h0, h3⟩
  have HE : Hid (Env w) := hE
  have HA : Hid (ChunksIn w w.heap.size a1 A ∧ A.length ≤ 1099511627776 ∧ 432 * (bytesOf A).length ≤ 1099511627776) := ⟨hA, lA, bA⟩
  have HB : Hid (ChunksIn w w.heap.size a2 B ∧ B.length ≤ 1099511627776 ∧ 432 * (bytesOf B).length ≤ 1099511627776) := ⟨hB, lB, bB⟩
  obtain ⟨n, hn⟩ : ∃ n, (kindL m).length = n := ⟨_, rfl⟩
  have HN : Hid ((kindL m).length = n) := hn
  obtain ⟨G, hG⟩ : ∃ G, G = strm m A B := ⟨_, rfl⟩
  rw [← hG]
  have HG : Hid (G = strm m A B) := hG
  obtain ⟨nA, hnA⟩ : ∃ nA, nA = A.length := ⟨_, rfl⟩
  obtain ⟨nB, hnB⟩ : ∃ nB, nB = B.length := ⟨_, rfl⟩
  rw [← hnA, ← hnB]
  have HNL : Hid (nA = A.length ∧ nB = B.length) := ⟨hnA, hnB⟩
  clear h0 h3 hE hA hB lA lB bA bB hn hG hnA hnB
  go_enter Tryz.func16, Tryz.ntmps16
  go_wp2_with fail
  have f0 : Fr (fun _ => False) w (w.alloc (outC 0 0 0 0 0)) := (Fr.refl _ _).alloc _
  have hr0 : (w.alloc (outC 0 0 0 0 0)).heap[w.heap.size]? = some (outC 0 0 0 0 0) := heap_alloc_new w _
  have hs0 : (w.alloc (outC 0 0 0 0 0)).heap.size = w.heap.size + 1 := by simp
  change Calls _ _ _ (w.alloc (outC 0 0 0 0 0)) _
  have HR0 : Hid (Fr (fun _ => False) w (w.alloc (outC 0 0 0 0 0)) ∧ (w.alloc (outC 0 0 0 0 0)).heap[w.heap.size]? = some (outC 0 0 0 0 0) ∧ (w.alloc (outC 0 0 0 0 0)).heap.size = w.heap.size + 1) := ⟨f0, hr0, hs0⟩
  clear f0 hr0 hs0
  generalize w.alloc (outC 0 0 0 0 0) = w0 at *
  refine (of_calls m w0 HM.out.1 HM.out.2 (HE.out.kept HR0.out.1 (fun _ _ => id))).mono ?_
  rintro e w1 ⟨b0, Bt, cs, rfl, p1, p2, p3, p4, p5, p6⟩
  rw [HN.out] at p3 p4 ⊢
  have HP : Hid (w0.heap.size ≤ b0 ∧ w1.heap[b0]? = some (.cells cs 108 (0, 0)) ∧ cs.size = 8 * n ∧ Fresh cs Bt m n ∧ TabIn w1 b0 Bt ∧ Fr (fun _ => False) w0 w1) := ⟨p1, p2, p3, p4, p5, p6⟩
  clear p1 p2 p3 p4 p5 p6
  go_wp2_with fail
  refine (newChunks_calls w1 a1 nA c1).mono ?_
  rintro e w2 ⟨rfl, hw2⟩
  obtain ⟨ca, hca⟩ : ∃ ca, ca = w1.heap.size := ⟨_, rfl⟩
  rw [← hca]
  have HS2 : Hid (Src w2 b0 ca a1 c1 A 0 ∧ Fr (fun _ => False) w1 w2 ∧ w2.heap.size = w1.heap.size + 1 ∧ ca = w1.heap.size) := by
    have f1 := HR0.out.1.trans HP.out.2.2.2.2.2 (fun _ _ h => h)
    have hb := HP.out.1
    have hs := HR0.out.2.2
    have hb0 := lt_of HP.out.2.1
    rw [hw2, hca, HNL.out.1]
    exact ⟨src_new ((HA.out.1.kept f1 (fun _ _ => id)).mono (by omega)) HA.out.2.1 (by omega), (Fr.refl _ _).alloc _, by simp, rfl⟩
  clear hw2 hca
  go_wp2_with fail
  refine (newChunks_calls w2 a2 nB c2).mono ?_
  rintro e w3 ⟨rfl, hw3⟩
  obtain ⟨cb, hcb⟩ : ∃ cb, cb = w2.heap.size := ⟨_, rfl⟩
  rw [← hcb]
  have HS3 : Hid (Src w3 b0 cb a2 c2 B 0 ∧ Fr (fun _ => False) w2 w3 ∧ w3.heap.size = w2.heap.size + 1 ∧ cb = w2.heap.size) := by
    have f1 := (HR0.out.1.trans HP.out.2.2.2.2.2 (fun _ _ h => h)).trans HS2.out.2.1 (fun _ _ h => h)
    have hb := HP.out.1
    have hs := HR0.out.2.2
    have hb0 := lt_of HP.out.2.1
    have h2 := HS2.out.2.2.1
    rw [hw3, hcb, HNL.out.2]
    exact ⟨src_new ((HB.out.1.kept f1 (fun _ _ => id)).mono (by omega)) HB.out.2.1 (by omega), (Fr.refl _ _).alloc _, by simp, rfl⟩
  clear hw3 hcb
  go_wp2_with fail
  have f13 : Fr (fun _ => False) w1 w3 := HS2.out.2.1.trans HS3.out.2.1 (fun _ _ h => h)
  have f03 : Fr (fun _ => False) w w3 := (HR0.out.1.trans HP.out.2.2.2.2.2 (fun _ _ h => h)).trans f13 (fun _ _ h => h)
  refine (beginC_calls (B := Bt) (cs := cs) (m := m) HM.out.1 HM.out.2 HN.out (HE.out.kept f03 (fun _ _ => id)) (by have := HE.out.size; have := HP.out.1; have := HR0.out.2.2; omega) (HS2.out.1.kept HS3.out.2.1 (fun _ _ => id) id) (HP.out.2.2.2.2.1.kept f13 (fun _ _ => id)) HP.out.2.2.2.1 HA.out.2.2 ((f13.block b0 (lt_of HP.out.2.1) id).trans HP.out.2.1) HP.out.2.2.1).mono ?_
  rintro e w4 ⟨bra, rfl, q1, q2, q3⟩
  have HQ4 : Hid (RcM w4 b0 bra ca a1 c1 m A 0 false 0 (fun x => x = ca ∨ w3.heap.size ≤ x) ∧ Fr (fun _ => False) w3 w4 ∧ w3.heap.size ≤ bra ∧ Fr (fun _ => False) w1 w3 ∧ Fr (fun _ => False) w w3) := ⟨q1, q2, q3, f13, f03⟩
  clear q1 q2 q3 f13 f03
  go_wp2_with fail
  have f14 : Fr (fun _ => False) w1 w4 := HQ4.out.2.2.2.1.trans HQ4.out.2.1 (fun _ _ h => h)
  have f04 : Fr (fun _ => False) w w4 := HQ4.out.2.2.2.2.trans HQ4.out.2.1 (fun _ _ h => h)
  refine (beginC_calls (B := Bt) (cs := cs) (m := m) HM.out.1 HM.out.2 HN.out (HE.out.kept f04 (fun _ _ => id)) (by have := HE.out.size; have := HP.out.1; have := HR0.out.2.2; omega) (HS3.out.1.kept HQ4.out.2.1 (fun _ _ => id) id) (HP.out.2.2.2.2.1.kept f14 (fun _ _ => id)) HP.out.2.2.2.1 HB.out.2.2 ((f14.block b0 (lt_of HP.out.2.1) id).trans HP.out.2.1) HP.out.2.2.1).mono ?_
  rintro e w5 ⟨brb, rfl, q1, q2, q3⟩
  have HQ5 : Hid (RcM w5 b0 brb cb a2 c2 m B 0 false 0 (fun x => x = cb ∨ w4.heap.size ≤ x) ∧ Fr (fun _ => False) w4 w5 ∧ w4.heap.size ≤ brb ∧ Fr (fun _ => False) w w4) := ⟨q1, q2, q3, f04⟩
  clear q1 q2 q3 f14 f04
  go_wp2_with fail
  change Calls _ _ _ (((w5.alloc (.cells #[.pointer (some ⟨bra, 0, none⟩)] 69)).alloc (.cells #[.pointer (some ⟨brb, 0, none⟩)] 69)).alloc (outC 0 0 0 0 0)) _
  have hE1 : Hid (∃ X : Nat → Prop, (∀ z, X z → z < w5.heap.size ∧ b0 ≤ z) ∧ Held3 X (((w5.alloc (.cells #[.pointer (some ⟨bra, 0, none⟩)] 69)).alloc (.cells #[.pointer (some ⟨brb, 0, none⟩)] 69)).alloc (outC 0 0 0 0 0)) b0 ⟨bra, ca, a1, c1, A⟩ ⟨brb, cb, a2, c2, B⟩ w5.heap.size (w5.heap.size + 1) (w5.heap.size + 1 + 1) ∧ PairC X (((w5.alloc (.cells #[.pointer (some ⟨bra, 0, none⟩)] 69)).alloc (.cells #[.pointer (some ⟨brb, 0, none⟩)] 69)).alloc (outC 0 0 0 0 0)) (((w5.alloc (.cells #[.pointer (some ⟨bra, 0, none⟩)] 69)).alloc (.cells #[.pointer (some ⟨brb, 0, none⟩)] 69)).alloc (outC 0 0 0 0 0)) b0 m ⟨bra, ca, a1, c1, A⟩ ⟨brb, cb, a2, c2, B⟩ 0 false 0 0 false 0 ∧ Fr (fun _ => False) w5 (((w5.alloc (.cells #[.pointer (some ⟨bra, 0, none⟩)] 69)).alloc (.cells #[.pointer (some ⟨brb, 0, none⟩)] 69)).alloc (outC 0 0 0 0 0))) := by
    have h1 := HS2.out.2.2
    have h2 := HS3.out.2.2
    have hb := lt_of HP.out.2.1
    exact ready HQ4.out.1 HQ4.out.2.1 HQ5.out.1 HQ5.out.2.1 HQ5.out.2.2.1 (by omega) (by omega) (by omega) ⟨by omega, by omega, by omega⟩
  obtain ⟨X, x1, x2, x3, x4⟩ := hE1.out
  have s58 := x4.size
  refine (tillS_calls HM.out.1 HM.out.2 x2 x3 (fun z hz => by have := x1 z hz; omega)).mono ?_
  rintro e w9 ⟨rfl, hS1⟩
  dsimp only at hS1 ⊢
  rw [← HG.out] at hS1 ⊢
  obtain ⟨g1, g2, g3, g4⟩ := hS1
  have f58 : Fr (fun _ => False) w (((w5.alloc (.cells #[.pointer (some ⟨bra, 0, none⟩)] 69)).alloc (.cells #[.pointer (some ⟨brb, 0, none⟩)] 69)).alloc (outC 0 0 0 0 0)) := (HQ5.out.2.2.2.trans HQ5.out.2.1 (fun _ _ h => h)).trans x4 (fun _ _ h => h)
  have hr9 : w9.heap[w.heap.size]? = some (outC 0 0 0 0 0) := by
    have k1 := HR0.out.2.2
    have k2 := HP.out.1
    have fA : Fr (fun _ => False) w0 (((w5.alloc (.cells #[.pointer (some ⟨bra, 0, none⟩)] 69)).alloc (.cells #[.pointer (some ⟨brb, 0, none⟩)] 69)).alloc (outC 0 0 0 0 0)) := ((((HP.out.2.2.2.2.2.trans HQ4.out.2.2.2.1 (fun _ _ h => h)).trans HQ4.out.2.1 (fun _ _ h => h)).trans HQ5.out.2.1 (fun _ _ h => h)).trans x4 (fun _ _ h => h))
    have k3 := (fA.block w.heap.size (lt_of HR0.out.2.1) id).trans HR0.out.2.1
    have k5 := HP.out.2.2.2.2.2.size
    have k6 := HQ4.out.2.2.2.1.size
    have k7 := HQ4.out.2.1.size
    have k8 := HQ5.out.2.1.size
    refine (g4.block w.heap.size (lt_of k3) (fun h => ?_)).trans k3
    rcases h with h | h
    · have := (x1 _ h).2; omega
    · omega
  have h9 : w.heap.size ≠ w5.heap.size + 1 + 1 := by
    have k5 := HP.out.2.2.2.2.2.size
    have k6 := HQ4.out.2.2.2.1.size
    have k7 := HQ4.out.2.1.size
    have k8 := HQ5.out.2.1.size
    have k1 := HR0.out.2.2
    omega
  have hvl : w.heap.size ≤ w5.heap.size + 1 + 1 := by
    have k5 := HP.out.2.2.2.2.2.size
    have k6 := HQ4.out.2.2.2.1.size
    have k7 := HQ4.out.2.1.size
    have k8 := HQ5.out.2.1.size
    have k1 := HR0.out.2.2
    omega
  obtain ⟨vo, hvo⟩ : ∃ vo, vo = w5.heap.size + 1 + 1 := ⟨_, rfl⟩
  rw [← hvo] at g1 g4 h9 hvl ⊢
  have HFI : Hid (Fr (fun _ => False) w w9) := by
    refine f58.trans g4 (fun i hi h => ?_)
    rcases h with h | h
    · have k2 := HP.out.1
      have k1 := HR0.out.2.2
      have := (x1 _ h).2
      omega
    · have k5 := HP.out.2.2.2.2.2.size
      have k6 := HQ4.out.2.2.2.1.size
      have k7 := HQ4.out.2.1.size
      have k8 := HQ5.out.2.1.size
      have k1 := HR0.out.2.2
      omega
  have HRD : Hid (w9.cell? ⟨ca, 1, none⟩ = some (.int .i64 G.ra) ∧ w9.cell? ⟨cb, 1, none⟩ = some (.int .i64 G.rb)) := ⟨g2, g3⟩
  have HBK : Hid (w9.heap[vo]? = some (outC G.sign 0 0 G.ha G.hb) ∧ w9.heap[w.heap.size]? = some (outC 0 0 0 0 0)) := ⟨g1, hr9⟩
  have o0 : w9.cell? ⟨vo, 0, none⟩ = some (.int .i64 G.sign) := cell_of g1 rfl
  have o1 : w9.cell? ⟨vo, 1, none⟩ = some (.int .i64 0) := cell_of g1 rfl
  have o2 : w9.cell? ⟨vo, 2, none⟩ = some (.int .i64 0) := cell_of g1 rfl
  have o3 : w9.cell? ⟨vo, 3, none⟩ = some (.int .i64 G.ha) := cell_of g1 rfl
  have o4 : w9.cell? ⟨vo, 4, none⟩ = some (.int .i64 G.hb) := cell_of g1 rfl
  have oz : ∀ o, w9.frozen? ⟨vo, o, none⟩ = false := frozen_of g1
  have r0 : w9.cell? ⟨w.heap.size, 0, none⟩ = some (.int .i64 0) := cell_of hr9 rfl
  have r1 : w9.cell? ⟨w.heap.size, 1, none⟩ = some (.int .i64 0) := cell_of hr9 rfl
  have r2 : w9.cell? ⟨w.heap.size, 2, none⟩ = some (.int .i64 0) := cell_of hr9 rfl
  have r3 : w9.cell? ⟨w.heap.size, 3, none⟩ = some (.int .i64 0) := cell_of hr9 rfl
  have r4 : w9.cell? ⟨w.heap.size, 4, none⟩ = some (.int .i64 0) := cell_of hr9 rfl
  have rz : ∀ o, w9.frozen? ⟨w.heap.size, o, none⟩ = false := frozen_of hr9
  clear g1 g2 g3 g4 x1 x2 x3 x4 s58 f58 hr9 hE1 hvo HQ4 HQ5 HS2 HS3 HP HR0 HA HB HE HM HN HG HNL
  have h9' := Ne.symm h9
  have HVO : Hid (w.heap.size ≤ vo) := hvl
  clear hvl
  go_wp2_with (first
    | (go_at_call_of 39 (Value.pointer (some ⟨ca, 0, none⟩)); refine (reads_calls HRD.out.1).mono ?_; rintro e w10 ⟨rfl, hw⟩; have hw' := hw.symm; subst hw'; clear hw)
    | (go_at_call_of 39 (Value.pointer (some ⟨cb, 0, none⟩)); refine (reads_calls HRD.out.2).mono ?_; rintro e w10 ⟨rfl, hw⟩; have hw' := hw.symm; subst hw'; clear hw))
  try simp only [Exit.inBlock, Exit.then]
  refine bodyPost_ret (v := .tuple #[.agg #[.int .i64 G.sign, .int .i64 G.ra, .int .i64 G.rb, .int .i64 G.ha, .int .i64 G.hb], .int .i64 G.err]) ?_ rfl ⟨rfl, ?_⟩
  · simp [results, Tryz.results16, go_sem, r0, r1, r2, r3, r4]
  · have hv := HVO.out
    have no : ∀ b, w.heap.size ≤ b → b < w.heap.size → False := fun b h1 h2 => by omega
    exact ((((((HFI.out.setCell ⟨vo, 1, none⟩ _ (no _ hv)).setCell ⟨vo, 2, none⟩ _ (no _ hv)).setCell ⟨w.heap.size, 0, none⟩ _ (no _ (Nat.le_refl _))).setCell ⟨w.heap.size, 1, none⟩ _ (no _ (Nat.le_refl _))).setCell ⟨w.heap.size, 2, none⟩ _ (no _ (Nat.le_refl _))).setCell ⟨w.heap.size, 3, none⟩ _ (no _ (Nat.le_refl _))).setCell ⟨w.heap.size, 4, none⟩ _ (no _ (Nat.le_refl _))

end Go.Proofs.YtmhaknejeobfgabGreatDoor
