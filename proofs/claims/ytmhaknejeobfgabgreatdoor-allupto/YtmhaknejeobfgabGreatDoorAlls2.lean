/- The law All: one call of a script, walked. The law All, walked: it answers true. -/
import Derived.Test.YtmhaknejeobfgabGreatDoorAlls1
import Derived.Test.YtmhaknejeobfgabGreatDoorRefs4

/- All8. -/
namespace Go.Proofs.YtmhaknejeobfgabGreatDoor
open Go.RowKit Go.Proofs.YtmhaknejeobfgabGreatDoor.Stable Go.Proofs.YtmhaknejeobfgabGreatDoor.Order Go.Proofs.YtmhaknejeobfgabGreatDoor.Points
attribute [local go_sem ↓] Go.wp_at_zero Go.wp_at_succ

/-- What stands around a call. -/
structure StS (w0 w : World) (bw nn vb g1 g2 : Nat) (bx : Array Value) (LA LB : List Chk) : Prop where
  box : w.heap[vb]? = some (.cells bx 60 (0, 0))
  l1 : w.heap[g1]? = some (.cells (chArr (lentL LA)) 49 (0, 0))
  l2 : w.heap[g2]? = some (.cells (chArr (lentL LB)) 49 (0, 0))
  bk : Bk w0 w bw nn (fun g => g = vb ∨ g = g1 ∨ g = g2)
  h1 : w0.heap.size ≤ g1
  h2 : w0.heap.size ≤ g2
  n1 : g1 ≠ g2
  n2 : vb ≠ g1 ∧ vb ≠ g2

theorem StS.keep {w0 w w' : World} {bw nn vb g1 g2 : Nat} {bx : Array Value} {LA LB : List Chk} (h : StS w0 w bw nn vb g1 g2 bx LA LB) (f : Fr (fun _ => False) w w') : StS w0 w' bw nn vb g1 g2 bx LA LB :=
  { h with box := (f.block vb (lt_of h.box) id).trans h.box, l1 := (f.block g1 (lt_of h.l1) id).trans h.l1, l2 := (f.block g2 (lt_of h.l2) id).trans h.l2, bk := h.bk.keep f }

/-- Both lists have been lent. -/
theorem StS.of {w0 w w2 w3 : World} {bw nn : Nat} {bx : Array Value} {LA LB : List Chk} (hB : Bk w0 w bw nn (fun _ => False)) (h2 : LeAt (w.alloc (.cells bx 60)) w2 (w.heap.size + 1) (lentL LA)) (h3 : LeAt w2 w3 w2.heap.size (lentL LB)) : StS w0 w3 bw nn w.heap.size (w.heap.size + 1) w2.heap.size bx LA LB := by
  have s0 := hB.fr.size
  have f1 : Fr (fun _ => False) w (w.alloc (.cells bx 60)) := (Fr.refl _ _).alloc _
  have s1 : (w.alloc (.cells bx 60)).heap.size = w.heap.size + 1 := by simp
  have s2 := lt_of h2.blk
  have hb1 : (w.alloc (.cells bx 60)).heap[w.heap.size]? = some (.cells bx 60 (0, 0)) := heap_alloc_new w _
  have hb2 := (h2.fr.block _ (by omega) id).trans hb1
  have B1 : Bk w0 w bw nn (fun g => g = w.heap.size ∨ g = w.heap.size + 1 ∨ g = w2.heap.size) := hB.more (fun g hg => .inr (by omega))
  exact ⟨(h3.fr.block _ (lt_of hb2) id).trans hb2, (h3.fr.block _ s2 id).trans h2.blk, h3.blk, ((B1.keep f1).keep h2.fr).keep h3.fr, by omega, by omega, by omega, ⟨by omega, by omega⟩⟩

/-- A list was kept. -/
theorem StS.kept {w0 w w' : World} {bw nn vb g1 g2 n base : Nat} {bx : Array Value} {LA LB : List Chk} {es es' : List Ent} {ms ms' : List Int} {al al' : Option Addr} {cl cl' : Nat} {am am' : Option Addr} {cm cm' : Nat} {a a' : Option Addr} {c c' : Nat} {mk : Int} {X : List Int} (h : StS w0 w bw nn vb g1 g2 bx LA LB) (B : Aw w0 w bw nn (fun g => g = vb ∨ g = g1 ∨ g = g2) es ms al cl am cm) (hr : Row w base a c X) (hbase : vb < base ∧ g1 < base ∧ g2 < base ∧ w0.heap.size ≤ base) (hn : n ≤ 1048576)
    (L : KpL w w' bw (fun x => inBook bw al am x ∨ ∃ y, a = some y ∧ y.block = x) es 4 mk es' ms' (nn + 1) al' cl' am' cm' a' c' (n + 4)) : StS w0 w' bw (nn + 1) vb g1 g2 bx LA LB := by
  have ha : ∀ y, a = some y → base ≤ y.block := fun y hy => (hr.lt hy).1
  have hG : ∀ g, (g = vb ∨ g = g1 ∨ g = g2) → ¬ (inBook bw al am g ∨ ∃ y, a = some y ∧ y.block = g) := fun g hg q => by
    rcases q with q | ⟨y, y1, y2⟩
    · exact B.ab g hg q
    · have := ha y y1
      omega
  have hl1 := lt_of h.l1
  have hl2 := lt_of h.l2
  have hl3 := lt_of h.box
  refine { h with box := (L.fr.block vb (lt_of h.box) (hG vb (.inl rfl))).trans h.box, l1 := (L.fr.block g1 (lt_of h.l1) (hG g1 (.inr (.inl rfl)))).trans h.l1, l2 := (L.fr.block g2 (lt_of h.l2) (hG g2 (.inr (.inr rfl)))).trans h.l2, bk := Bk.kept B (fun g hg => ⟨by omega, fun y hy e => ?_⟩) (fun y hy => by have := ha y hy; omega) hn L }
  have := ha y hy
  omega

set_option maxRecDepth 100000 in
set_option maxHeartbeats 3200000 in
theorem step_calls {w0 w : World} {bw nn : Nat} {kd md : Int} {S T : ByteArray} {aA aB : Option Addr} {cA cB nA nB : Nat} {LA LB : List Chk} (hB : Bk w0 w bw nn (fun _ => False)) (hE : Env w0) (hA : ChunksIn w0 w0.heap.size aA LA) (hBb : ChunksIn w0 w0.heap.size aB LB) (nA0 : aA = none → cA = 0) (nB0 : aB = none → cB = 0) (enA : nA = LA.length) (enB : nB = LB.length) (hs : S.size + T.size ≤ 1048576) (hl : (bytesOf LA).length + LA.length + ((bytesOf LB).length + LB.length) ≤ 1048576) (hnn : nn ≤ 1048576) :
    Calls Tryz.prog 21 #[.pointer (some ⟨bw, 0, none⟩), .agg #[.int .i64 kd, .int .i64 md, .string S, .string T, .slice aA nA cA, .slice aB nB cB]] w fun x w' => x = .returned (.bool true) ∧ ∃ nn', nn' ≤ nn + 1 ∧ Bk w0 w' bw nn' (fun _ => False) := by
  have HP : Hid (Bk w0 w bw nn (fun _ => False) ∧ Env w0 ∧ ChunksIn w0 w0.heap.size aA LA ∧ ChunksIn w0 w0.heap.size aB LB ∧ (aA = none → cA = 0) ∧ (aB = none → cB = 0) ∧ nA = LA.length ∧ nB = LB.length ∧ S.size + T.size ≤ 1048576 ∧ (bytesOf LA).length + LA.length + ((bytesOf LB).length + LB.length) ≤ 1048576) := ⟨hB, hE, hA, hBb, nA0, nB0, enA, enB, hs, hl⟩
  have hnA : nA ≤ 1048576 := by omega
  have hnB : nB ≤ 1048576 := by omega
  have f1 : Fr (fun _ => False) w (w.alloc (.cells #[.int .i64 kd, .int .i64 md, .string S, .string T, .slice aA nA cA, .slice aB nB cB] 60)) := (Fr.refl _ _).alloc _
  have HF1 : Hid (Fr (fun _ => False) w0 (w.alloc (.cells #[.int .i64 kd, .int .i64 md, .string S, .string T, .slice aA nA cA, .slice aB nB cB] 60)) ∧ (w.alloc (.cells #[.int .i64 kd, .int .i64 md, .string S, .string T, .slice aA nA cA, .slice aB nB cB] 60)).heap[w.heap.size]? = some (.cells #[.int .i64 kd, .int .i64 md, .string S, .string T, .slice aA nA cA, .slice aB nB cB] 60 (0, 0)) ∧ (w.alloc (.cells #[.int .i64 kd, .int .i64 md, .string S, .string T, .slice aA nA cA, .slice aB nB cB] 60)).heap.size = w.heap.size + 1) := ⟨hB.fr.trans f1 (fun _ _ q => q), heap_alloc_new w _, by simp⟩
  clear hB hE hA hBb nA0 nB0 enA enB hs hl f1
  go_enter Tryz.func21, Tryz.ntmps21
  go_upto_region 2 with (go_at_call 40; refine (lent_calls ((HP.out.2.2.1.kept HF1.out.1 (fun _ _ => id)).wide HF1.out.1.size) HP.out.2.2.2.2.1 HP.out.2.2.2.2.2.2.1 hnA).mono ?_; rintro e w2 ⟨rfl, h2⟩)
  have H2 : Hid (LeAt (w.alloc (.cells #[.int .i64 kd, .int .i64 md, .string S, .string T, .slice aA nA cA, .slice aB nB cB] 60)) w2 (w.heap.size + 1) (lentL LA) ∧ w2.heap[w.heap.size]? = some (.cells #[.int .i64 kd, .int .i64 md, .string S, .string T, .slice aA nA cA, .slice aB nB cB] 60 (0, 0)) ∧ Fr (fun _ => False) w0 w2) := by
    rw [HF1.out.2.2] at h2
    exact ⟨h2, (h2.fr.block _ (lt_of HF1.out.2.1) id).trans HF1.out.2.1, HF1.out.1.trans h2.fr (fun _ _ q => q)⟩
  have b5 : w2.cell? ⟨w.heap.size, 5, none⟩ = some (.slice aB nB cB) := cell_of H2.out.2.1 rfl
  clear h2
  go_upto_region 3 with (go_at_call 40; refine (lent_calls ((HP.out.2.2.2.1.kept H2.out.2.2 (fun _ _ => id)).wide H2.out.2.2.size) HP.out.2.2.2.2.2.1 HP.out.2.2.2.2.2.2.2.1 hnB).mono ?_; rintro e w3 ⟨rfl, h3⟩)
  have H3 : Hid (StS w0 w3 bw nn w.heap.size (w.heap.size + 1) w2.heap.size #[.int .i64 kd, .int .i64 md, .string S, .string T, .slice aA nA cA, .slice aB nB cB] LA LB) := Hid.mk0 (StS.of HP.out.1 H2.out.1 h3)
  obtain ⟨g1, hg1⟩ : ∃ g, g = w.heap.size + 1 := ⟨_, rfl⟩
  obtain ⟨g2, hg2⟩ : ∃ g, g = w2.heap.size := ⟨_, rfl⟩
  rw [← hg1, ← hg2] at H3
  rw [← hg1, ← hg2]
  obtain ⟨vb, hvb⟩ : ∃ g, g = w.heap.size := ⟨_, rfl⟩
  rw [← hvb] at H3
  rw [← hvb]
  clear hg1 hg2 hvb h3 b5 H2 HF1
  have b0 : w3.cell? ⟨vb, 0, none⟩ = some (.int .i64 kd) := cell_of H3.out.box rfl
  have b1 : w3.cell? ⟨vb, 1, none⟩ = some (.int .i64 md) := cell_of H3.out.box rfl
  have b2 : w3.cell? ⟨vb, 2, none⟩ = some (.string S) := cell_of H3.out.box rfl
  have b3 : w3.cell? ⟨vb, 3, none⟩ = some (.string T) := cell_of H3.out.box rfl
  have b4 : w3.cell? ⟨vb, 4, none⟩ = some (.slice aA nA cA) := cell_of H3.out.box rfl
  have b5 : w3.cell? ⟨vb, 5, none⟩ = some (.slice aB nB cB) := cell_of H3.out.box rfl
  have HEV : Hid (Env w3 ∧ S.size ≤ 1048576) := ⟨HP.out.2.1.kept H3.out.bk.fr (fun _ _ => id), by have := HP.out.2.2.2.2.2.2.2.2.1; omega⟩
  go_upto_block 0 with fail
  go_cut [7] (fun v wc => ∃ nn' : Nat, v = .bool true ∧ nn' ≤ nn + 1 ∧ Hid (StS w0 wc bw nn' vb g1 g2 #[.int .i64 kd, .int .i64 md, .string S, .string T, .slice aA nA cA, .slice aB nB cB] LA LB))
  case first =>
    by_cases k1 : kd = 1
    · subst k1
      go_wp2_with (go_at_call 41; refine (forms_walk md S _ HEV.out.1 HEV.out.2).mono ?_; rintro e w4 ⟨rfl, hf4⟩; have H4 : Hid (StS w0 w4 bw nn vb g1 g2 #[.int .i64 1, .int .i64 md, .string S, .string T, .slice aA nA cA, .slice aB nB cB] LA LB) := H3.out.keep hf4; clear hf4)
      go_meet
      case rel => exact ⟨nn, rfl, by omega, H4.out⟩
    have e1 : (kd == 1) = false := by rw [beq_eq_false_iff_ne]; exact k1
    by_cases k2 : kd = 2
    · subst k2
      clear k1
      go_wp2_with (go_at_call 41; refine (forms_walk md S _ HEV.out.1 HEV.out.2).mono ?_; rintro e w4 ⟨rfl, hf4⟩; have H4 : Hid (StS w0 w4 bw nn vb g1 g2 #[.int .i64 2, .int .i64 md, .string S, .string T, .slice aA nA cA, .slice aB nB cB] LA LB) := H3.out.keep hf4; clear hf4)
      go_meet
      case rel => exact ⟨nn, rfl, by omega, H4.out⟩
    have e2 : (kd == 2) = false := by rw [beq_eq_false_iff_ne]; exact k2
    by_cases k3 : kd = 3
    · subst k3
      clear k1 k2
      obtain ⟨es, ms, al, cl, am, cm, Baw⟩ := H3.out.bk
      have HBK : Hid (Aw w0 w3 bw nn (fun g => g = vb ∨ g = g1 ∨ g = g2) es ms al cl am cm) := Baw
      clear Baw
      have hcl : (cutsOf md S.data.toList).length ≤ 1048576 := by
        have h1 := pts_len S.data.toList.length 0 S.data.toList (Nat.le_refl _)
        have h2 : (cutsOf md S.data.toList).length ≤ (pts 0 S.data.toList).length := by
          unfold cutsOf
          rw [List.length_map]
          exact List.length_filter_le _ _
        have h3 := HEV.out.2
        have h4 := Lib.size_eq S
        omega
      by_cases hm : 0 ≤ md ∧ md ≤ 3
      · obtain ⟨C, hC⟩ : ∃ C, C = cutsOf md S.data.toList := ⟨_, rfl⟩
        obtain ⟨X, hX⟩ : ∃ X : List Int, X = C.map fun (p : Nat) => (p : Int) := ⟨_, rfl⟩
        obtain ⟨n, hn⟩ : ∃ n, n = C.length := ⟨_, rfl⟩
        rw [← hC, ← hn] at hcl
        have HM : Hid (0 ≤ md ∧ md ≤ 3 ∧ C = cutsOf md S.data.toList ∧ X = (C.map fun (p : Nat) => (p : Int)) ∧ n = C.length ∧ n = X.length ∧ rowOf C = ints X ∧ S.data.toList.length ≤ 1099511627776) := ⟨hm.1, hm.2, hC, hX, hn, by rw [hn, hX, List.length_map], by rw [hX]; simp [rowOf, ints], by have h3 := HEV.out.2; have h4 := Lib.size_eq S; omega⟩
        clear hm hC hX hn
        go_wp2_with (first
          | (go_at_call 42; refine (cuts_calls md S _ HM.out.1 HM.out.2.1 HEV.out.1 HM.out.2.2.2.2.2.2.2).mono ?_; rw [← HM.out.2.2.1, ← HM.out.2.2.2.2.1, HM.out.2.2.2.2.2.2.1]; rintro e w4 ⟨x1, y1, rfl, hr4, hf4⟩; have H4 : Hid (Row w4 w3.heap.size x1 y1 X ∧ Fr (fun _ => False) w3 w4) := ⟨by unfold Row; rw [← HM.out.2.2.2.2.2.1]; exact hr4, hf4⟩; have q1 : w4.cell? ⟨vb, 1, none⟩ = some (.int .i64 md) := cell_of (H3.out.keep hf4).box rfl; have q2 : w4.cell? ⟨vb, 2, none⟩ = some (.string S) := cell_of (H3.out.keep hf4).box rfl; clear hr4 hf4)
          | (go_at_call 43; refine (rcuts_calls md S _ HM.out.1 HM.out.2.1 HEV.out.2).mono ?_; rw [← HM.out.2.2.1, ← HM.out.2.2.2.1, ← HM.out.2.2.2.2.1]; rintro e w5 ⟨x2, y2, n2, rfl, rfl, hr5, hf5⟩; have H5 : Hid (Row w5 w4.heap.size x2 y2 X ∧ Row w5 w3.heap.size x1 y1 X ∧ Fr (fun _ => False) w3 w5) := ⟨hr5, H4.out.1.keep hf5, H4.out.2.trans hf5 (fun _ _ h => h)⟩; clear hr5 hf5)
          | (go_at_call 44; refine (same_calls H5.out.2.1.ints H5.out.1.ints HM.out.2.2.2.2.2.1 (by omega)).mono ?_; rintro e w6 ⟨rfl, hf6⟩; have H6 : Hid (Row w6 w3.heap.size x1 y1 X ∧ Fr (fun _ => False) w3 w6) := ⟨H5.out.2.1.keep hf6, H5.out.2.2.trans hf6 (fun _ _ h => h)⟩; clear hf6)
          | (go_at_call 11; refine (num_any2 0 _).mono ?_; rintro e w' ⟨rfl, hw⟩; have hw' := hw.symm; subst hw'; clear hw)
          | (go_at_call 45; refine (keep_calls (HBK.out.kp.keep H6.out.2 (fun _ _ => id)) HBK.out.len H6.out.1 HM.out.2.2.2.2.2.1 (Nat.le_refl _) H6.out.2.size (by omega) (by have := HBK.out.el; omega) (by omega)).mono ?_; rintro e w7 ⟨rfl, es', ms', al', cl', am', cm', a', c', hL⟩; have H7 : Hid (StS w0 w7 bw (nn + 1) vb g1 g2 #[.int .i64 3, .int .i64 md, .string S, .string T, .slice aA nA cA, .slice aB nB cB] LA LB) := Hid.mk0 (StS.kept (H3.out.keep H6.out.2) { HBK.out with kp := (HBK.out.kp.keep H6.out.2 (fun _ _ => id)).up H6.out.2.size, fr := HBK.out.fr.trans H6.out.2 (fun _ _ q => q) } H6.out.1 ⟨lt_of H3.out.box, lt_of H3.out.l1, lt_of H3.out.l2, HBK.out.fr.size⟩ hcl hL); clear hL))
        go_meet
        case rel => exact ⟨nn + 1, rfl, Nat.le_refl _, H7.out⟩
      · have hm' : md < 0 ∨ 3 < md := by omega
        have HM : Hid (md < 0 ∨ 3 < md) := hm'
        clear hm hm'
        go_wp2_with (first
          | (go_at_call 42; refine (cuts_none md S _ HM.out).mono ?_; rintro e w' ⟨rfl, hw⟩; have hw' := hw.symm; subst hw'; clear hw)
          | (go_at_call 43; refine (rcuts_none md S _ HM.out).mono ?_; rintro e w' ⟨rfl, hw⟩; have hw' := hw.symm; subst hw'; clear hw)
          | (go_at_call 44; refine (same_calls (X := []) (n := 0) (IntsAt.nil _ _) (IntsAt.nil _ _) rfl (by omega)).mono ?_; rintro e w6 ⟨rfl, hf6⟩; have H6 : Hid (Fr (fun _ => False) w3 w6) := hf6; clear hf6)
          | (go_at_call 11; refine (num_any2 1 _).mono ?_; rintro e w' ⟨rfl, hw⟩; have hw' := hw.symm; subst hw'; clear hw)
          | (go_at_call 45; refine (keep_calls (X := []) (n := 0) (base := w3.heap.size) (HBK.out.kp.keep H6.out (fun _ _ => id)) HBK.out.len (Row.none _ _) rfl (Nat.le_refl _) H6.out.size (by omega) (by have := HBK.out.el; omega) (by omega)).mono ?_; rintro e w7 ⟨rfl, es', ms', al', cl', am', cm', a', c', hL⟩; have H7 : Hid (StS w0 w7 bw (nn + 1) vb g1 g2 #[.int .i64 3, .int .i64 md, .string S, .string T, .slice aA nA cA, .slice aB nB cB] LA LB) := Hid.mk0 (StS.kept (n := 0) (base := w3.heap.size) (X := []) (c := 0) (H3.out.keep H6.out) { HBK.out with kp := (HBK.out.kp.keep H6.out (fun _ _ => id)).up H6.out.size, fr := HBK.out.fr.trans H6.out (fun _ _ q => q) } (Row.none _ _) ⟨lt_of H3.out.box, lt_of H3.out.l1, lt_of H3.out.l2, HBK.out.fr.size⟩ (by omega) hL); clear hL))
        go_meet
        case rel => exact ⟨nn + 1, rfl, Nat.le_refl _, H7.out⟩
    have e3 : (kd == 3) = false := by rw [beq_eq_false_iff_ne]; exact k3
    by_cases k4 : kd = 4
    · subst k4
      clear k1 k2 k3
      go_wp2_with (go_at_call 46; refine (compares_walk md S T _ HEV.out.1 HP.out.2.2.2.2.2.2.2.2.1).mono ?_; rintro e w4 ⟨rfl, hf4⟩; have H4 : Hid (StS w0 w4 bw nn vb g1 g2 #[.int .i64 4, .int .i64 md, .string S, .string T, .slice aA nA cA, .slice aB nB cB] LA LB) := H3.out.keep hf4; clear hf4)
      go_meet
      case rel => exact ⟨nn, rfl, by omega, H4.out⟩
    have e4 : (kd == 4) = false := by rw [beq_eq_false_iff_ne]; exact k4
    have rngA : ∀ c ∈ LA, -9223372036854775808 ≤ c.1 ∧ c.1 ≤ 9223372036854775807 := fun c hc => by
      obtain ⟨j, hj⟩ := List.getElem?_of_mem hc
      obtain ⟨b, off, _, _, _, _, _, r⟩ := HP.out.2.2.1 j c hj
      exact r
    have rngB : ∀ c ∈ LB, -9223372036854775808 ≤ c.1 ∧ c.1 ≤ 9223372036854775807 := fun c hc => by
      obtain ⟨j, hj⟩ := List.getElem?_of_mem hc
      obtain ⟨b, off, _, _, _, _, _, r⟩ := HP.out.2.2.2.1 j c hj
      exact r
    by_cases k5 : kd = 5
    · subst k5
      clear k1 k2 k3 k4
      have hcall := fun w' (f : Fr (fun _ => False) w3 w') => streams_walk md (some ⟨g1, 0, none⟩) (some ⟨g2, 0, none⟩) (nA + 8) (nB + 8) LA LB w' (HEV.out.1.kept f (fun _ _ => id)) (lent_chunks (H3.out.keep f).l1 rngA) (lent_chunks (H3.out.keep f).l2 rngB) HP.out.2.2.2.2.2.2.2.2.2
      rw [← HP.out.2.2.2.2.2.2.1, ← HP.out.2.2.2.2.2.2.2.1] at hcall
      have HC : Hid (∀ w', Fr (fun _ => False) w3 w' → Calls Tryz.prog 47 #[.int .i64 md, .slice (some ⟨g1, 0, none⟩) nA (nA + 8), .slice (some ⟨g2, 0, none⟩) nB (nB + 8)] w' fun e w'' => e = .returned (.bool true) ∧ Fr (fun _ => False) w' w'') := hcall
      clear hcall rngA rngB
      have sA0 : (0 : Int) ≤ (nA : Int) := by omega
      have sA1 : (nA : Int) ≤ ((nA + 8 : Nat) : Int) := by omega
      have sA2 : (nA : Int) ≤ (nA : Int) + 8 := by omega
      have sA3 : nA ≤ nA + 8 := by omega
      have sA4 : ¬ (nA + 8 = 0) := by omega
      have sB0 : (0 : Int) ≤ (nB : Int) := by omega
      have sB1 : (nB : Int) ≤ ((nB + 8 : Nat) : Int) := by omega
      have sB2 : (nB : Int) ≤ (nB : Int) + 8 := by omega
      have sB3 : nB ≤ nB + 8 := by omega
      have sB4 : ¬ (nB + 8 = 0) := by omega
      go_wp2_with fail
      go_region_held3 (fun w' => w'.cell? ⟨vb, 1, none⟩ = some (.int .i64 md) ∧ w'.cell? ⟨vb, 4, none⟩ = some (.slice aA nA cA) ∧ w'.cell? ⟨vb, 5, none⟩ = some (.slice aB nB cB)) (go_keep)
        ((go_at_call 47; refine (HC.out _ (Fr.refl _ _).drew).mono ?_; rintro e w4 ⟨rfl, hf4⟩; have H4 : Hid (StS w0 w4 bw nn vb g1 g2 #[.int .i64 5, .int .i64 md, .string S, .string T, .slice aA nA cA, .slice aB nB cB] LA LB) := H3.out.keep (Fr.of_drew hf4); clear hf4; have q1 : w4.cell? ⟨vb, 1, none⟩ = some (.int .i64 md) := cell_of H4.out.box rfl; have q4 : w4.cell? ⟨vb, 4, none⟩ = some (.slice aA nA cA) := cell_of H4.out.box rfl; have q5 : w4.cell? ⟨vb, 5, none⟩ = some (.slice aB nB cB) := cell_of H4.out.box rfl))
      go_wp2
      go_meet
      case rel => exact ⟨nn, rfl, by omega, H4.out⟩
    have e5 : (kd == 5) = false := by rw [beq_eq_false_iff_ne]; exact k5
    by_cases k6 : kd = 6
    · subst k6
      clear k1 k2 k3 k4 k5
      have hcall := fun w' (f : Fr (fun _ => False) w3 w') => digests_walk md (some ⟨g1, 0, none⟩) (nA + 8) LA w' (HEV.out.1.kept f (fun _ _ => id)) (lent_chunks (H3.out.keep f).l1 rngA) (by have := HP.out.2.2.2.2.2.2.2.2.2; omega)
      rw [← HP.out.2.2.2.2.2.2.1] at hcall
      have HC : Hid (∀ w', Fr (fun _ => False) w3 w' → Calls Tryz.prog 3 #[.int .i64 md, .slice (some ⟨g1, 0, none⟩) nA (nA + 8)] w' fun e w'' => e = .returned (.bool true) ∧ Fr (fun _ => False) w' w'') := hcall
      clear hcall rngA rngB
      have sA0 : (0 : Int) ≤ (nA : Int) := by omega
      have sA1 : (nA : Int) ≤ ((nA + 8 : Nat) : Int) := by omega
      have sA2 : (nA : Int) ≤ (nA : Int) + 8 := by omega
      have sA3 : nA ≤ nA + 8 := by omega
      have sA4 : ¬ (nA + 8 = 0) := by omega
      go_wp2_with fail
      go_region_held3 (fun w' => w'.cell? ⟨vb, 1, none⟩ = some (.int .i64 md) ∧ w'.cell? ⟨vb, 4, none⟩ = some (.slice aA nA cA)) (go_keep)
        ((go_at_call 3; refine (HC.out _ (Fr.refl _ _).drew).mono ?_; rintro e w4 ⟨rfl, hf4⟩; have H4 : Hid (StS w0 w4 bw nn vb g1 g2 #[.int .i64 6, .int .i64 md, .string S, .string T, .slice aA nA cA, .slice aB nB cB] LA LB) := H3.out.keep (Fr.of_drew hf4); clear hf4; have q1 : w4.cell? ⟨vb, 1, none⟩ = some (.int .i64 md) := cell_of H4.out.box rfl; have q4 : w4.cell? ⟨vb, 4, none⟩ = some (.slice aA nA cA) := cell_of H4.out.box rfl))
      go_wp2
      go_meet
      case rel => exact ⟨nn, rfl, by omega, H4.out⟩
    have e6 : (kd == 6) = false := by rw [beq_eq_false_iff_ne]; exact k6
    go_wp2
    go_meet
    case rel => exact ⟨nn, rfl, by omega, H3.out⟩
  case rest =>
    obtain ⟨nn', rfl, hnn', HR⟩ := hcut
    obtain ⟨w4, hw4⟩ : ∃ w4, w4 = wc := ⟨_, rfl⟩
    subst hw4
    clear b0 b1 b2 b3 b4 b5
    have b4 : w4.cell? ⟨vb, 4, none⟩ = some (.slice aA nA cA) := cell_of HR.out.box rfl
    have b5 : w4.cell? ⟨vb, 5, none⟩ = some (.slice aB nB cB) := cell_of HR.out.box rfl
    go_wp2_with fail
    refine (back_calls HR.out.l1 (HP.out.2.2.1.kept HR.out.bk.fr (fun _ _ => id)) HR.out.h1 HP.out.2.2.2.2.2.2.1 hnA).mono ?_
    rintro e w5 ⟨rfl, hf5⟩
    have H5 : Hid (Bk w0 w5 bw nn' (fun g => g = vb ∨ g = g1 ∨ g = g2) ∧ w5.heap[vb]? = some (.cells #[.int .i64 kd, .int .i64 md, .string S, .string T, .slice aA nA cA, .slice aB nB cB] 60 (0, 0)) ∧ w5.heap[g2]? = some (.cells (chArr (lentL LB)) 49 (0, 0))) := ⟨HR.out.bk.turn (g := g1) (Or.inr (Or.inl rfl)) HR.out.h1 hf5, (hf5.block vb (lt_of HR.out.box) HR.out.n2.1).trans HR.out.box, (hf5.block g2 (lt_of HR.out.l2) (Ne.symm HR.out.n1)).trans HR.out.l2⟩
    clear hf5
    have c5 : w5.cell? ⟨vb, 5, none⟩ = some (.slice aB nB cB) := cell_of H5.out.2.1 rfl
    go_wp2_with fail
    refine (back_calls H5.out.2.2 (HP.out.2.2.2.1.kept H5.out.1.fr (fun _ _ => id)) HR.out.h2 HP.out.2.2.2.2.2.2.2.1 hnB).mono ?_
    rintro e w6 ⟨rfl, hf6⟩
    have H6 : Hid (Bk w0 w6 bw nn' (fun g => g = vb ∨ g = g1 ∨ g = g2)) := H5.out.1.turn (g := g2) (Or.inr (Or.inr rfl)) HR.out.h2 hf6
    clear hf6
    go_wp2
    go_ret
    exact ⟨rfl, nn', hnn', H6.out.more (fun g hg => hg.elim)⟩

end Go.Proofs.YtmhaknejeobfgabGreatDoor

/- All9. -/
namespace Go.Proofs.YtmhaknejeobfgabGreatDoor
open Go.RowKit Go.Proofs.YtmhaknejeobfgabGreatDoor.Stable Go.Proofs.YtmhaknejeobfgabGreatDoor.Order Go.Proofs.YtmhaknejeobfgabGreatDoor.Points
attribute [local go_sem ↓] Go.wp_at_zero Go.wp_at_succ

/-- A call of a script. -/
structure OpV where
  kd : Int
  md : Int
  s : ByteArray
  t : ByteArray
  aA : Option Addr
  cA : Nat
  lA : List Chk
  aB : Option Addr
  cB : Nat
  lB : List Chk

/-- It lies there. -/
structure OpIs (w : World) (b off : Nat) (o : OpV) : Prop where
  lt : b < w.heap.size
  c0 : w.cell? ⟨b, off, none⟩ = some (.int .i64 o.kd)
  c1 : w.cell? ⟨b, off + 1, none⟩ = some (.int .i64 o.md)
  c2 : w.cell? ⟨b, off + 2, none⟩ = some (.string o.s)
  c3 : w.cell? ⟨b, off + 3, none⟩ = some (.string o.t)
  c4 : w.cell? ⟨b, off + 4, none⟩ = some (.slice o.aA o.lA.length o.cA)
  c5 : w.cell? ⟨b, off + 5, none⟩ = some (.slice o.aB o.lB.length o.cB)
  hA : ChunksIn w w.heap.size o.aA o.lA
  hB : ChunksIn w w.heap.size o.aB o.lB
  nA : o.aA = none → o.cA = 0
  nB : o.aB = none → o.cB = 0
  hs : o.s.size + o.t.size ≤ 1048576
  hl : (bytesOf o.lA).length + o.lA.length + ((bytesOf o.lB).length + o.lB.length) ≤ 1048576

/-- A script. -/
def OpsIn (w : World) (a : Option Addr) (ops : List OpV) : Prop := ∀ (j : Nat) (o : OpV), ops[j]? = some o → ∃ b off, a = some ⟨b, off, none⟩ ∧ OpIs w b (off + j * 6) o

theorem Bk.start (w : World) : Bk w (w.alloc (.cells #[.slice none 0 0, .slice none 0 0, .int .i64 0] 57)) w.heap.size 0 (fun _ => False) := by
  refine ⟨[], [], none, 0, none, 0, ⟨heap_alloc_new w _, ⟨rfl, .inl ⟨rfl, rfl⟩⟩, Row.none _ _, fun j e m he => (by cases he), by simp, fun y hy => (by cases hy), fun y hy => (by cases hy)⟩, rfl, Nat.le_refl _, fun e he => (by cases he), Nat.le_refl _, fun y hy => (by cases hy), fun y hy => (by cases hy), (Fr.refl _ _).alloc _, fun g hg => hg.elim, fun g hg => hg.elim⟩

theorem known_A : keyL 0 [195, 133] = [65, 204, 138] := by decide +kernel

set_option maxRecDepth 100000 in
set_option maxHeartbeats 3200000 in
theorem all_walk {w : World} {a : Option Addr} {ops : List OpV} {cp n : Nat} (hE : Env w) (h : OpsIn w a ops) (hn : n = ops.length) (hl : n ≤ 1048576) :
    Calls Tryz.prog 8 #[.slice a n cp] w fun e w' => e = .returned (.bool true) ∧ Fr (fun _ => False) w w' := by
  have HP : Hid (Env w ∧ OpsIn w a ops ∧ n = ops.length) := ⟨hE, h, hn⟩
  have HS : Hid (Bk w (w.alloc (.cells #[.slice none 0 0, .slice none 0 0, .int .i64 0] 57)) w.heap.size 0 (fun _ => False)) := Bk.start w
  have hkey := fun w' (f : Fr (fun _ => False) w w') => key_calls 0 ⟨#[195, 133]⟩ w' (by decide) (by decide) (hE.kept f (fun _ _ => id)) (by decide)
  have ek : keyL 0 (⟨#[195, 133]⟩ : ByteArray).data.toList = [65, 204, 138] := known_A
  rw [ek] at hkey
  have HK : Hid (∀ w', Fr (fun _ => False) w w' → Calls Tryz.prog 23 #[.int .i64 0, .string ⟨#[195, 133]⟩] w' fun e w'' => e = .returned (.tuple #[.string ⟨#[65, 204, 138]⟩, .int .i64 0]) ∧ Fr (fun _ => False) w' w'') := hkey
  clear hE h hn hkey ek
  go_enter Tryz.func8, Tryz.ntmps8
  go_wp2
  generalize w.alloc (.cells #[.slice none 0 0, .slice none 0 0, .int .i64 0] 57) = w1 at *
  obtain ⟨bw, hbw⟩ : ∃ b, b = w.heap.size := ⟨_, rfl⟩
  rw [← hbw] at HS
  rw [← hbw]
  clear hbw
  go_loopw [4] (fun v4 wr => ∃ i : Nat, v4 = .int .i64 i ∧ i ≤ n ∧ Hid (∃ nn, nn ≤ i ∧ Bk w wr bw nn (fun _ => False))) (fun v4 _ => n - (intOf v4).toNat)
  case atStart => exact ⟨0, rfl, Nat.zero_le _, 0, Nat.le_refl _, HS.out⟩
  case round =>
    obtain ⟨i, rfl, hi, HX⟩ := hrel
    obtain ⟨nn, hnn, hB⟩ := HX.out
    have HB : Hid (Bk w wr bw nn (fun _ => False)) := hB
    clear HX hB
    by_cases hlt : i < n
    · have i1 : (0 : Int) ≤ (i : Int) := by omega
      have i2 : (i : Int) < (n : Int) := by omega
      obtain ⟨o, ho⟩ : ∃ o, ops[i]? = some o := ⟨_, List.getElem?_eq_getElem (by have := HP.out.2.2; omega)⟩
      obtain ⟨b, off, rfl, hO⟩ := HP.out.2.1 i o ho
      have HO : Hid (OpIs w b (off + i * 6) o) := hO
      obtain ⟨kd, md, s, t, aA, cA, lA, aB, cB, lB⟩ := o
      obtain ⟨nA, hnA⟩ : ∃ nA, nA = lA.length := ⟨_, rfl⟩
      obtain ⟨nB, hnB⟩ : ∃ nB, nB = lB.length := ⟨_, rfl⟩
      have f := HB.out.fr
      have c0 : wr.cell? ⟨b, off + i * 6, none⟩ = some (.int .i64 kd) := f.cell id hO.lt hO.c0
      have c1 : wr.cell? ⟨b, off + i * 6 + 1, none⟩ = some (.int .i64 md) := f.cell id hO.lt hO.c1
      have c2 : wr.cell? ⟨b, off + i * 6 + 2, none⟩ = some (.string s) := f.cell id hO.lt hO.c2
      have c3 : wr.cell? ⟨b, off + i * 6 + 3, none⟩ = some (.string t) := f.cell id hO.lt hO.c3
      have c4 : wr.cell? ⟨b, off + i * 6 + 4, none⟩ = some (.slice aA nA cA) := by rw [hnA]; exact f.cell id hO.lt hO.c4
      have c5 : wr.cell? ⟨b, off + i * 6 + 5, none⟩ = some (.slice aB nB cB) := by rw [hnB]; exact f.cell id hO.lt hO.c5
      have HL : Hid (nA = lA.length ∧ nB = lB.length) := ⟨hnA, hnB⟩
      clear hO ho f hnA hnB
      go_wp2_with (first
        | (go_at_call 21; refine (step_calls HB.out HP.out.1 HO.out.hA HO.out.hB HO.out.nA HO.out.nB HL.out.1 HL.out.2 HO.out.hs HO.out.hl (by omega)).mono ?_; rintro e w2 ⟨rfl, nn2, hnn2, hB2⟩; have HB2 : Hid (Bk w w2 bw nn2 (fun _ => False)) := hB2; clear hB2)
        | (go_at_call 22; obtain ⟨es, ms, al, cl, am, cm, A⟩ := HB2.out; refine (kept_calls A.kp A.len (by have := A.el; omega) (fun e he => by have := A.small e he; omega)).mono ?_; rintro e w3 ⟨rfl, hf3⟩; have HB3 : Hid (Bk w w3 bw nn2 (fun _ => False)) := HB2.out.keep hf3; clear hf3 A))
      exact ⟨⟨i + 1, by go_num, by omega, nn2, by omega, HB3.out⟩, by simp [intOf]; omega⟩
    · obtain rfl : i = n := by omega
      go_wp2_with (go_at_call 23; refine (HK.out _ HB.out.fr).mono ?_; rintro e w2 ⟨rfl, hf2⟩; have H2 : Hid (Fr (fun _ => False) w w2) := HB.out.fr.trans hf2 (fun _ _ q => q); clear hf2)
      go_ret
      exact ⟨rfl, H2.out⟩

end Go.Proofs.YtmhaknejeobfgabGreatDoor
