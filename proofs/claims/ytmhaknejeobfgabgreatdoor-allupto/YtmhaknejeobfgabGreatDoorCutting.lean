/- A stage's first: the first code point that goes out, if one goes in alone. Whether a text may be cut ahead of a code point. Cuts: where a text may be cut. -/
import Derived.Test.YtmhaknejeobfgabGreatDoorStages
import Derived.Test.YtmhaknejeobfgabGreatDoorLining
import Derived.Test.YtmhaknejeobfgabGreatDoorBase
import Derived.Deep.LoopGhost
import Derived.Test.YtmhaknejeobfgabGreatDoorComparing
import Derived.Test.YtmhaknejeobfgabGreatDoorQueues
import Derived.Lib.TrimUEq
import Derived.Lib.OthersKept
import Derived.Maps.AppendAt

/- Cuts1. -/
namespace Go.Proofs.YtmhaknejeobfgabGreatDoor
open Go.RowKit Go.Proofs.YtmhaknejeobfgabGreatDoor.Stable Go.Proofs.YtmhaknejeobfgabGreatDoor.Order Go.Proofs.YtmhaknejeobfgabGreatDoor.Points
attribute [local go_sem ↓] Go.wp_at_zero Go.wp_at_succ

/-- A stage of which only the table and the switches are looked at. -/
structure Look (w : World) (hi bs os B : Nat) (k f : Bool) : Prop where
  tab : TabIn w hi B
  c0 : w.cell? ⟨bs, os, none⟩ = some (.map (some B))
  c1 : w.cell? ⟨bs, os + 1, none⟩ = some (.bool k)
  c2 : w.cell? ⟨bs, os + 2, none⟩ = some (.bool f)
  lt : bs < w.heap.size

theorem Look.kept {w w' : World} {hi bs os B : Nat} {k f : Bool} (h : Look w hi bs os B k f) (hf : Fr (fun _ => False) w w') : Look w' hi bs os B k f :=
  ⟨h.tab.kept hf (fun _ _ => id), hf.cell id h.lt h.c0, hf.cell id h.lt h.c1, hf.cell id h.lt h.c2, by have := hf.size; have := h.lt; omega⟩

set_option maxRecDepth 100000 in
theorem foldingOf_look {w : World} {hi bs os B : Nat} {k f : Bool} (c : Int) (H : Look w hi bs os B k f) (h0 : -2147483648 ≤ c) (h1 : c ≤ 2147483647) :
    Calls Tryz.prog 104 #[.pointer (some ⟨bs, os, none⟩), .int .i32 c] w fun e w' => ∃ a m, e = .returned (.slice a (foldS f c).length m) ∧ Given w w' hi (.slice a (foldS f c).length m) (foldS f c) := by
  have cT := H.c0
  have cF := H.c2
  have hnot : ∀ (x : Bool) (w : World), (Op.unary .not (.bool x)).run Tryz.prog w = .ok (.bool (!x)) w := fun _ _ => rfl
  have HT : Hid (TabIn w hi B) := H.tab
  clear H
  cases f with
  | false =>
    go_enter Tryz.func104, Tryz.ntmps104
    go_wp2
    go_ret
    exact ⟨none, 0, rfl, none, .inl ⟨rfl, .inl rfl⟩, fun x hx => (by cases hx), Fr.refl _ _⟩
  | true =>
    go_enter Tryz.func104, Tryz.ntmps104
    go_wp2_with (go_at_call 127; refine (folding_calls HT.out c h0 h1).mono ?_; rintro e w' ⟨a, m, rfl, hG⟩)
    go_ret
    exact ⟨a, m, rfl, hG⟩

theorem apartN_ne {k : Bool} : ∀ (n : Nat) (c : Int), apartN n k c ≠ []
  | 0, c => by simp [apartN]
  | n + 1, c => by
    rw [apartN]
    split
    · simp
    · rename_i h
      cases hp : partsOf k c with
      | nil => exact absurd hp h
      | cons p r =>
        intro e
        rw [List.flatMap_cons] at e
        exact apartN_ne n p (List.append_eq_nil_iff.1 e).1

theorem headD_app {a b : List Int} (h : a ≠ []) : (a ++ b).headD 0 = a.headD 0 := by
  cases a with
  | nil => exact absurd rfl h
  | cons x r => rfl

/-- What is found of c: after at most d steps the first is H. -/
def Found (k : Bool) (d : Nat) (c H : Int) : Prop := Flat k d c ∧ (apartN d k c).headD 0 = H ∧ -2147483648 ≤ c ∧ c ≤ 2147483647

theorem Found.done {k : Bool} {d : Nat} {c H : Int} (h : Found k d c H) (hp : partsOf k c = []) : c = H := by
  have := h.2.1
  rw [apartN_nil hp] at this
  exact this

theorem Found.next {k : Bool} {d : Nat} {c H p : Int} {r : List Int} (h : Found k d c H) (hp : partsOf k c = p :: r) : ∃ d', d' < d ∧ Found k d' p H := by
  obtain ⟨h1, h2, h3, h4⟩ := h
  have hr := (parts_are k c).2.1 p (by rw [hp]; simp)
  cases d with
  | zero =>
    have h1 : partsOf k c = [] := h1
    rw [hp] at h1
    cases h1
  | succ d =>
    refine ⟨d, by omega, h1 p (by rw [hp]; simp), ?_, by omega, by omega⟩
    rw [apartN, hp, if_neg (by simp), List.flatMap_cons, headD_app (apartN_ne d p)] at h2
    exact h2

theorem found_start {k f : Bool} {c c0 : Int} (h0 : -2147483648 ≤ c) (h1 : c ≤ 2147483647) (hc : (foldS f c = [] ∧ c0 = c) ∨ ∃ r, foldS f c = c0 :: r) : Found k 2 c0 (headOf k f c) := by
  rcases hc with ⟨hf, rfl⟩ | ⟨r, hf⟩
  · refine ⟨(parts_are k c0).2.2, ?_, h0, h1⟩
    unfold headOf
    rw [pieces_nil hf]
    rfl
  · have hr := (foldS_are f c).2 c0 (by rw [hf]; simp)
    refine ⟨(parts_are k c0).2.2, ?_, by omega, by omega⟩
    unfold headOf
    rw [pieces_fold (by rw [hf]; simp), hf, List.flatMap_cons, headD_app (show apart k c0 ≠ [] from apartN_ne 2 c0)]
    rfl

theorem given_first {w w' : World} {hi : Nat} {a : Option Addr} {n m : Nat} {p : Int} {r : List Int} (hn : n = (p :: r).length) (h : Given w w' hi (.slice a n m) (p :: r)) : ∃ x o, a = some ⟨x, o, none⟩ ∧ w'.cell? ⟨x, o, none⟩ = some (.int .i32 p) := by
  subst hn
  obtain ⟨g, hs, _, _⟩ := h
  rcases hs with ⟨h, _⟩ | ⟨x, o, c', cur, e, _, hv, hx, hcur⟩
  · cases h
  · cases hv
    refine ⟨x, o, rfl, cell_of hx ?_⟩
    have := hcur 0 (by simp)
    simpa using this

set_option maxRecDepth 100000 in
set_option maxHeartbeats 3200000 in
theorem first_calls {w : World} {hi bs os B : Nat} {k f : Bool} (c : Int) (H : Look w hi bs os B k f) (h0 : -2147483648 ≤ c) (h1 : c ≤ 2147483647) :
    Calls Tryz.prog 92 #[.pointer (some ⟨bs, os, none⟩), .int .i32 c] w fun e w' => e = .returned (.int .i32 (headOf k f c)) ∧ Fr (fun _ => False) w w' := by
  have HL : Hid (Look w hi bs os B k f) := H
  clear H
  cases hf : foldS f c with
  | nil =>
    have HFD : Hid (Found k 2 c (headOf k f c)) := found_start h0 h1 (.inl ⟨hf, rfl⟩)
    have HS : Hid (foldS f c = []) := hf
    clear hf
    go_enter Tryz.func92, Tryz.ntmps92
    go_wp2_with fail
    refine (foldingOf_look c HL.out h0 h1).mono ?_
    rw [HS.out]
    rintro e w1 ⟨a, m, rfl, hG⟩
    have HF1 : Hid (Fr (fun _ => False) w w1) := hG.choose_spec.2.2
    clear hG
    have HL1 : Hid (Look w1 hi bs os B k f) := HL.out.kept HF1.out
    have e0 := HL1.out.c0
    have e1 := HL1.out.c1
    have r0 := HFD.out.2.2.1
    have r1 := HFD.out.2.2.2
    go_wp2_with fail
    go_region_held3 (fun w' => w'.cell? ⟨bs, os, none⟩ = some (.map (some B)) ∧ w'.cell? ⟨bs, os + 1, none⟩ = some (.bool k)) (go_keep)
      (first | (go_at_call 115; refine (parts_calls (HL1.out.tab.kept (S := fun _ => False) (Fr.refl _ _).drew (fun _ _ => id)) c r0 r1 k).mono ?_; rintro e w2 ⟨a2, m2, rfl, hG2⟩; have hf2 := Fr.of_drew hG2.choose_spec.2.2; have HG2 : Hid (Given w1.drew w2 hi (.slice a2 (partsOf k c).length m2) (partsOf k c) ∧ Fr (fun _ => False) w w2) := ⟨hG2, HF1.out.trans hf2 (fun _ _ h => h)⟩; clear hG2 hf2; have q0 := (HL.out.kept HG2.out.2).c0; have q1 := (HL.out.kept HG2.out.2).c1))
    go_wp2
    go_loopg [1, 6] 2 (fun d vc vp wr => ∃ c' a n m, vc = .int .i32 c' ∧ vp = .slice a n m ∧ n = (partsOf k c').length ∧ Hid (Found k d c' (headOf k f c) ∧ Fr (fun _ => False) w wr ∧ ∃ wb, Given wb wr hi (.slice a n m) (partsOf k c')))
    case atStart => exact ⟨c, a2, _, m2, rfl, rfl, rfl, HFD.out, HG2.out.2, _, HG2.out.1⟩
    case round =>
      obtain ⟨c', a', n', m', rfl, rfl, hn', hh⟩ := hrel
      cases hp : partsOf k c' with
      | nil =>
        have hn0 : n' = 0 := by rw [hn', hp]; rfl
        subst hn0
        have HD : Hid (c' = headOf k f c) := hh.out.1.done hp
        clear hn' hp
        go_wp2
        go_ret
        rw [← HD.out]
        exact ⟨rfl, hh.out.2.1⟩
      | cons p r =>
        obtain ⟨hF, hfw, wb, hg⟩ := hh.out
        rw [hp] at hg hn'
        obtain ⟨d', hd', hF'⟩ := hF.next hp
        obtain ⟨x, o, rfl, cX⟩ := given_first hn' hg
        have npos : (0 : Int) < (n' : Int) := by rw [hn']; simp
        have u0 := (HL.out.kept hfw).c0
        have u1 := (HL.out.kept hfw).c1
        have r0' := hF'.2.2.1
        have r1' := hF'.2.2.2
        have HX : Hid (Found k d' p (headOf k f c) ∧ d' < gk ∧ Fr (fun _ => False) w wr ∧ TabIn wr hi B) := ⟨hF', hd', hfw, (HL.out.kept hfw).tab⟩
        clear hF hfw hg hF' hd' hn' hh hp
        go_wp2_with fail
        go_region_held3 (fun w' => w'.cell? ⟨bs, os, none⟩ = some (.map (some B)) ∧ w'.cell? ⟨bs, os + 1, none⟩ = some (.bool k)) (go_keep)
          (first | (go_at_call 115; refine (parts_calls (HX.out.2.2.2.kept (S := fun _ => False) (Fr.refl _ _).drew (fun _ _ => id)) p r0' r1' k).mono ?_; rintro e w3 ⟨a3, m3, rfl, hG3⟩; have hf3 := Fr.of_drew hG3.choose_spec.2.2; have HG3 : Hid (Given wr.drew w3 hi (.slice a3 (partsOf k p).length m3) (partsOf k p) ∧ Fr (fun _ => False) w w3) := ⟨hG3, HX.out.2.2.1.trans hf3 (fun _ _ h => h)⟩; clear hG3 hf3; have q0 := (HL.out.kept HG3.out.2).c0; have q1 := (HL.out.kept HG3.out.2).c1))
        go_wp2
        go_roundg d'
        case measure => exact HX.out.2.1
        case rel => exact ⟨p, a3, _, m3, rfl, rfl, rfl, HX.out.1, HG3.out.2, _, HG3.out.1⟩
  | cons c0 r =>
    have HFD : Hid (Found k 2 c0 (headOf k f c)) := found_start h0 h1 (.inr ⟨r, hf⟩)
    have HS : Hid (foldS f c = c0 :: r) := hf
    have hlen : (c0 :: r).length ≤ 18 := hf ▸ (foldS_are f c).1
    clear hf
    go_enter Tryz.func92, Tryz.ntmps92
    go_wp2_with fail
    refine (foldingOf_look c HL.out h0 h1).mono ?_
    rw [HS.out]
    rintro e w1 ⟨a, m, rfl, hG⟩
    obtain ⟨x0, o0, rfl, cX0⟩ := given_first rfl hG
    have HF1 : Hid (Fr (fun _ => False) w w1) := hG.choose_spec.2.2
    clear hG
    obtain ⟨nl, hnl⟩ : ∃ nl, nl = (c0 :: r).length := ⟨_, rfl⟩
    rw [← hnl]
    have np : (0 : Int) < (nl : Int) := by rw [hnl]; simp
    clear hnl hlen
    have HL1 : Hid (Look w1 hi bs os B k f) := HL.out.kept HF1.out
    have e0 := HL1.out.c0
    have e1 := HL1.out.c1
    have r0 := HFD.out.2.2.1
    have r1 := HFD.out.2.2.2
    go_wp2_with fail
    go_region_held3 (fun w' => w'.cell? ⟨bs, os, none⟩ = some (.map (some B)) ∧ w'.cell? ⟨bs, os + 1, none⟩ = some (.bool k)) (go_keep)
      (first | (go_at_call 115; refine (parts_calls (HL1.out.tab.kept (S := fun _ => False) (Fr.refl _ _).drew (fun _ _ => id)) c0 r0 r1 k).mono ?_; rintro e w2 ⟨a2, m2, rfl, hG2⟩; have hf2 := Fr.of_drew hG2.choose_spec.2.2; have HG2 : Hid (Given w1.drew w2 hi (.slice a2 (partsOf k c0).length m2) (partsOf k c0) ∧ Fr (fun _ => False) w w2) := ⟨hG2, HF1.out.trans hf2 (fun _ _ h => h)⟩; clear hG2 hf2; have q0 := (HL.out.kept HG2.out.2).c0; have q1 := (HL.out.kept HG2.out.2).c1))
    go_wp2
    go_loopg [1, 6] 2 (fun d vc vp wr => ∃ c' a n m, vc = .int .i32 c' ∧ vp = .slice a n m ∧ n = (partsOf k c').length ∧ Hid (Found k d c' (headOf k f c) ∧ Fr (fun _ => False) w wr ∧ ∃ wb, Given wb wr hi (.slice a n m) (partsOf k c')))
    case atStart => exact ⟨c0, a2, _, m2, rfl, rfl, rfl, HFD.out, HG2.out.2, _, HG2.out.1⟩
    case round =>
      obtain ⟨c', a', n', m', rfl, rfl, hn', hh⟩ := hrel
      cases hp : partsOf k c' with
      | nil =>
        have hn0 : n' = 0 := by rw [hn', hp]; rfl
        subst hn0
        have HD : Hid (c' = headOf k f c) := hh.out.1.done hp
        clear hn' hp
        go_wp2
        go_ret
        rw [← HD.out]
        exact ⟨rfl, hh.out.2.1⟩
      | cons p r =>
        obtain ⟨hF, hfw, wb, hg⟩ := hh.out
        rw [hp] at hg hn'
        obtain ⟨d', hd', hF'⟩ := hF.next hp
        obtain ⟨x, o, rfl, cX⟩ := given_first hn' hg
        have npos : (0 : Int) < (n' : Int) := by rw [hn']; simp
        have u0 := (HL.out.kept hfw).c0
        have u1 := (HL.out.kept hfw).c1
        have r0' := hF'.2.2.1
        have r1' := hF'.2.2.2
        have HX : Hid (Found k d' p (headOf k f c) ∧ d' < gk ∧ Fr (fun _ => False) w wr ∧ TabIn wr hi B) := ⟨hF', hd', hfw, (HL.out.kept hfw).tab⟩
        clear hF hfw hg hF' hd' hn' hh hp
        go_wp2_with fail
        go_region_held3 (fun w' => w'.cell? ⟨bs, os, none⟩ = some (.map (some B)) ∧ w'.cell? ⟨bs, os + 1, none⟩ = some (.bool k)) (go_keep)
          (first | (go_at_call 115; refine (parts_calls (HX.out.2.2.2.kept (S := fun _ => False) (Fr.refl _ _).drew (fun _ _ => id)) p r0' r1' k).mono ?_; rintro e w3 ⟨a3, m3, rfl, hG3⟩; have hf3 := Fr.of_drew hG3.choose_spec.2.2; have HG3 : Hid (Given wr.drew w3 hi (.slice a3 (partsOf k p).length m3) (partsOf k p) ∧ Fr (fun _ => False) w w3) := ⟨hG3, HX.out.2.2.1.trans hf3 (fun _ _ h => h)⟩; clear hG3 hf3; have q0 := (HL.out.kept HG3.out.2).c0; have q1 := (HL.out.kept HG3.out.2).c1))
        go_wp2
        go_roundg d'
        case measure => exact HX.out.2.1
        case rel => exact ⟨p, a3, _, m3, rfl, rfl, rfl, HX.out.1, HG3.out.2, _, HG3.out.1⟩

end Go.Proofs.YtmhaknejeobfgabGreatDoor

/- Cuts2. -/
namespace Go.Proofs.YtmhaknejeobfgabGreatDoor
open Go.RowKit Go.Proofs.YtmhaknejeobfgabGreatDoor.Stable Go.Proofs.YtmhaknejeobfgabGreatDoor.Order Go.Proofs.YtmhaknejeobfgabGreatDoor.Points
attribute [local go_sem ↓] Go.wp_at_zero Go.wp_at_succ

/-- From the stage i on. -/
def cutFrom (m : Int) (i : Nat) (c : Int) : Nat → Bool
  | 0 => true
  | j + 1 => clsOf (headOf (kindAt m i).1 (kindAt m i).2 c) == 0 && cutFrom m (i + 1) (headOf (kindAt m i).1 (kindAt m i).2 c) j

theorem cut_all {m : Int} (h0 : 0 ≤ m) (h3 : m ≤ 3) (c : Int) : cutFrom m 0 c (stagesOf m) = mayCut m c := by
  rcases modes h0 h3 with rfl | rfl | rfl | rfl <;> rfl

theorem head_range {k f : Bool} {c : Int} (h : Valid c) : Valid (headOf k f c) := by
  unfold headOf
  cases hp : pieces k f c with
  | nil => exact absurd hp ((ok_all c).ne k f)
  | cons x r => exact (ok_all c).valid h k f x (by rw [hp]; simp)

/-- What Of has made, looked at stage by stage. -/
theorem Made.look {w0 w : World} {m : Int} {b0 B n : Nat} {cs : Array Value} (h : Made w0 w m b0 B n cs) (h0 : 0 ≤ m) (h3 : m ≤ 3) (hn : (kindL m).length = n) {i : Nat} (hi : i < n) : Look w b0 b0 (8 * i) B (kindAt m i).1 (kindAt m i).2 := by
  obtain ⟨p1, p2, p3, p4, p5, p6⟩ := h
  have hk := (kind_at h0 h3).2 i (by omega)
  have g0 := p4 i hi 0 (by omega)
  have g1 := p4 i hi 1 (by omega)
  have g2 := p4 i hi 2 (by omega)
  rw [hk.1] at g1
  rw [hk.2] at g2
  exact ⟨p5, cell_of p2 g0, cell_of p2 g1, cell_of p2 g2, lt_of p2⟩

set_option maxRecDepth 100000 in
set_option maxHeartbeats 1600000 in
theorem mayCutAt_calls {w0 w : World} {m : Int} {b0 B n : Nat} {cs : Array Value} (H : Made w0 w m b0 B n cs) (h0 : 0 ≤ m) (h3 : m ≤ 3) (hn : (kindL m).length = n) (c : Int) (hc : Valid c) :
    Calls Tryz.prog 69 #[.slice (some ⟨b0, 0, none⟩) n n, .int .i32 c] w fun e w' => e = .returned (.bool (mayCut m c)) ∧ Fr (fun _ => False) w w' := by
  have hst : n = stagesOf m := by rw [← hn]; exact (kind_at h0 h3).1
  have hn3 : n ≤ 3 := by
    rcases modes h0 h3 with rfl | rfl | rfl | rfl <;> (subst hn; decide)
  have HM : Hid (Made w0 w m b0 B n cs) := H
  have HN : Hid (0 ≤ m ∧ m ≤ 3 ∧ (kindL m).length = n) := ⟨h0, h3, hn⟩
  have HC : Hid (Valid c ∧ cutFrom m 0 c n = mayCut m c) := ⟨hc, by rw [hst]; exact cut_all h0 h3 c⟩
  clear H h0 h3 hn hc hst
  go_enter Tryz.func69, Tryz.ntmps69
  go_wp2
  go_loopw [1, 8] (fun vc vi wr => ∃ (i : Nat) (c' : Int), vi = .int .i64 i ∧ vc = .int .i32 c' ∧ i ≤ n ∧ Hid (Valid c' ∧ cutFrom m i c' (n - i) = mayCut m c ∧ Fr (fun _ => False) w wr)) (fun _ vi _ => n - (intOf vi).toNat)
  case atStart => exact ⟨0, c, rfl, rfl, Nat.zero_le _, HC.out.1, HC.out.2, Fr.refl _ _⟩
  case round =>
    obtain ⟨i, c', rfl, rfl, hi, hh⟩ := hrel
    by_cases hlt : i < n
    · have i0 : (0 : Int) ≤ (i : Int) := by omega
      have i1 : (i : Int) < (n : Int) := by omega
      obtain ⟨hv, hcut, hfr⟩ := hh.out
      obtain ⟨x, hx⟩ : ∃ x, x = headOf (kindAt m i).1 (kindAt m i).2 c' := ⟨_, rfl⟩
      obtain ⟨j, hj⟩ : ∃ j, n - i = j + 1 := ⟨n - i - 1, by omega⟩
      rw [hj] at hcut
      have hstep : cutFrom m i c' (j + 1) = (clsOf x == 0 && cutFrom m (i + 1) x j) := by rw [hx]; rfl
      rw [hstep] at hcut
      have hxv : Valid x := by rw [hx]; exact head_range hv
      have HLK : Hid (Look wr b0 b0 (8 * i) B (kindAt m i).1 (kindAt m i).2) := (HM.out.kept hfr).look HN.out.1 HN.out.2.1 HN.out.2.2 hlt
      have HX : Hid (x = headOf (kindAt m i).1 (kindAt m i).2 c' ∧ Valid c' ∧ Valid x ∧ n - i = j + 1 ∧ (clsOf x == 0 && cutFrom m (i + 1) x j) = mayCut m c ∧ Fr (fun _ => False) w wr) := ⟨hx, hv, hxv, hj, hcut, hfr⟩
      have c0 : wr.cell? ⟨b0, i * 8, none⟩ = some (.map (some B)) := by rw [Nat.mul_comm]; exact HLK.out.c0
      have hlo := (ok_all x).lo
      have hhi := (ok_all x).hi
      clear hh hv hcut hfr hx hj hstep hxv
      by_cases hz : clsOf x = 0
      · have hzb : (clsOf x != 0) = false := by simp [hz]
        have HZ : Hid (clsOf x = 0) := hz
        clear hz
        go_wp2_with (first
          | (go_at_call 92; rw [Nat.mul_comm]; refine (first_calls c' HLK.out (valid_i32 HX.out.2.1).1 (valid_i32 HX.out.2.1).2).mono ?_; rw [← HX.out.1]; rintro e w1 ⟨rfl, hf1⟩; have HF1 : Hid (Fr (fun _ => False) wr w1) := hf1; clear hf1; have c1 : w1.cell? ⟨b0, i * 8, none⟩ = some (.map (some B)) := (by rw [Nat.mul_comm]; exact (HLK.out.kept HF1.out).c0))
          | (go_at_call 93; refine (class_calls (HLK.out.kept HF1.out).tab x (valid_i32 HX.out.2.2.1).1 (valid_i32 HX.out.2.2.1).2).mono ?_; rintro e w2 ⟨rfl, hw⟩; have hw' := hw.symm; subst hw'; clear hw))
        refine ⟨⟨i + 1, x, by go_num, rfl, by omega, HX.out.2.2.1, ?_, HX.out.2.2.2.2.2.trans HF1.out (fun _ _ h => h)⟩, by simp [intOf]; omega⟩
        have h1 := HX.out.2.2.2.2.1
        rw [HZ.out] at h1
        rw [show n - (i + 1) = j by have := HX.out.2.2.2.1; omega]
        simpa using h1
      · have hzb : (clsOf x != 0) = true := by simp [hz]
        have HZ : Hid (mayCut m c = false) := by
          rw [← HX.out.2.2.2.2.1]
          have : (clsOf x == 0) = false := by rw [beq_eq_false_iff_ne]; exact hz
          rw [this]
          exact rfl
        clear hz
        go_wp2_with (first
          | (go_at_call 92; rw [Nat.mul_comm]; refine (first_calls c' HLK.out (valid_i32 HX.out.2.1).1 (valid_i32 HX.out.2.1).2).mono ?_; rw [← HX.out.1]; rintro e w1 ⟨rfl, hf1⟩; have HF1 : Hid (Fr (fun _ => False) wr w1) := hf1; clear hf1; have c1 : w1.cell? ⟨b0, i * 8, none⟩ = some (.map (some B)) := (by rw [Nat.mul_comm]; exact (HLK.out.kept HF1.out).c0))
          | (go_at_call 93; refine (class_calls (HLK.out.kept HF1.out).tab x (valid_i32 HX.out.2.2.1).1 (valid_i32 HX.out.2.2.1).2).mono ?_; rintro e w2 ⟨rfl, hw⟩; have hw' := hw.symm; subst hw'; clear hw))
        go_ret
        rw [HZ.out]
        exact ⟨rfl, HX.out.2.2.2.2.2.trans HF1.out (fun _ _ h => h)⟩
    · obtain rfl : i = n := by omega
      have HT : Hid (mayCut m c = true) := by
        rw [← hh.out.2.1, Nat.sub_self]
        exact rfl
      go_wp2
      go_ret
      rw [HT.out]
      exact ⟨rfl, hh.out.2.2⟩

end Go.Proofs.YtmhaknejeobfgabGreatDoor

/- Cuts3. -/
namespace Go.Proofs.YtmhaknejeobfgabGreatDoor
open Go.RowKit Go.Proofs.YtmhaknejeobfgabGreatDoor.Stable Go.Proofs.YtmhaknejeobfgabGreatDoor.Order Go.Proofs.YtmhaknejeobfgabGreatDoor.Points
attribute [local go_sem ↓] Go.wp_at_zero Go.wp_at_succ

theorem Fr.iterAt (w : World) (k : Nat) (s : ByteArray) (pos : Nat) : Fr (fun x => x = k) w (w.iterAt k s pos) :=
  ⟨rfl, rfl, rfl, by rw [Lib.iterAt_size]; exact Nat.le_refl _, fun j _ hj => Lib.iterAt_other w k j s pos hj⟩

/-- Places, as a row holds them. -/
def rowOf (l : List Nat) : List Value := l.map fun p => Value.int .i64 ((p : Nat) : Int)

/-- The places from one on that are cuts. -/
def cutsFrom (m : Int) (o : Nat) (l : List UInt8) : List Nat := ((pts o l).filter (fun p => decide (0 < p.1) && mayCut m p.2)).map Prod.fst

theorem cutsFrom_nil (m : Int) (o : Nat) : cutsFrom m o [] = [] := rfl

theorem cutsFrom_step (m : Int) (o : Nat) (l : List UInt8) (h : l ≠ []) : cutsFrom m o l = (if (decide (0 < o) && mayCut m ((Lib.decodeL l).1 : Int)) = true then [o] else []) ++ cutsFrom m (o + (Lib.decodeL l).2) (l.drop (Lib.decodeL l).2) := by
  unfold cutsFrom
  rw [pts_step o l h, List.filter_cons]
  split <;> simp

/-- Where the loop of Cuts stands. -/
def CutAt (w1 wr : World) (k : Nat) (m : Int) (s : ByteArray) (pos : Nat) (acc : List Nat) (v : Value) : Prop :=
  wr.heap[k]? = some (.stringIter s pos) ∧ wr.ownsRow (k + 1) 3 1 v acc.length (rowOf acc) ∧ Fr (fun _ => False) w1 wr ∧ k = w1.heap.size ∧ pos ≤ s.data.toList.length ∧ acc.length ≤ pos ∧ acc ++ cutsFrom m pos (s.data.toList.drop pos) = cutsOf m s.data.toList

theorem drop_ne {l : List UInt8} {p : Nat} (h : p < l.length) : l.drop p ≠ [] := fun e => by
  have := congrArg List.length e
  rw [List.length_drop] at this
  simp at this
  omega

/-- A step of the text's iterator. -/
theorem CutAt.next {w1 wr : World} {k : Nat} {m : Int} {s : ByteArray} {pos : Nat} {acc : List Nat} {v : Value} (h : CutAt w1 wr k m s pos acc v) (hp : pos < s.size) :
    ∃ c d : Nat, (∀ ty, (Instr.next (.pointer (some ⟨k, 0, none⟩)) true ty).run Tryz.prog wr = .ok (.tuple #[.bool true, .int .i64 pos, .int .i32 c]) (wr.iterAt k s (pos + d))) ∧ Valid c ∧ 1 ≤ d ∧ pos + d ≤ s.data.toList.length ∧ acc ++ ((if (decide (0 < pos) && mayCut m c) = true then [pos] else []) ++ cutsFrom m (pos + d) (s.data.toList.drop (pos + d))) = cutsOf m s.data.toList := by
  obtain ⟨h1, h2, h3, h4, h5, h6, h7⟩ := h
  have hs : pos < s.data.toList.length := by rw [← Lib.size_eq]; exact hp
  have hne := drop_ne hs
  have hd := Lib.decodeL_drop s pos
  refine ⟨(Utf8.decode s pos).1, (Utf8.decode s pos).2, fun ty => Lib.run_next_any_at wr k s pos ty h1 hp, ?_, ?_, ?_, ?_⟩
  · rw [← hd]; exact dec_valid _
  · rw [← hd]; exact Lib.decodeL_width _
  · rw [← hd]
    have := Lib.decodeL_le _ hne
    rw [List.length_drop] at this
    omega
  · rw [← h7, cutsFrom_step m pos _ hne, hd, List.drop_drop]

theorem CutAt.step3 {w1 wr w' : World} {k : Nat} {m : Int} {s : ByteArray} {pos d : Nat} {acc : List Nat} {v : Value} (h : CutAt w1 wr k m s pos acc v) (hf : Fr (fun _ => False) (wr.iterAt k s (pos + d)) w') : w'.heap[k]? = some (.stringIter s (pos + d)) ∧ w'.ownsRow (k + 1) 3 1 v acc.length (rowOf acc) ∧ Fr (fun _ => False) w1 w' := by
  obtain ⟨h1, h2, h3, h4, h5, h6, h7⟩ := h
  have f1 := Fr.iterAt wr k s (pos + d)
  have h8 := Lib.iterAt_heap wr k s pos (pos + d) h1
  refine ⟨(hf.block k (lt_of h8) id).trans h8, ?_, (h3.trans f1 (fun i hi h => by omega)).trans hf (fun _ _ h => h)⟩
  refine row_kept (row_kept h2 f1 (fun x hx e => ?_)) hf (fun _ _ => id)
  have := (row_lt h2 hx).1
  omega

theorem CutAt.stepped {w1 wr w' : World} {k : Nat} {m : Int} {s : ByteArray} {pos d : Nat} {acc : List Nat} {v : Value} (h : CutAt w1 wr k m s pos acc v) (hf : Fr (fun _ => False) (wr.iterAt k s (pos + d)) w') (hd : pos + d ≤ s.data.toList.length) (hc : acc ++ cutsFrom m (pos + d) (s.data.toList.drop (pos + d)) = cutsOf m s.data.toList) : CutAt w1 w' k m s (pos + d) acc v := by
  obtain ⟨k1, k2, k3⟩ := h.step3 hf
  obtain ⟨h1, h2, h3, h4, h5, h6, h7⟩ := h
  exact ⟨k1, k2, k3, h4, hd, by omega, hc⟩

/-- .. and a place more. -/
theorem CutAt.more {w1 wr w' w2 : World} {k : Nat} {m : Int} {s : ByteArray} {pos : Nat} {acc : List Nat} {v v' : Value} {p : Nat} (h1 : wr.heap[k]? = some (.stringIter s pos)) (h2 : wr.ownsRow (k + 1) 3 1 v acc.length (rowOf acc)) (h3 : Fr (fun _ => False) w1 wr) (h4 : k = w1.heap.size) (h5 : pos ≤ s.data.toList.length) (h6 : acc.length + 1 ≤ pos) (h7 : (acc ++ [p]) ++ cutsFrom m pos (s.data.toList.drop pos) = cutsOf m s.data.toList) (hf : Fr (fun _ => False) wr w2) (hg : w2.grownBy w' v.ownBlock) (ho : w'.ownsRow (k + 1) 3 1 v' (acc.length + 1) (rowOf acc ++ [.int .i64 p])) : CutAt w1 w' k m s pos (acc ++ [p]) v' := by
  have hr : ∀ x, v.ownBlock = some x → k < x := fun x hx => (row_lt h2 hx).1
  have f2 : Fr (fun x => some x = v.ownBlock) wr w' := (hf.mono (fun _ _ h => h.elim)).grown hg (fun x hx _ => hx.symm)
  refine ⟨(f2.block k (lt_of h1) (fun e => ?_)).trans h1, ?_, h3.trans f2 (fun i hi e => ?_), h4, h5, by simpa using h6, h7⟩
  · exact absurd (hr k e.symm) (Nat.lt_irrefl _)
  · have e1 : (acc ++ [p]).length = acc.length + 1 := by simp
    have e2 : rowOf (acc ++ [p]) = rowOf acc ++ [.int .i64 p] := by simp [rowOf]
    rw [e1, e2]
    exact ho
  · have := hr i e.symm
    omega

set_option maxRecDepth 100000 in
theorem cuts_none (m : Int) (s : ByteArray) (w : World) (h : m < 0 ∨ 3 < m) :
    Calls Tryz.prog 42 #[.int .i64 m, .string s] w fun e w' => e = .returned (.tuple #[.slice none 0 0, .int .i64 1]) ∧ w' = w := by
  have HM : Hid (m < 0 ∨ 3 < m) := h
  clear h
  go_enter Tryz.func42, Tryz.ntmps42
  go_wp2_with (go_at_call 24; refine (of_none m _ HM.out).mono ?_; rintro e w' ⟨rfl, hw⟩; have hw' := hw.symm; subst hw'; clear hw)
  go_ret2
  exact ⟨rfl, rfl⟩

set_option maxRecDepth 100000 in
set_option maxHeartbeats 1600000 in
theorem cuts_calls (m : Int) (s : ByteArray) (w : World) (h0 : 0 ≤ m) (h3 : m ≤ 3) (hE : Env w) (hbd : s.data.toList.length ≤ 1099511627776) :
    Calls Tryz.prog 42 #[.int .i64 m, .string s] w fun e w' => ∃ a cp, e = .returned (.tuple #[.slice a (cutsOf m s.data.toList).length cp, .int .i64 0]) ∧ w'.ownsRow w.heap.size 3 1 (.slice a (cutsOf m s.data.toList).length cp) (cutsOf m s.data.toList).length (rowOf (cutsOf m s.data.toList)) ∧ Fr (fun _ => False) w w' := by
  obtain ⟨i0, hi0, hz0, hz1, hz2⟩ := info_parts Tryz.info_int
  have HI : Hid (Tryz.prog.info? 3 = some i0 ∧ i0.zero = some (.int .i64 0) ∧ i0.size = 1 ∧ i0.bytes = 8) := ⟨hi0, hz0, hz1, hz2⟩
  have HM : Hid (0 ≤ m ∧ m ≤ 3 ∧ s.data.toList.length ≤ 1099511627776) := ⟨h0, h3, hbd⟩
  have HE : Hid (Env w) := hE
  obtain ⟨n, hn⟩ : ∃ n, (kindL m).length = n := ⟨_, rfl⟩
  have HN : Hid ((kindL m).length = n) := hn
  clear hE h0 h3 hbd hn hi0 hz0 hz1 hz2
  go_enter Tryz.func42, Tryz.ntmps42
  go_wp2_with (go_at_call 24; refine (of_calls m _ HM.out.1 HM.out.2.1 HE.out).mono ?_; rintro e w1 ⟨b0, B, cs, rfl, p1, p2, p3, p4, p5, p6⟩; rw [HN.out] at p3 p4 ⊢; have HP : Hid (Made w w1 m b0 B n cs) := ⟨p1, p2, p3, p4, p5, p6⟩; clear p1 p2 p3 p4 p5 p6)
  go_loopw [8] (fun vk wr => ∃ (a : Option Addr) (acc : List Nat) (cp pos : Nat), vk = .slice a acc.length cp ∧ Hid (CutAt w1 wr w1.heap.size m s pos acc (.slice a acc.length cp))) (fun _ wr => s.size - wr.iterPos w1.heap.size)
  case atStart =>
    refine ⟨none, [], 0, 0, rfl, World.iter_heap w1 s 0, ⟨rfl, .inl ⟨rfl, rfl⟩⟩, (Fr.refl _ _).alloc _, rfl, Nat.zero_le _, Nat.le_refl _, rfl⟩
  case round =>
    obtain ⟨a, acc, cp, pos, rfl, hh⟩ := hrel
    by_cases hp : pos < s.size
    · obtain ⟨c, d, hnx, hcv, hd1, hd2, hcut⟩ := hh.out.next hp
      have f1 := Fr.iterAt wr w1.heap.size s (pos + d)
      have hpos : wr.iterPos w1.heap.size = pos := by simp [World.iterPos, hh.out.1]
      have HS : Hid (CutAt w1 wr w1.heap.size m s pos acc (.slice a acc.length cp) ∧ 1 ≤ d ∧ pos + d ≤ s.data.toList.length ∧ Valid (c : Int) ∧ pos < s.size ∧ wr.iterPos w1.heap.size = pos) := ⟨hh.out, hd1, hd2, hcv, hp, hpos⟩
      obtain ⟨W2, hW2⟩ : ∃ W2, W2 = wr.iterAt w1.heap.size s (pos + d) := ⟨_, rfl⟩
      rw [← hW2] at hnx f1
      have HW2 : Hid (W2 = wr.iterAt w1.heap.size s (pos + d) ∧ Made w W2 m b0 B n cs) := ⟨hW2, HP.out.kept (hh.out.2.2.1.trans f1 (fun i hi e => by omega))⟩
      clear hh hcv hd1 hd2 hp hpos f1 hW2
      by_cases h0 : pos = 0
      · subst h0
        have hc : acc ++ cutsFrom m (0 + d) (s.data.toList.drop (0 + d)) = cutsOf m s.data.toList := by simpa using hcut
        have HC : Hid (acc ++ cutsFrom m (0 + d) (s.data.toList.drop (0 + d)) = cutsOf m s.data.toList) := hc
        clear hc hcut
        go_wp2
        go_roundw
        case rel => exact ⟨a, acc, cp, 0 + d, rfl, HS.out.1.stepped (HW2.out.1 ▸ Fr.refl _ _) HS.out.2.2.1 HC.out⟩
        case measure =>
          have h8 := Lib.iterAt_heap wr w1.heap.size s 0 (0 + d) HS.out.1.1
          rw [← HW2.out.1] at h8
          have h9 : W2.iterPos w1.heap.size = 0 + d := by simp [World.iterPos, h8]
          have h10 := HS.out.2
          omega
      · have hg : (0 : Int) < (pos : Int) := by omega
        have hgt : decide (0 < pos) = true := by simp; omega
        by_cases hb : mayCut m c = true
        · have hc : (acc ++ [pos]) ++ cutsFrom m (pos + d) (s.data.toList.drop (pos + d)) = cutsOf m s.data.toList := by
            rw [hgt, hb] at hcut
            simpa using hcut
          have HC : Hid ((acc ++ [pos]) ++ cutsFrom m (pos + d) (s.data.toList.drop (pos + d)) = cutsOf m s.data.toList ∧ mayCut m c = true) := ⟨hc, hb⟩
          clear hc hcut hb h0 hgt
          go_wp2_with (first
            | (go_at_call 69; refine (mayCutAt_calls HW2.out.2 HM.out.1 HM.out.2.1 HN.out (c : Int) HS.out.2.2.2.1).mono ?_; rw [HC.out.2]; rintro e W3 ⟨rfl, hf3⟩; have HF3 : Hid (Fr (fun _ => False) W2 W3) := hf3; clear hf3)
            | (at_builtin; refine wpList_append_own_at _ rfl _ _ 31 rfl (w1.heap.size + 1) 3 i0 (.int .i64 0) 1 8 Tryz.underlying31 HI.out.1 HI.out.2.1 HI.out.2.2.1 HI.out.2.2.2 rfl (by decide) (.slice a acc.length cp) acc.length (rowOf acc) rfl ?own ⟨W3.heap.size, 0, none⟩ 1 1 [.int .i64 pos] rfl rfl (cell_one_new _ _ _) (by intro u hu; simp at hu; subst hu; rfl) ?len ?bytes ?base ?grow))
          case own => exact row_kept (HS.out.1.step3 (d := d) (HW2.out.1 ▸ HF3.out)).2.1 ((Fr.refl (fun _ => False) W3).alloc _) (fun _ _ => id)
          case len =>
            have h1 := HS.out.1.2.2.2.2
            have h2 := HM.out.2.2
            unfold maxLen
            omega
          case bytes =>
            have h1 := HS.out.1.2.2.2.2
            have h2 := HM.out.2.2
            omega
          case base =>
            have h1 := (HS.out.1.step3 (d := d) (HW2.out.1 ▸ HF3.out)).1
            have h2 := lt_of h1
            simp
            omega
          case grow =>
            intro v' w4 hown hgrow _ _
            obtain ⟨a', c', rfl⟩ := row_form hown
            have HG : Hid (CutAt w1 w4 w1.heap.size m s (pos + d) (acc ++ [pos]) (.slice a' (acc.length + 1) c')) := by
              obtain ⟨k1, k2, k3⟩ := HS.out.1.step3 (d := d) (HW2.out.1 ▸ HF3.out)
              have h1 := HS.out.1.2.2.2.2.2.1
              have h2 := HS.out.2.1
              exact CutAt.more k1 k2 k3 rfl HS.out.2.2.1 (by omega) HC.out.1 ((Fr.refl _ _).alloc _) hgrow hown
            clear hown hgrow
            go_wp2
            go_roundw
            case rel =>
              refine ⟨a', acc ++ [pos], c', pos + d, by simp, ?_⟩
              have e1 : (acc ++ [pos]).length = acc.length + 1 := by simp
              rw [e1]
              exact HG.out
            case measure =>
              have h8 := HG.out.1
              have h9 : w4.iterPos w1.heap.size = pos + d := by simp [World.iterPos, h8]
              have h10 := HS.out.2
              omega
        · have hb' : mayCut m c = false := by simpa using hb
          have hc : acc ++ cutsFrom m (pos + d) (s.data.toList.drop (pos + d)) = cutsOf m s.data.toList := by
            rw [hgt, hb'] at hcut
            simpa using hcut
          have HC : Hid (acc ++ cutsFrom m (pos + d) (s.data.toList.drop (pos + d)) = cutsOf m s.data.toList ∧ mayCut m c = false) := ⟨hc, hb'⟩
          clear hc hcut hb hb' h0 hgt
          go_wp2_with (go_at_call 69; refine (mayCutAt_calls HW2.out.2 HM.out.1 HM.out.2.1 HN.out (c : Int) HS.out.2.2.2.1).mono ?_; rw [HC.out.2]; rintro e W3 ⟨rfl, hf3⟩; have HF3 : Hid (Fr (fun _ => False) W2 W3) := hf3; clear hf3)
          go_roundw
          case rel => exact ⟨a, acc, cp, pos + d, rfl, HS.out.1.stepped (HW2.out.1 ▸ HF3.out) HS.out.2.2.1 HC.out.1⟩
          case measure =>
            have h8 := (HS.out.1.stepped (HW2.out.1 ▸ HF3.out) HS.out.2.2.1 HC.out.1).1
            have h9 : W3.iterPos w1.heap.size = pos + d := by simp [World.iterPos, h8]
            have h10 := HS.out.2
            omega
    · have hnx := fun ty => Lib.run_next_end_at (P := Tryz.prog) wr w1.heap.size s pos ty hh.out.1 hp
      have hend : acc = cutsOf m s.data.toList := by
        have h7 := hh.out.2.2.2.2.2.2
        rw [List.drop_eq_nil_of_le (by rw [← Lib.size_eq]; omega), cutsFrom_nil, List.append_nil] at h7
        exact h7
      have HD : Hid (acc = cutsOf m s.data.toList) := hend
      clear hend
      go_wp2
      go_ret2
      rw [← HD.out]
      refine ⟨a, cp, rfl, ?_, HP.out.2.2.2.2.2.trans hh.out.2.2.1 (fun _ _ h => h)⟩
      have hs := HP.out.2.2.2.2.2.size
      exact row_low hh.out.2.1 (by omega)

end Go.Proofs.YtmhaknejeobfgabGreatDoor
