/- Does what comes out of each stage of one code point begin with a starter? Plain lists. The document's answer: may a text be cut ahead of a code point; the places where it may, walked. The document's answer: the places where a text may be cut, walked; the law Cuttings, walked: it answers true. What the listed variables give at the call's first world, and a world that holds them. What the law Cuttings asks of its arguments, and what its walk gives. -/
import Derived.Test.YtmhaknejeobfgaaDoorRefs2
import Derived.Test.YtmhaknejeobfgaaDoorBase
import Derived.Test.YtmhaknejeobfgaaDoorCutting
import Derived.Test.YtmhaknejeobfgaaDoorTables
import Derived.Test.YtmhaknejeobfgaaDoorShelf
import Derived.Test.YtmhaknejeobfgaaDoorRows
import Derived.Deep.DeepHandedRow
import Derived.Deep.DeepWitnessRowRef
import Derived.Lib.LaidTab
import Derived.Lib.LaidU8
import Derived.ProofKit
import Derived.Deep.DeepLaidRun
import Derived.OpenShut

/- Ref30. -/
namespace Go.Proofs.YtmhaknejeobfgaaDoor
open Go.Proofs.YtmhaknejeobfgaaDoor.Stable Go.Proofs.YtmhaknejeobfgaaDoor.Order Go.Proofs.YtmhaknejeobfgaaDoor.Points

theorem marks_head : ∀ (l ms : List Int), ms ≠ [] → (∀ x ∈ ms, clsOf x ≠ 0) → ∃ q r, ordGo clsOf ms l = q :: r ∧ clsOf q ≠ 0 := by
  have hs : ∀ (ms t : List Int), ms ≠ [] → (∀ x ∈ ms, clsOf x ≠ 0) → ∃ q r, sortC clsOf ms ++ t = q :: r ∧ clsOf q ≠ 0 := fun ms t hne hm => by
    cases h : sortC clsOf ms with
    | nil =>
      have := sortC_length clsOf ms
      rw [h] at this
      exact absurd (List.eq_nil_of_length_eq_zero this.symm) hne
    | cons q r => exact ⟨q, r ++ t, rfl, hm q (sortC_mem.1 (by rw [h]; simp))⟩
  intro l
  induction l with
  | nil =>
    intro ms hne hm
    have := hs ms [] hne hm
    rwa [List.append_nil] at this
  | cons c r ih =>
    intro ms hne hm
    rw [ordGo]
    split
    · exact hs ms _ hne hm
    · rename_i hc
      refine ih (ms ++ [c]) (by simp) (fun x hx => ?_)
      rcases List.mem_append.1 hx with hx | hx
      · exact hm x hx
      · rw [List.mem_singleton.1 hx]; exact hc

/-- The first of what goes out. -/
theorem ord_first (d : Int) (r : List Int) : ∃ q t, ord clsOf (d :: r) = q :: t ∧ (clsOf q = 0 ↔ clsOf d = 0) ∧ (clsOf d = 0 → q = d) := by
  by_cases h : clsOf d = 0
  · exact ⟨d, _, ord_cons clsOf d h r, Iff.rfl, fun _ => rfl⟩
  · have e : ord clsOf (d :: r) = ordGo clsOf [d] r := by unfold ord; rw [ordGo, if_neg h]; rfl
    obtain ⟨q, t, h1, h2⟩ := marks_head r [d] (by simp) (by simpa using h)
    exact ⟨q, t, e.trans h1, ⟨fun k => absurd k h2, fun k => absurd k h⟩, fun k => absurd k h⟩

def hdAt (m c : Int) : Nat → Int
  | 0 => headOf (m == 1) false c
  | i + 1 => headOf (m == 3) true (hdAt m c i)

def okAt (m c : Int) : Nat → Bool
  | 0 => clsOf (hdAt m c 0) == 0
  | i + 1 => okAt m c i && clsOf (hdAt m c (i + 1)) == 0

/-- What comes out of the stage i. -/
def lsAt (m c : Int) (i : Nat) : List Int := inAt (kindAt m) true [c] (i + 1)

theorem ls_zero (m c : Int) : lsAt m c 0 = outOf true ([c].flatMap (pieces (m == 1) false)) := rfl

theorem ls_succ (m c : Int) (i : Nat) : lsAt m c (i + 1) = outOf true ((lsAt m c i).flatMap (pieces (m == 3) true)) := by
  have ek : kindAt m (i + 1) = (m == 3, true) := by unfold kindAt; rw [if_neg (by omega)]
  unfold lsAt
  rw [inAt, ek]

theorem out_true (l : List Int) : outOf true l = ord clsOf l := by unfold outOf; rw [if_pos rfl]

theorem pieces_cons (k f : Bool) (c : Int) : ∃ r, pieces k f c = headOf k f c :: r := by
  cases hp : pieces k f c with
  | nil => exact absurd hp ((ok_all c).ne k f)
  | cons d r => exact ⟨r, by unfold headOf; rw [hp]; rfl⟩

theorem ls_ne (m c : Int) : ∀ i, ∃ q r, lsAt m c i = q :: r
  | 0 => by
    obtain ⟨r, hr⟩ := pieces_cons (m == 1) false c
    obtain ⟨q, t, h, _⟩ := ord_first (headOf (m == 1) false c) r
    exact ⟨q, t, by rw [ls_zero, out_true, flat_one, hr]; exact h⟩
  | i + 1 => by
    obtain ⟨q0, r0, h0⟩ := ls_ne m c i
    obtain ⟨r, hr⟩ := pieces_cons (m == 3) true q0
    obtain ⟨q, t, h, _⟩ := ord_first (headOf (m == 3) true q0) (r ++ r0.flatMap (pieces (m == 3) true))
    exact ⟨q, t, by rw [ls_succ, h0, out_true, List.flatMap_cons, hr, List.cons_append]; exact h⟩

/-- As long as all were starters the first is known. -/
theorem ls_head (m c : Int) : ∀ i, (∀ j, j < i → okAt m c j = true) → ∀ q r, lsAt m c i = q :: r → (clsOf q = 0 ↔ clsOf (hdAt m c i) = 0) ∧ (clsOf (hdAt m c i) = 0 → q = hdAt m c i)
  | 0, _, q, r, h => by
    obtain ⟨r1, hr⟩ := pieces_cons (m == 1) false c
    obtain ⟨q', t, h1, h2⟩ := ord_first (headOf (m == 1) false c) r1
    rw [ls_zero, out_true, flat_one, hr, h1] at h
    cases h
    exact h2
  | i + 1, hok, q, r, h => by
    obtain ⟨q0, r0, h0⟩ := ls_ne m c i
    have hi := hok i (by omega)
    have hz : clsOf (hdAt m c i) = 0 := by
      cases i with
      | zero => simpa [okAt] using hi
      | succ i =>
        rw [okAt, Bool.and_eq_true] at hi
        simpa using hi.2
    have e0 := (ls_head m c i (fun j hj => hok j (by omega)) q0 r0 h0).2 hz
    subst e0
    obtain ⟨r1, hr⟩ := pieces_cons (m == 3) true (hdAt m c i)
    obtain ⟨q', t, h1, h2⟩ := ord_first (headOf (m == 3) true (hdAt m c i)) (r1 ++ r0.flatMap (pieces (m == 3) true))
    rw [ls_succ, h0, out_true, List.flatMap_cons, hr, List.cons_append, h1] at h
    cases h
    exact h2

theorem ok_down (m c : Int) : ∀ i, okAt m c i = true → ∀ j, j ≤ i → okAt m c j = true
  | 0, h, j, hj => by
    have : j = 0 := by omega
    subst this
    exact h
  | i + 1, h, j, hj => by
    rw [okAt, Bool.and_eq_true] at h
    by_cases e : j = i + 1
    · subst e
      rw [okAt, Bool.and_eq_true]
      exact h
    · exact ok_down m c i h.1 j (by omega)

theorem ok_zero {m c q : Int} {r : List Int} (h : lsAt m c 0 = q :: r) : okAt m c 0 = (clsOf q == 0) := by
  have := (ls_head m c 0 (fun j hj => absurd hj (Nat.not_lt_zero _)) q r h).1
  rw [okAt, Bool.eq_iff_iff, beq_iff_eq, beq_iff_eq]
  exact this.symm

theorem ok_succ {m c q : Int} {i : Nat} {r : List Int} (h : lsAt m c (i + 1) = q :: r) : okAt m c (i + 1) = (okAt m c i && clsOf q == 0) := by
  rw [okAt]
  cases hi : okAt m c i with
  | false => rfl
  | true =>
    have := (ls_head m c (i + 1) (fun j hj => ok_down m c i hi j (by omega)) q r h).1
    rw [Bool.true_and, Bool.true_and, Bool.eq_iff_iff, beq_iff_eq, beq_iff_eq]
    exact this.symm

theorem may_ok {m c : Int} (h0 : 0 ≤ m) (h3 : m ≤ 3) : mayCut m c = okAt m c (m.toNat - 1) := by
  rcases modes h0 h3 with rfl | rfl | rfl | rfl
  · simp [mayCut, more_0, cutOk, okAt, hdAt]
  · simp [mayCut, more_1, cutOk, okAt, hdAt]
  · simp [mayCut, more_2, cutOk, okAt, hdAt]
  · simp [mayCut, more_3, cutOk, okAt, hdAt, Bool.and_assoc]

theorem ls_len (m c : Int) (i : Nat) (hi : i ≤ 2) : (lsAt m c i).length ≤ 5832 := by
  have h := (got_length (kindAt m) true [c] (i + 1)).1
  have h2 : 18 ^ (i + 1) ≤ 18 ^ 3 := Nat.pow_le_pow_right (by decide) (by omega)
  unfold lsAt
  simp at h
  have : (18 : Nat) ^ 3 = 5832 := by decide
  omega

theorem ls_valid {m c : Int} (h : Valid c) (i : Nat) : ∀ x ∈ lsAt m c i, Valid x := inAt_valid (by simpa using h) _

/-- The cuts among the first i code points. -/
def cutsTo (m : Int) (P : List (Nat × Int)) (i : Nat) : List Int := (((P.take i).drop 1).filter (fun p => mayCut m p.2)).map (fun p => (p.1 : Int))

theorem cutsTo_one (m : Int) (P : List (Nat × Int)) : cutsTo m P 1 = [] := by
  unfold cutsTo
  cases P with
  | nil => rfl
  | cons p r => simp

theorem cutsTo_step {m : Int} {P : List (Nat × Int)} {i : Nat} {p : Nat × Int} (h1 : 1 ≤ i) (h : P[i]? = some p) : cutsTo m P (i + 1) = cutsTo m P i ++ if mayCut m p.2 = true then [(p.1 : Int)] else [] := by
  have hi : i < P.length := (List.getElem?_eq_some_iff.1 h).1
  have e : (P.take (i + 1)).drop 1 = (P.take i).drop 1 ++ [p] := by
    rw [List.take_add_one, h, Option.toList_some, List.drop_append_of_le_length (by rw [List.length_take]; omega)]
  unfold cutsTo
  rw [e, List.filter_append, List.map_append]
  congr 1
  by_cases hc : mayCut m p.2 = true
  · simp [hc]
  · simp [hc]

theorem cutsTo_all (m : Int) (l : List UInt8) {i : Nat} (h : (pts 0 l).length ≤ i) : cutsTo m (pts 0 l) i = (cutsOf m l).map (fun (p : Nat) => (p : Int)) := by
  unfold cutsTo cutsOf
  rw [List.take_of_length_le h, List.map_map]
  by_cases hne : l = []
  · subst hne; rfl
  · have hr := pts_rise l.length 0 l (Nat.le_refl _)
    rw [pts_step 0 l hne] at hr ⊢
    rw [List.drop_succ_cons, List.drop_zero]
    have hp := (List.pairwise_cons.1 hr).1
    rw [List.filter_cons_of_neg (by simp)]
    have e : ∀ q : List (Nat × Int), (∀ p ∈ q, 0 < p.1) → q.filter (fun p => mayCut m p.2) = q.filter (fun p => decide (0 < p.1) && mayCut m p.2) := fun q hq => by
      apply List.filter_congr
      intro x hx
      simp [hq x hx]
    rw [e _ hp]
    rfl

end Go.Proofs.YtmhaknejeobfgaaDoor

/- Ref31. -/
namespace Go.Proofs.YtmhaknejeobfgaaDoor
open Go.RowKit Go.Proofs.YtmhaknejeobfgaaDoor.Stable Go.Proofs.YtmhaknejeobfgaaDoor.Order Go.Proofs.YtmhaknejeobfgaaDoor.Points
attribute [local go_sem ↓] Go.wp_at_zero Go.wp_at_succ

/-- What has come of i stages. -/
structure LsAt (w wr : World) (m c : Int) (i : Nat) (a : Option Addr) (cl n : Nat) : Prop where
  row : Row wr w.heap.size a cl (lsAt m c i)
  len : n = (lsAt m c i).length
  fr : Fr (fun _ => False) w wr

set_option maxRecDepth 100000 in
set_option maxHeartbeats 1600000 in
theorem starts_calls (m c : Int) (w : World) (h0 : 0 ≤ m) (h3 : m ≤ 3) (hc : Valid c) :
    Calls Tryd.prog 12 #[.int .i64 m, .int .i64 c] w fun e w' => e = .returned (.bool (mayCut m c)) ∧ Fr (fun _ => False) w w' := by
  obtain ⟨b1, hb1⟩ : ∃ b1, b1 = (m == 1) := ⟨_, rfl⟩
  obtain ⟨b3, hb3⟩ : ∃ b3, b3 = (m == 3) := ⟨_, rfl⟩
  obtain ⟨km, hkm⟩ : ∃ km, km = m.toNat - 1 := ⟨_, rfl⟩
  obtain ⟨res, hres⟩ : ∃ res, res = mayCut m c := ⟨_, rfl⟩
  rw [← hres]
  have HM : Hid ((m == 1) = b1 ∧ (m == 3) = b3 ∧ Valid c ∧ res = okAt m c km ∧ km ≤ 2) := ⟨hb1.symm, hb3.symm, hc, by rw [hres, hkm]; exact may_ok h0 h3, by omega⟩
  have hk1 : ∀ k : Nat, 1 ≤ k → ((k : Int) < m ↔ k < km + 1) := fun k hk => by omega
  have HK1 : Hid (∀ k : Nat, 1 ≤ k → ((k : Int) < m ↔ k < km + 1)) := hk1
  clear hk1 hb1 hb3 hkm hc hres
  have HW0 : Hid (Row (w.alloc (.cells #[.int .i64 c] 3)) w.heap.size (some ⟨w.heap.size, 0, none⟩) 1 [c] ∧ Fr (fun _ => False) w (w.alloc (.cells #[.int .i64 c] 3))) := ⟨Row.new w [c] (n := 1) rfl rfl (by omega), (Fr.refl _ _).alloc _⟩
  go_enter Tryd.func12, Tryd.ntmps12
  go_upto_region 2 with (go_at_call 18; rw [HM.out.1]; refine (stage_calls b1 false true (n := 1) HW0.out.1.ints (by simpa using HM.out.2.2.1) rfl (by omega)).mono ?_; rintro x w1 ⟨a1, p1, n1, d1, rfl, hs⟩; have HS : Hid (LsAt w w1 m c 0 a1 p1 n1) := ⟨by rw [ls_zero, HM.out.1]; exact hs.row.low HW0.out.2.size, by rw [ls_zero, HM.out.1]; exact hs.len, HW0.out.2.trans hs.fr (fun _ _ h => h)⟩; clear hs)
  obtain ⟨q, r, hq⟩ := ls_ne m c 0
  have hqv := ls_valid (m := m) HM.out.2.2.1 0 q (by rw [hq]; simp)
  obtain ⟨q0, q1⟩ := valid_range hqv
  obtain ⟨g, rfl, hcq, hgl⟩ := HS.out.row.at (i := 0) (x := q) (by rw [hq]; rfl)
  have hn0 : 0 < n1 := by rw [HS.out.len, hq]; simp
  have hn0' : (0 : Int) < (n1 : Int) := by omega
  have HQ : Hid (lsAt m c 0 = q :: r) := hq
  clear hq hqv hgl
  go_wp2_with fail
  refine (fact_calls q _ q0 q1).mono ?_
  rintro e w2 ⟨af, ca, bf, cb, rfl, -, hf2⟩
  rw [factV_eq]
  obtain ⟨np, hnp⟩ : ∃ np, np = (rawParts q).length := ⟨_, rfl⟩
  obtain ⟨nf, hnf⟩ : ∃ nf, nf = (rawFold q).length := ⟨_, rfl⟩
  obtain ⟨z, hz⟩ : ∃ z, z = clsOf q := ⟨_, rfl⟩
  obtain ⟨kd, hkd⟩ : ∃ kd, kd = kindOf q := ⟨_, rfl⟩
  rw [← hnp, ← hnf, ← hz, ← hkd]
  obtain ⟨ok, hok⟩ : ∃ ok, ok = (z == 0) := ⟨_, rfl⟩
  have HOK : Hid (ok = okAt m c 0 ∧ (z == 0) = ok) := ⟨by rw [hok, ok_zero HQ.out, hz], hok.symm⟩
  have HF2 : Hid (Fr (fun _ => False) w1 w2) := hf2
  clear hf2 hnp hnf hz hkd hok hcq
  go_upto_region 3 with fail
  change Code.wp _ _ _ _ (w2.alloc (factC z kd af np ca bf nf cb))
  have HW : Hid ((w2.alloc (factC z kd af np ca bf nf cb)).heap[w2.heap.size]? = some (factC z kd af np ca bf nf cb) ∧ LsAt w (w2.alloc (factC z kd af np ca bf nf cb)) m c 0 (some ⟨g, 0, none⟩) p1 n1) := ⟨heap_alloc_new w2 _, HS.out.row.keep (HF2.out.alloc _), HS.out.len, HS.out.fr.trans (HF2.out.alloc _) (fun _ _ h => h)⟩
  obtain ⟨vf, hvf⟩ : ∃ vf, vf = w2.heap.size := ⟨_, rfl⟩
  rw [← hvf] at HW ⊢
  clear HF2 hvf HS HQ
  generalize w2.alloc (factC z kd af np ca bf nf cb) = W at *
  have d0 : W.cell? ⟨vf, 0, none⟩ = some (.int .i64 z) := cell_of HW.out.1 rfl
  go_cut [8] (fun v wc => v = .bool ok ∧ wc = W)
  case first =>
    have h1 := HOK.out.2
    go_wp2
    go_meet
    case rel => exact ⟨rfl, rfl⟩
  case rest =>
    obtain ⟨rfl, rfl⟩ := hcut
    obtain ⟨W, hWW⟩ : ∃ W, W = wc := ⟨_, rfl⟩
    subst hWW
    clear d0
    go_wp2
    go_loopw [5, 8, 9] (fun v5 v8 v9 wr => ∃ (k nl : Nat) (ok : Bool) (al : Option Addr) (cl : Nat), v5 = .slice al nl cl ∧ v8 = .bool ok ∧ v9 = .int .i64 k ∧ 1 ≤ k ∧ k ≤ km + 1 ∧ Hid (LsAt w wr m c (k - 1) al cl nl ∧ ok = okAt m c (k - 1))) (fun _ _ v9 _ => km + 1 - (intOf v9).toNat)
    case atStart => exact ⟨1, n1, ok, some ⟨g, 0, none⟩, p1, rfl, rfl, rfl, Nat.le_refl _, by omega, HW.out.2, HOK.out.1⟩
    case round =>
      obtain ⟨k, nl, ok, al, cl, rfl, rfl, rfl, hk1, hk2, HX⟩ := hrel
      have hkm := HK1.out k hk1
      have hkm2 := HM.out.2.2.2.2
      by_cases hlt : k < km + 1
      · have i1 : (k : Int) < m := hkm.2 hlt
        obtain ⟨i, rfl⟩ : ∃ i, k = i + 1 := ⟨k - 1, by omega⟩
        rw [Nat.add_sub_cancel] at HX
        have HLS : Hid (IntsAt wr al (lsAt m c i) ∧ (∀ x ∈ lsAt m c i, Valid x) ∧ nl = (lsAt m c i).length ∧ nl ≤ 2147483648) := ⟨HX.out.1.row.ints, ls_valid HM.out.2.2.1 i, HX.out.1.len, by rw [HX.out.1.len]; have := ls_len m c i (by omega); omega⟩
        clear hkm
        go_upto_region 8 with (go_at_call 18; rw [HM.out.2.1]; refine (stage_calls b3 true true HLS.out.1 HLS.out.2.1 HLS.out.2.2.1 HLS.out.2.2.2).mono ?_; rintro x w3 ⟨a3, p3, n3, d3, rfl, hs⟩; have HS : Hid (LsAt w w3 m c (i + 1) a3 p3 n3) := ⟨by rw [ls_succ, HM.out.2.1]; exact hs.row.low HX.out.1.fr.size, by rw [ls_succ, HM.out.2.1]; exact hs.len, HX.out.1.fr.trans hs.fr (fun _ _ h => h)⟩; clear hs)
        obtain ⟨q', r', hq⟩ := ls_ne m c (i + 1)
        have hqv := ls_valid (m := m) HM.out.2.2.1 (i + 1) q' (by rw [hq]; simp)
        obtain ⟨q0', q1'⟩ := valid_range hqv
        obtain ⟨g', rfl, hcq', hgl'⟩ := HS.out.row.at (i := 0) (x := q') (by rw [hq]; rfl)
        have hm0 : 0 < n3 := by rw [HS.out.len, hq]; simp
        have hm0' : (0 : Int) < (n3 : Int) := by omega
        have HOK2 : Hid (okAt m c (i + 1) = (ok && clsOf q' == 0)) := Hid.mk0 (by rw [ok_succ hq, HX.out.2])
        clear hq hqv hgl'
        go_wp2_with fail
        refine (fact_calls q' _ q0' q1').mono ?_
        rintro e w4 ⟨af', ca', bf', cb', rfl, -, hf4⟩
        rw [factV_eq]
        obtain ⟨np', hnp⟩ : ∃ np, np = (rawParts q').length := ⟨_, rfl⟩
        obtain ⟨nf', hnf⟩ : ∃ nf, nf = (rawFold q').length := ⟨_, rfl⟩
        obtain ⟨z', hz⟩ : ∃ z, z = clsOf q' := ⟨_, rfl⟩
        obtain ⟨kd', hkd⟩ : ∃ kd, kd = kindOf q' := ⟨_, rfl⟩
        rw [← hz] at HOK2
        rw [← hnp, ← hnf, ← hz, ← hkd]
        have HF4 : Hid (Fr (fun _ => False) w3 w4) := hf4
        clear hf4 hnp hnf hz hkd hcq'
        go_upto_region 10 with fail
        change Code.wp _ _ _ _ (w4.alloc (factC z' kd' af' np' ca' bf' nf' cb'))
        have HW4 : Hid ((w4.alloc (factC z' kd' af' np' ca' bf' nf' cb')).heap[w4.heap.size]? = some (factC z' kd' af' np' ca' bf' nf' cb') ∧ LsAt w (w4.alloc (factC z' kd' af' np' ca' bf' nf' cb')) m c (i + 1) (some ⟨g', 0, none⟩) p3 n3) := ⟨heap_alloc_new w4 _, HS.out.row.keep (HF4.out.alloc _), HS.out.len, HS.out.fr.trans (HF4.out.alloc _) (fun _ _ h => h)⟩
        obtain ⟨vg, hvg⟩ : ∃ vg, vg = w4.heap.size := ⟨_, rfl⟩
        rw [← hvg] at HW4 ⊢
        clear HF4 hvg HS
        generalize w4.alloc (factC z' kd' af' np' ca' bf' nf' cb') = W4 at *
        have d0 : W4.cell? ⟨vg, 0, none⟩ = some (.int .i64 z') := cell_of HW4.out.1 rfl
        cases ok with
        | false =>
          rw [Bool.false_and] at HOK2
          go_wp2
          exact ⟨⟨i + 2, n3, false, some ⟨g', 0, none⟩, p3, rfl, rfl, by go_num, by omega, by omega, HW4.out.2, HOK2.out.symm⟩, by simp [intOf]; omega⟩
        | true =>
          rw [Bool.true_and] at HOK2
          obtain ⟨bz, hbz⟩ : ∃ bz, (z' == 0) = bz := ⟨_, rfl⟩
          rw [hbz] at HOK2
          go_wp2
          exact ⟨⟨i + 2, n3, bz, some ⟨g', 0, none⟩, p3, rfl, rfl, by go_num, by omega, by omega, HW4.out.2, HOK2.out.symm⟩, by simp [intOf]; omega⟩
      · obtain rfl : k = km + 1 := by omega
        have i1 : ¬ ((km + 1 : Nat) : Int) < m := fun h => hlt (hkm.1 h)
        obtain rfl : ok = res := by rw [HX.out.2, HM.out.2.2.2.1, Nat.add_sub_cancel]
        have HFR : Hid (Fr (fun _ => False) w wr) := HX.out.1.fr
        clear hkm hlt HX
        go_wp2
        go_ret
        exact ⟨rfl, HFR.out⟩

end Go.Proofs.YtmhaknejeobfgaaDoor

/- Ref32. -/
namespace Go.Proofs.YtmhaknejeobfgaaDoor
open Go.RowKit Go.Proofs.YtmhaknejeobfgaaDoor.Stable Go.Proofs.YtmhaknejeobfgaaDoor.Order Go.Proofs.YtmhaknejeobfgaaDoor.Points
attribute [local go_sem ↓] Go.wp_at_zero Go.wp_at_succ

theorem rcuts_none (m : Int) (s : ByteArray) (w : World) (h : m < 0 ∨ 3 < m) :
    Calls Tryd.prog 5 #[.int .i64 m, .string s] w fun e w' => e = .returned (.tuple #[.slice none 0 0, .int .i64 1]) ∧ w' = w := by
  have HM : Hid (m < 0 ∨ 3 < m) := h
  clear h
  go_enter Tryd.func5, Tryd.ntmps5
  go_wp2_with (go_at_call 10; refine (isMode_no m _ HM.out).mono ?_; rintro e w' ⟨rfl, hw⟩; have hw' := hw.symm; subst hw'; clear hw)
  go_ret2
  exact ⟨rfl, rfl⟩

/-- Where its loop stands. -/
structure CtAt (w wr : World) (m : Int) (P : List (Nat × Int)) (i : Nat) (a : Option Addr) (c n : Nat) : Prop where
  row : Row wr w.heap.size a c (cutsTo m P i)
  len : n = (cutsTo m P i).length
  fr : Fr (fun _ => False) w wr

theorem cutsTo_len (m : Int) (P : List (Nat × Int)) (i : Nat) : (cutsTo m P i).length ≤ P.length := by
  unfold cutsTo
  rw [List.length_map]
  have h1 := List.length_filter_le (fun p : Nat × Int => mayCut m p.2) ((P.take i).drop 1)
  rw [List.length_drop, List.length_take] at h1
  omega

theorem pts_len : ∀ (n o : Nat) (l : List UInt8), l.length ≤ n → (pts o l).length ≤ l.length := fun n o l h => by
  have h1 := pts_codes l.length o l (Nat.le_refl _)
  have h2 := codes_len l
  rw [← h1, List.length_map] at h2
  exact h2

set_option maxRecDepth 100000 in
set_option maxHeartbeats 1600000 in
theorem rcuts_calls (m : Int) (s : ByteArray) (w : World) (h0 : 0 ≤ m) (h3 : m ≤ 3) (hs : s.size ≤ 1048576) :
    Calls Tryd.prog 5 #[.int .i64 m, .string s] w fun e w' => ∃ a cp n, e = .returned (.tuple #[.slice a n cp, .int .i64 0]) ∧ n = (cutsOf m s.data.toList).length ∧ Row w' w.heap.size a cp ((cutsOf m s.data.toList).map fun (p : Nat) => (p : Int)) ∧ Fr (fun _ => False) w w' := by
  obtain ⟨i0, hi0, hz0, hz1, hz2⟩ := info_parts Tryd.info_int
  have HI : Hid (Tryd.prog.info? 3 = some i0 ∧ i0.zero = some (.int .i64 0) ∧ i0.size = 1 ∧ i0.bytes = 8) := ⟨hi0, hz0, hz1, hz2⟩
  have hsz := Lib.size_eq s
  obtain ⟨P, hP⟩ : ∃ P, P = pts 0 s.data.toList := ⟨_, rfl⟩
  obtain ⟨C, hC⟩ : ∃ C, C = cutsOf m s.data.toList := ⟨_, rfl⟩
  rw [← hC]
  have HP : Hid (P = ptsR true 0 s.data.toList ∧ (∀ i, P.length ≤ i → cutsTo m P i = C.map fun (p : Nat) => (p : Int)) ∧ (∀ p ∈ P, Valid p.2) ∧ P.length ≤ 1048576 ∧ s.size ≤ 1099511627776 ∧ 0 ≤ m ∧ m ≤ 3) := by
    refine ⟨by rw [hP, ptsR_ended s.data.toList.length 0 _ (Nat.le_refl _)], fun i hi => by rw [hP] at hi ⊢; rw [hC]; exact cutsTo_all m _ hi, fun p hp => ?_, ?_, by omega, h0, h3⟩
    · rw [hP] at hp
      have := pts_codes s.data.toList.length 0 s.data.toList (Nat.le_refl _)
      refine codes_valid s.data.toList p.2 ?_
      rw [← this]
      exact List.mem_map_of_mem hp
    · rw [hP]
      have := pts_len s.data.toList.length 0 s.data.toList (Nat.le_refl _)
      omega
  clear hi0 hz0 hz1 hz2 hsz hP hC h0 h3 hs
  go_enter Tryd.func5, Tryd.ntmps5
  go_wp2_with (first
    | (go_at_call 10; refine (isMode_yes m _ HP.out.2.2.2.2.2.1 HP.out.2.2.2.2.2.2).mono ?_; rintro e w' ⟨rfl, hw⟩; have hw' := hw.symm; subst hw'; clear hw)
    | (go_at_call 11; refine (points_calls s true _ HP.out.2.2.2.2.1).mono ?_; rw [← HP.out.1]; rintro e w1 ⟨a1, p1, a2, p2, rfl, hp⟩; obtain ⟨n1, hn1⟩ : ∃ n1, n1 = P.length := ⟨_, rfl⟩; rw [← hn1]; have H1 : Hid (n1 = P.length ∧ PtsOut w w1 P a1 p1 a2 p2) := ⟨hn1, hp⟩; clear hn1 hp))
  have hn1 : n1 ≤ 1048576 := by rw [H1.out.1]; exact HP.out.2.2.2.1
  go_loopw [9, 10] (fun v9 v10 wr => ∃ (i no : Nat) (ao : Option Addr) (co : Nat), v9 = .slice ao no co ∧ v10 = .int .i64 i ∧ 1 ≤ i ∧ i ≤ n1 + 1 ∧ Hid (CtAt w1 wr m P i ao co no)) (fun _ v10 _ => n1 + 1 - (intOf v10).toNat)
  case atStart => exact ⟨1, 0, none, 0, rfl, rfl, Nat.le_refl _, by omega, by rw [cutsTo_one]; exact Row.none _ _, by rw [cutsTo_one]; rfl, Fr.refl _ _⟩
  case round =>
    obtain ⟨i, no, ao, co, rfl, rfl, hi1, hi2, HX⟩ := hrel
    have hno : no ≤ 1048576 := by have h1 := cutsTo_len m P i; have h2 := HX.out.len; have h3 := H1.out.1; omega
    by_cases hlt : i < n1
    · obtain ⟨⟨pl, x⟩, hx⟩ : ∃ x, P[i]? = some x := ⟨_, List.getElem?_eq_getElem (by have := H1.out.1; omega)⟩
      have hv : Valid x := HP.out.2.2.1 _ (List.mem_of_getElem? hx)
      obtain ⟨g1, rfl, hcx, hg1⟩ := H1.out.2.r1.at (i := i) (x := x) (by simp [hx])
      obtain ⟨g2, rfl, hcp, hg2⟩ := H1.out.2.r2.at (i := i) (x := (pl : Int)) (by simp [hx])
      have hcx' : wr.cell? ⟨g1, i, none⟩ = some (.int .i64 x) := HX.out.fr.cell id hg1 hcx
      have i1 : (0 : Int) ≤ (i : Int) := by omega
      have i2 : (i : Int) < (n1 : Int) := by omega
      obtain ⟨mc, hmc⟩ : ∃ mc, mc = mayCut m x := ⟨_, rfl⟩
      have HX1 : Hid (cutsTo m P (i + 1) = cutsTo m P i ++ (if mc = true then [(pl : Int)] else []) ∧ Valid x ∧ mc = mayCut m x ∧ w1.cell? ⟨g2, i, none⟩ = some (.int .i64 (pl : Int)) ∧ g2 < w1.heap.size) := ⟨by rw [cutsTo_step hi1 hx, hmc], hv, hmc, hcp, hg2⟩
      clear hx hv hmc hcx hcp hg1 hg2
      go_upto_if 33 with (go_at_call 12; refine (starts_calls m x _ HP.out.2.2.2.2.2.1 HP.out.2.2.2.2.2.2 HX1.out.2.1).mono ?_; rw [← HX1.out.2.2.1]; rintro e w2 ⟨rfl, hf2⟩; have H2 : Hid (Fr (fun _ => False) wr w2) := hf2; clear hf2)
      cases mc with
      | false =>
        have H3 : Hid (CtAt w1 w2 m P (i + 1) ao co no) := ⟨by rw [HX1.out.1]; simpa using HX.out.row.keep H2.out, by rw [HX1.out.1]; simpa using HX.out.len, HX.out.fr.trans H2.out (fun _ _ h => h)⟩
        clear HX
        go_wp2
        exact ⟨⟨i + 1, no, ao, co, rfl, by go_num, by omega, by omega, H3.out⟩, by simp [intOf]; omega⟩
      | true =>
        obtain ⟨L, hL⟩ : ∃ L, L = cutsTo m P i := ⟨_, rfl⟩
        obtain ⟨z, hz⟩ : ∃ z : Int, z = (pl : Int) := ⟨_, rfl⟩
        have hcp2 : w2.cell? ⟨g2, i, none⟩ = some (.int .i64 z) := by rw [hz]; exact H2.out.cell id (by have := HX.out.fr.size; have := HX1.out.2.2.2.2; omega) (HX.out.fr.cell id HX1.out.2.2.2.2 HX1.out.2.2.2.1)
        have HL : Hid (Row w2 w1.heap.size ao co L ∧ no = L.length ∧ Fr (fun _ => False) w1 w2 ∧ cutsTo m P (i + 1) = L ++ [z]) := ⟨by rw [hL]; exact HX.out.row.keep H2.out, by rw [hL]; exact HX.out.len, HX.out.fr.trans H2.out (fun _ _ h => h), by rw [HX1.out.1, hL, hz]; rfl⟩
        clear HX hL hz HX1
        go_wp2_with (at_builtin; refine wpList_append_own_at _ rfl _ _ 22 rfl w1.heap.size 3 i0 (.int .i64 0) 1 8 Tryd.underlying22 HI.out.1 HI.out.2.1 HI.out.2.2.1 HI.out.2.2.2 rfl (by decide) (.slice ao no co) no (ints L) rfl ?own ⟨w2.heap.size, 0, none⟩ 1 1 (ints [z]) rfl ?ln ?cells (ints_one _) ?len ?bytes ?base ?grow)
        case own => exact (HL.out.1.keep ((Fr.refl (fun _ => False) w2).alloc (Obj.cells #[.int .i64 z] 3))).row HL.out.2.1.symm
        case ln => rfl
        case cells => exact cell_one_new _ _ _
        case len => unfold maxLen; omega
        case bytes => omega
        case base => have := HL.out.2.2.1.size; simp; omega
        case grow =>
          intro v1 w3 k1 g1 _ _
          have HF : Hid (Fr (fun _ => False) w1 w3) := grown_new (HL.out.2.2.1.alloc (Obj.cells #[.int .i64 z] 3)) (HL.out.1.keep ((Fr.refl _ _).alloc _)) (Nat.le_refl _) g1
          have HM2 : Hid (∃ a' c', v1 = .slice a' (no + 1) c' ∧ Row w3 w1.heap.size a' c' (L ++ [z])) := Hid.mk0 (Row.of (by rw [List.length_append, HL.out.2.1]; rfl) (by rw [ints_append]; exact k1))
          clear g1 k1
          obtain ⟨a', c', rfl, hm⟩ := HM2.out
          have HM3 : Hid (CtAt w1 w3 m P (i + 1) a' c' (no + 1)) := ⟨by rw [HL.out.2.2.2]; exact hm, by rw [HL.out.2.2.2, List.length_append, ← HL.out.2.1]; rfl, HF.out⟩
          clear hm HM2
          go_wp2
          exact ⟨⟨i + 1, no + 1, a', c', rfl, by go_num, by omega, by omega, HM3.out⟩, by simp [intOf]; omega⟩
    · have i2 : ¬ (i : Int) < (n1 : Int) := by omega
      have hall := HP.out.2.1 i (by have := H1.out.1; omega)
      have HX2 : Hid (Row wr w.heap.size ao co (C.map fun (p : Nat) => (p : Int)) ∧ no = C.length ∧ Fr (fun _ => False) w wr) := ⟨by rw [← hall]; exact HX.out.row.low H1.out.2.fr.size, by rw [HX.out.len, hall, List.length_map], H1.out.2.fr.trans HX.out.fr (fun _ _ h => h)⟩
      clear hall HX hlt
      go_wp2
      go_ret2
      exact ⟨ao, co, no, rfl, HX2.out.2.1, HX2.out.1, HX2.out.2.2⟩

set_option maxRecDepth 100000 in
theorem same_calls {w : World} {a b : Option Addr} {X : List Int} {n ca cb : Nat} (hA : IntsAt w a X) (hB : IntsAt w b X) (hn : n = X.length) (hl : n ≤ 1099511627776) :
    Calls Tryd.prog 6 #[.slice a n ca, .slice b n cb] w fun e w' => e = .returned (.bool true) ∧ Fr (fun _ => False) w w' := by
  have HA : Hid (IntsAt w a X ∧ IntsAt w b X ∧ n = X.length) := ⟨hA, hB, hn⟩
  clear hA hB hn
  go_enter Tryd.func6, Tryd.ntmps6
  go_wp2
  go_loopw [5] (fun v5 wr => ∃ i : Nat, v5 = .int .i64 i ∧ i ≤ n ∧ Hid (Fr (fun _ => False) w wr)) (fun v5 _ => n - (intOf v5).toNat)
  case atStart => exact ⟨0, rfl, Nat.zero_le _, Fr.refl _ _⟩
  case round =>
    obtain ⟨i, rfl, hi, HX⟩ := hrel
    by_cases hlt : i < n
    · obtain ⟨x, hx⟩ : ∃ x, X[i]? = some x := ⟨_, List.getElem?_eq_getElem (by have := HA.out.2.2; omega)⟩
      obtain ⟨ba, oa, rfl, hcx⟩ := (HA.out.1.keep HX.out) i x hx
      obtain ⟨bb, ob, rfl, hcy⟩ := (HA.out.2.1.keep HX.out) i x hx
      have i1 : (0 : Int) ≤ (i : Int) := by omega
      have i2 : (i : Int) < (n : Int) := by omega
      have hne : (x != x) = false := by simp
      clear hx
      go_wp2
      go_quiet (fail)
      go_wp2
      exact ⟨⟨i + 1, by go_num, by omega, HX.out.drewN _⟩, by simp [intOf]; omega⟩
    · obtain rfl : i = n := by omega
      go_wp2
      go_ret
      exact ⟨rfl, HX.out⟩

theorem IntsAt.nil (w : World) (a : Option Addr) : IntsAt w a [] := fun j z h => by simp at h

theorem num_cut (n : Int) (w : World) (_ : -9223372036854775808 ≤ n) (_ : n ≤ 9223372036854775807) :
    Calls Tryd.prog 7 #[.int .i64 n] w fun e w' => e = .returned (.int .i64 n) ∧ w' = w := by
  go_enter Tryd.func7, Tryd.ntmps7
  go_wp2
  go_ret
  exact ⟨rfl, rfl⟩

set_option maxRecDepth 100000 in
set_option maxHeartbeats 1600000 in
theorem cuttings_walk (m : Int) (s : ByteArray) (w : World) (hE : Env w) (hbd : s.size ≤ 1048576) :
    Calls Tryd.prog 3 #[.int .i64 m, .string s] w fun e w' => e = .returned (.bool true) ∧ Fr (fun _ => False) w w' := by
  have hsz := Lib.size_eq s
  have HB : Hid (s.data.toList.length ≤ 1048576 ∧ s.size ≤ 1048576) := ⟨by omega, hbd⟩
  have HE : Hid (Env w) := hE
  clear hsz hbd hE
  by_cases hm : 0 ≤ m ∧ m ≤ 3
  · obtain ⟨C, hC⟩ : ∃ C, C = cutsOf m s.data.toList := ⟨_, rfl⟩
    obtain ⟨X, hX⟩ : ∃ X : List Int, X = C.map fun (p : Nat) => (p : Int) := ⟨_, rfl⟩
    obtain ⟨n, hn⟩ : ∃ n, n = C.length := ⟨_, rfl⟩
    have hcl : n ≤ 1099511627776 := by
      have h1 := pts_len s.data.toList.length 0 s.data.toList (Nat.le_refl _)
      have h2 : (cutsOf m s.data.toList).length ≤ (pts 0 s.data.toList).length := by
        unfold cutsOf
        rw [List.length_map]
        exact List.length_filter_le _ _
      have := HB.out.1
      rw [hn, hC]
      omega
    have HM : Hid (0 ≤ m ∧ m ≤ 3 ∧ C = cutsOf m s.data.toList ∧ X = (C.map fun (p : Nat) => (p : Int)) ∧ n = C.length ∧ n = X.length ∧ rowOf C = ints X) := ⟨hm.1, hm.2, hC, hX, hn, by rw [hn, hX, List.length_map], by rw [hX]; simp [rowOf, ints]⟩
    clear hm hC hX hn
    go_enter Tryd.func3, Tryd.ntmps3
    go_wp2_with (first
      | (go_at_call 4; refine (cuts_calls m s _ HM.out.1 HM.out.2.1 HE.out (by have := HB.out; omega)).mono ?_; rw [← HM.out.2.2.1, ← HM.out.2.2.2.2.1, HM.out.2.2.2.2.2.2]; rintro e w1 ⟨a1, c1, rfl, hr1, hf1⟩; have H1 : Hid (Row w1 w.heap.size a1 c1 X ∧ Fr (fun _ => False) w w1) := ⟨by unfold Row; rw [← HM.out.2.2.2.2.2.1]; exact hr1, hf1⟩; clear hr1 hf1)
      | (go_at_call 5; refine (rcuts_calls m s _ HM.out.1 HM.out.2.1 HB.out.2).mono ?_; rw [← HM.out.2.2.1, ← HM.out.2.2.2.1, ← HM.out.2.2.2.2.1]; rintro e w2 ⟨a2, c2, n2, rfl, rfl, hr2, hf2⟩; have H2 : Hid (Row w2 w1.heap.size a2 c2 X ∧ Row w2 w.heap.size a1 c1 X ∧ Fr (fun _ => False) w w2) := ⟨hr2, H1.out.1.keep hf2, H1.out.2.trans hf2 (fun _ _ h => h)⟩; clear hr2 hf2)
      | (go_at_call 6; refine (same_calls H2.out.2.1.ints H2.out.1.ints HM.out.2.2.2.2.2.1 hcl).mono ?_; rintro e w3 ⟨rfl, hf3⟩; have H3 : Hid (Fr (fun _ => False) w w3) := H2.out.2.2.trans hf3 (fun _ _ h => h); clear hf3)
      | (go_at_call 7; refine (num_cut 0 _ (by omega) (by omega)).mono ?_; rintro e w' ⟨rfl, hw⟩; have hw' := hw.symm; subst hw'; clear hw))
    go_ret
    exact ⟨rfl, H3.out⟩
  · have hm' : m < 0 ∨ 3 < m := by omega
    have HM : Hid (m < 0 ∨ 3 < m) := hm'
    clear hm hm'
    go_enter Tryd.func3, Tryd.ntmps3
    go_wp2_with (first
      | (go_at_call 4; refine (cuts_none m s _ HM.out).mono ?_; rintro e w' ⟨rfl, hw⟩; have hw' := hw.symm; subst hw'; clear hw)
      | (go_at_call 5; refine (rcuts_none m s _ HM.out).mono ?_; rintro e w' ⟨rfl, hw⟩; have hw' := hw.symm; subst hw'; clear hw)
      | (go_at_call 6; refine (same_calls (X := []) (n := 0) (IntsAt.nil _ _) (IntsAt.nil _ _) rfl (by omega)).mono ?_; rintro e w3 ⟨rfl, hf3⟩; have H3 : Hid (Fr (fun _ => False) w w3) := hf3; clear hf3)
      | (go_at_call 7; refine (num_cut 1 _ (by omega) (by omega)).mono ?_; rintro e w' ⟨rfl, hw⟩; have hw' := hw.symm; subst hw'; clear hw))
    go_ret
    exact ⟨rfl, H3.out⟩

end Go.Proofs.YtmhaknejeobfgaaDoor

/- Frame. -/
namespace Go.Proofs.YtmhaknejeobfgaaDoor
open Go.RowKit Go.ChangeShapes Go.WideShapes Go.ChangeAt

theorem own : ownKnob Tryd.prog.godebug = none := by kernel_rfl

theorem int_range {raw : Int} (h : (Lit.int .i64 raw).wf = true) : -9223372036854775808 ≤ raw ∧ raw ≤ 9223372036854775807 := by
  have h' : (decide (IntKind.i64.min ≤ raw) && decide (raw ≤ IntKind.i64.max)) = true := h
  rw [Bool.and_eq_true, decide_eq_true_eq, decide_eq_true_eq] at h'
  have e1 : IntKind.i64.min = -9223372036854775808 := by decide
  have e2 : IntKind.i64.max = 9223372036854775807 := by decide
  rw [e1, e2] at h'
  exact h'

/-- What the rows list. -/
def laidL : List (String × DataW Unit) := Rows.cuttingsUptoRow.laid

theorem laid_first : ("unicode/utf8.first", Lib.firstData) ∈ laidL := by
  have : laidL[8]? = some ("unicode/utf8.first", Lib.firstData) := by kernel_rfl
  exact List.mem_of_getElem? this

theorem laid_accept : ("unicode/utf8.acceptRanges", Lib.acceptData) ∈ laidL := by
  have : laidL[3]? = some ("unicode/utf8.acceptRanges", Lib.acceptData) := by kernel_rfl
  exact List.mem_of_getElem? this

theorem laid_space : ("strings.asciiSpace", Lib.tabData .u8 Lib.asciiSpaceTab) ∈ laidL := by
  have : laidL[7]? = some ("strings.asciiSpace", Lib.tabData .u8 Lib.asciiSpaceTab) := by kernel_rfl
  exact List.mem_of_getElem? this

theorem gSpace : Tryd.prog.globalNamed "strings.asciiSpace" = some 0 := by kernel_rfl
theorem gSpaceType : (Tryd.prog.globals[0]?).map (·.type) = some 80 := by kernel_rfl
theorem cellsTab : Tryd.prog.cellsOf 80 = 256 := by kernel_rfl
theorem cellsByte : Tryd.prog.cellsOf 5 = 1 := by kernel_rfl

theorem tabIs_of_reads {P : Program} {W : World} {name : String} {k : IntKind} {zs : List Int} {g : Nat} {t e : TypeId} {n : Nat}
    (hg : P.globalNamed name = some g) (hty : (P.globals[g]?).map (·.type) = some t) (ht : P.underlying t = some (.array n e)) (he : P.underlying e = some (.int k)) (hce : P.cellsOf e = 1) (hct : P.cellsOf t = n)
    (h : Lib.VarReads P W name (Lib.tabData k zs)) : Lib.TabIs P W name k zs := by
  obtain ⟨g', t', cs, fuel, p, hg', ht', hvar, hd⟩ := h
  obtain rfl := Option.some.inj (hg.symm.trans hg')
  obtain rfl := Option.some.inj (hty.symm.trans ht')
  unfold Lib.TabIs
  rw [hvar, ← Lib.cells_of_tab ht he hce hct hd]

/-- WHAT THE LIST AND THE WORLD'S SHAPE GIVE: all that the walks ask of the globals. -/
theorem env_of {W : World} (hL : laidMetH Tryd.prog laidL W) (hsh : W.ShapedOpen Tryd.prog) : Env W := by
  have hM : laidMet Tryd.prog laidL W := hL
  refine ⟨?_, Tryd.laysM219.s1_3 W hsh, ?_, ?_⟩
  · obtain ⟨cs, h, _⟩ := hsh.1 10 #[.pointer none] 92 (by decide +kernel) (by kernel_rfl)
    exact lt_of h
  · exact tabIs_of_reads gSpace gSpaceType Tryd.underlying80 Tryd.underlying5 cellsByte cellsTab (Lib.laidMet.reads hM laid_space)
  · exact utf8Tabs_of_reads { Tryd.lays260 with } ⟨by kernel_rfl, by kernel_rfl, by kernel_rfl, by kernel_rfl, by kernel_rfl, by kernel_rfl, by kernel_rfl⟩ (Lib.laidMet.reads hM laid_first) (Lib.laidMet.reads hM laid_accept)

/-- The bytes of a listed text. -/
def laidBytes : DataW Unit → List UInt8
  | .iface _ (.ptr (.agg [.lit (.string l)])) => l
  | _ => []

def intsOf : DataW Unit → List Value
  | .agg l => l.map fun | .lit (.int k z) => .int k z | _ => .bool false
  | _ => []

/-- A WORLD FOR THE WITNESS: the settled one with four blocks more (the texts of two errors; a table's ranges; the table), the nine listed variables holding what their initialisers lay. -/
def laidWorld (P : Program) (os : Os) : World :=
  let N := (World.settled P os).heap.size
  let w0 := World.holding P os ⟨#[.cells #[.string ⟨(laidBytes Rows.laid_strconv_ErrRange).toArray⟩] 129, .cells #[.string ⟨(laidBytes Rows.laid_strconv_ErrSyntax).toArray⟩] 129,
    .cells (Lib.whiteT.map fun (z : Nat) => Value.int .u16 (z : Int)).toArray 108, .cells #[.slice (some ⟨N + 2, 0, none⟩) 7 7, .slice none 0 0, .int .i64 2] 105], #[], []⟩
  let put (h : Array Obj) (g : Nat) (cs : Array Value) : Array Obj := h.modify g fun
    | .cells _ t frozen => .cells cs t frozen
    | o => o
  let h1 := put w0.heap 0 (Lib.asciiSpaceTab.map fun z => Value.int .u8 z).toArray
  let h2 := put h1 5 (Lib.firstTab.map fun z => Value.int .u8 z).toArray
  let h3 := put h2 6 ((List.range 16).flatMap fun i => [Value.int .u8 (Lib.accLo i), Value.int .u8 (Lib.accHi i)]).toArray
  let h4 := put h3 1 #[.pointer (some ⟨N + 3, 0, none⟩)]
  let h5 := put h4 3 #[.iface 127 (.pointer (some ⟨N, 0, none⟩))]
  let h6 := put h5 2 #[.iface 127 (.pointer (some ⟨N + 1, 0, none⟩))]
  let h7 := put h6 8 (intsOf Rows.laid_math_bits_deBruijn32tab).toArray
  let h8 := put h7 9 (intsOf Rows.laid_math_bits_deBruijn64tab).toArray
  let h9 := put h8 7 (intsOf Rows.laid_internal_strconv_uint64pow10).toArray
  { w0 with heap := h9 }

theorem laid_met (os : Os) (args : Array Value) : laidMet Tryd.prog laidL ((laidWorld Tryd.prog os).forCall (fun _ _ => 0) ⟨#[], args, []⟩).memory :=
  laidMet_of_run3 8 (by kernel_rfl) (by kernel_rfl) (by kernel_rfl)

end Go.Proofs.YtmhaknejeobfgaaDoor

/- ConCuttings. -/
namespace Go.Proofs.YtmhaknejeobfgaaDoor.cuttingsProof
open Go.ChangeShapes Go.WideShapes Go.ChangeAt Go.RowKit
open Go.ChangeMaps (open_string shut_string)

theorem bound {x0 : Int} {x1 : ByteArray} {H : Type} (h : Rows.uptoSmall H [.lit (.int .i64 x0), .lit (.string x1.data.toList)] = true) : x1.size ≤ 1048576 ∧ x1.size ≤ 1048576 := by
  have h := of_decide_eq_true h
  simp only [Rows.uptoBulkAll, Rows.uptoBulk] at h
  have s1 := Lib.size_eq x1
  omega

set_option maxRecDepth 100000 in
theorem contract (H : Type) (enc : TypeId × Value → H) (F : Stop.Interp) (W : World) (base : Nat) (args : Array Value) (ds gs : List (DataW H)) (before : List MemPlace)
    (hval : ∀ (j : Nat) t v, Tryd.f3.params[j]? = some t → args[j]? = some v → Value.okWide Tryd.prog W .any base t v)
    (hW : DataW.Whole enc Tryd.prog Tryd.f3.params.toList (Rows.OpenSpec.upto Rows.cuttingsSpec).vars false W args.toList ds gs before)
    (hcond : ∀ k, (Rows.OpenSpec.upto Rows.cuttingsSpec).cond = some k → k H (ds ++ gs) = true) (hL : laidMetH Tryd.prog laidL W) (hsh : W.ShapedOpen Tryd.prog) :
    Calls Tryd.prog 3 args W fun e W' => ∃ v, e = .returned v ∧ ((Rows.OpenSpec.upto Rows.cuttingsSpec).at F).post enc Tryd.prog Tryd.f3 false true false false W args v W' := by
  have hW' := hW
  obtain ⟨p, q, hA0, hV0, rfl, _, _⟩ := hW
  have hA : DataW.TrodAll enc Tryd.prog W 0 (fun _ => true) true Tryd.f3.params.toList args.toList ds p := hA0
  rw [Tryd.params3] at hA hval
  obtain ⟨v0, vs0, d0, ds0, p0, q0, hargs, rfl, rfl, h0, t0⟩ := trodAll_cons hA
  obtain ⟨v1, vs1, d1, ds1, p1, q1, rfl, rfl, rfl, h1, t1⟩ := trodAll_cons t0
  obtain ⟨rfl, rfl, rfl⟩ := trodAll_nil t1
  obtain rfl : args = #[v0, v1] := by cases args; simp_all
  obtain ⟨rfl, rfl⟩ := trodVars_none hV0
  obtain ⟨x0, rfl, rfl, rfl, w0⟩ := open_int Tryd.underlying3 (hval 0 3 v0 rfl rfl) h0
  obtain ⟨x1, rfl, rfl, rfl, w1⟩ := open_string Tryd.underlying9 (hval 1 9 v1 rfl rfl) h1
  clear hA0
  simp only [List.append_nil] at hW' hcond
  have hk := hcond Rows.uptoSmall rfl
  have hb := bound hk
  have r0 := int_range w0
  refine (cuttings_walk x0 x1 W (env_of hL hsh) hb.1).mono ?_
  rintro e W' ⟨rfl, hf⟩
  have bel := hf.below
  refine ⟨_, rfl, [.lit (.int .i64 x0), .lit (.string x1.data.toList)], [], [], [], [], [], hW', ?_, ?_, ?_, bel.frame _, fun h => by cases h⟩
  · exact trodAll_mk1 (shut_bool Tryd.underlying4 _)
  · exact (trodAll_cons_mk (shut_int Tryd.underlying3 w0) (trodAll_cons_mk (shut_string Tryd.underlying9 w1) trodAll_mk0))
  · rfl

end Go.Proofs.YtmhaknejeobfgaaDoor.cuttingsProof
